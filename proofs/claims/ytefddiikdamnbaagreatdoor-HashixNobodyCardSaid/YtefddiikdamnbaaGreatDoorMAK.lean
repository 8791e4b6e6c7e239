/- Texts of the same proof, one behind the other: SZE, SZF, SZG, PIter, SZH, SZI. -/
import Derived.Test.YtefddiikdamnbaaGreatDoorMAJ
import Derived.BigQuiet
import Derived.Deep.RegionHeld3
import Derived.Lib.SmallJoins
import Derived.Shelf.SlIterI.Nil
import Derived.Test.YtefddiikdamnbaaGreatDoorProg
/- store.finish, where the log's file has room. -/
set_option maxRecDepth 100000
namespace Go.Proofs.YtefddiikdamnbaaGreatDoor
open Go.RowKit

/-- The disk's raw writes: the log's file holds these records, the head's file these bytes. -/
def JL (rs : List ByteArray) (f2 : List UInt8) (ops : List RawOp) : Prop := play ops 0 = logB rs ∧ play ops 2 = f2
theorem JL.save {rs : List ByteArray} {f2 : List UInt8} (ops : List RawOp) (q : Nat) (bs : ByteArray) (h : JL rs f2 ops) : JL rs f2 (ops ++ [.put 1 (q * 512) bs]) := by
  unfold JL at h ⊢
  rw [play_snoc, RawOp.run, upd_other _ _ (by omega), upd_other _ _ (by omega)]
  exact h
def FinPost (B : Nat) (S : Nat → Prop) (s d l p n : Nat) (C : Nat → List UInt8) (P : Nat → Nat) (N : Nat) (rs : List ByteArray) (f2 : List UInt8) (h' : Hd) (cur : Option Nat) (ps : List Pt) (w w' : World) : Prop :=
  ∃ S', Kept (fun k => S k ∨ k = s) w w' ∧ (∀ k, k < w.heap.size → S' k → S k) ∧ PoolJ (JL (rs ++ [⟨(recB h' ps).toArray⟩]) f2) B S' p d n (appC C ps) P (N + 1 + 3 * ps.length) w' ∧ SpaceAt w' s d l p h' cur

end Go.Proofs.YtefddiikdamnbaaGreatDoor

/- draft.changed: the stretches in which a draft is not as it was. -/
set_option maxRecDepth 100000
namespace Go.Proofs.YtefddiikdamnbaaGreatDoor
open Go.RowKit

/-- A stretch's cells: from, to. -/
def sgC (x : Nat × Nat) : List Value := [.int .i64 x.1, .int .i64 x.2]
/-- Stretches in a row of their own. -/
def SgAt (B : Nat) (w : World) (v : Value) (l : List (Nat × Nat)) : Prop := w.ownsRow B 234 2 v l.length (l.flatMap sgC)
/-- One place more. -/
def chStep (was now : List UInt8) (l : List (Nat × Nat)) (i : Nat) : List (Nat × Nat) :=
  if now.getD i 0 = was.getD i 0 then l
  else match l.getLast? with
    | some x => if i ≤ x.2 + 6 then l.dropLast ++ [(x.1, i + 1)] else l ++ [(i, i + 1)]
    | none => l ++ [(i, i + 1)]
def chUpto (was now : List UInt8) : Nat → List (Nat × Nat)
  | 0 => []
  | q + 1 => chStep was now (chUpto was now q) q

def SgOk (q : Nat) (l : List (Nat × Nat)) : Prop := l.length ≤ q ∧ ∀ x ∈ l, x.1 < x.2 ∧ x.2 ≤ q
end Go.Proofs.YtefddiikdamnbaaGreatDoor

/- draft.patches: what leads from a page, as it was, to its draft. -/
set_option maxRecDepth 100000
namespace Go.Proofs.YtefddiikdamnbaaGreatDoor
open Go.RowKit

/-- What leads from a page to its draft. -/
def freshPt (q : Nat) (fr : Bool) : List Pt := if fr then [⟨q, 0, ⟨#[]⟩⟩] else []
def sgPt (q : Nat) (now : List UInt8) (s : Nat × Nat) : Pt := ⟨q, s.1, ⟨((now.drop s.1).take (s.2 - s.1)).toArray⟩⟩
def drPts (q : Nat) (x : Dr) : List Pt := freshPt q x.fresh ++ (chUpto x.was x.now 512).map (sgPt q x.now)

end Go.Proofs.YtefddiikdamnbaaGreatDoor

/- What the library's own contracts of maps.Keys and slices.Sorted say at this program: each is one application. -/
namespace Go.Proofs
open Go.Shelf
end Go.Proofs

/- The pages that have a draft, rising: slices.Sorted over maps.Keys. -/
set_option maxRecDepth 100000
namespace Go.Proofs.YtefddiikdamnbaaGreatDoor
open Go.RowKit Go.Maps Go.Sort Go.Shelf

/-- A rising list of the pages that have a draft. -/
def KeysOf (D : Nat → Option Dr) (ks : List Nat) : Prop := ks.Pairwise (fun x y => x < y) ∧ ∀ q, q ∈ ks ↔ (D q).isSome = true

theorem intKeys_spec {w : World} {b n : Nat} {D0 : DataW Value} {R : Value → Option (DataW Value × List MemPlace)} (hown : w.ownsMap Tryz.prog 3 R b n D0) :
    (intKeys D0).Nodup ∧ (∀ x, x ∈ intKeys D0 ↔ Maps.has D0 (.int .i64 x) = true) ∧ (intKeys D0).length = Maps.size D0 := by
  obtain ⟨es, hD, hpw, _⟩ := hown.entries keyI
  obtain ⟨es', hD', hko⟩ := hown.keysOf
  obtain rfl : es = es' := by rw [hD] at hD'; simpa using hD'
  subst hD
  have hk : ∀ p ∈ es, ∃ x, p.1 = .int .i64 x := fun p hp => by
    obtain ⟨v, hv⟩ := hko p hp
    obtain ⟨x, _, hx, _⟩ := Maps.keyOf_i64 Tryz.underlying3 hv
    exact ⟨x, hx⟩
  refine ⟨?_, fun x => ?_, by simp [intKeys, Maps.size]⟩
  · show (es.map fun p => Go.intOf p.1).Nodup
    refine List.pairwise_map.2 (hpw.imp_of_mem fun {p q} hp hq hne e => hne ?_)
    obtain ⟨a, ha⟩ := hk p hp
    obtain ⟨c, hc⟩ := hk q hq
    rw [ha, hc] at e ⊢
    exact congrArg _ e
  · show x ∈ es.map (fun p => Go.intOf p.1) ↔ _
    rw [List.mem_map, has_eq, List.any_eq_true]
    refine ⟨fun ⟨p, hp, hx⟩ => ⟨p, hp, ?_⟩, fun ⟨p, hp, hx⟩ => ⟨p, hp, ?_⟩⟩
    · obtain ⟨a, ha⟩ := hk p hp
      rw [ha] at hx ⊢
      subst hx
      simp [Lit.sameKey, Go.intOf]
    · obtain ⟨a, ha⟩ := hk p hp
      rw [ha] at hx ⊢
      simpa [Lit.sameKey, Go.intOf] using hx

theorem rising_le (N : Nat) : ∀ (l : List Nat) (lo : Nat), l.Pairwise (fun x y => x < y) → (∀ x ∈ l, lo ≤ x ∧ x < N) → l = [] ∨ l.length + lo ≤ N
  | [], _, _, _ => .inl rfl
  | a :: r, lo, hp, hb => by
    have ha := hb a (by simp)
    obtain ⟨h1, h2⟩ := List.pairwise_cons.1 hp
    rcases rising_le N r (a + 1) h2 (fun x hx => ⟨h1 x hx, (hb x (by simp [hx])).2⟩) with rfl | h
    · exact .inr (by simp; omega)
    · exact .inr (by simp; omega)

/-- Out of the map's keys, in whatever order. -/
theorem DraftsAt.keys {w : World} {db m : Nat} {D : Nat → Option Dr} (h : DraftsAt w db m D) :
    ∃ D0 : DataW Value, w.ownsMap Tryz.prog 3 asIs db m D0 ∧ Maps.size D0 = m ∧ ∀ ss : List Int, ss.Perm (intKeys D0) → ∃ ks : List Nat, KeysOf D ks ∧ ks.length = ss.length ∧ (ss.mergeSort (fun x y => decide (x ≤ y))).map encZ = ks.map fun k : Nat => Value.int .i64 (k : Int) := by
  obtain ⟨F, ⟨D0, h1, h2, h3⟩, h4, h5⟩ := h.map
  refine ⟨D0, h1, h2, fun ss hp => ?_⟩
  obtain ⟨hnd, hmem, _⟩ := intKeys_spec h1
  have hwf := intKeys_wf h1 Tryz.underlying3
  obtain ⟨zs, hzs⟩ : ∃ zs, zs = ss.mergeSort (fun x y => decide (x ≤ y)) := ⟨_, rfl⟩
  have hpz : zs.Perm (intKeys D0) := by rw [hzs]; exact (List.mergeSort_perm ss _).trans hp
  have hkey : ∀ z, z ∈ zs ↔ ∃ n : Nat, (n : Int) = z ∧ (D n).isSome = true := fun z => by
    rw [hpz.mem_iff]
    constructor
    · intro hz
      rcases h3 z (hwf z hz) with ⟨_, e⟩ | ⟨v, e, _⟩
      · rw [(hmem z).1 hz] at e; cases e
      · obtain ⟨n, x, hn, hx, _⟩ := h5 z v e
        exact ⟨n, hn, by rw [hx]; rfl⟩
    · rintro ⟨n, rfl, hn⟩
      obtain ⟨x, hx⟩ := Option.isSome_iff_exists.1 hn
      rw [hmem]
      rcases h3 n (WalkArith.wf_i64 (by have := (h.at_ n x hx).1; omega)) with ⟨e, _⟩ | ⟨v, _, e, _⟩
      · rw [h4 n x hx] at e; cases e
      · exact e
  have hsorted : zs.Pairwise (fun x y => x < y) := by
    have tr : ∀ a b c : Int, decide (a ≤ b) = true → decide (b ≤ c) = true → decide (a ≤ c) = true := fun a b c x y => by simp only [decide_eq_true_eq] at *; omega
    have tot : ∀ a b : Int, (decide (a ≤ b) || decide (b ≤ a)) = true := fun a b => by simp only [Bool.or_eq_true, decide_eq_true_eq]; omega
    have hle := List.pairwise_mergeSort tr tot ss
    rw [← hzs] at hle
    have hne : zs.Nodup := hpz.nodup_iff.2 hnd
    refine (hle.and hne).imp (fun {a b} ⟨x, y⟩ => ?_)
    have := of_decide_eq_true x
    omega
  have hlen : zs.length = ss.length := by rw [hzs]; exact List.length_mergeSort ss
  rw [← hzs]
  refine ⟨zs.map Int.toNat, ⟨?_, fun q => ?_⟩, by rw [List.length_map, hlen], ?_⟩
  · refine List.pairwise_map.2 (hsorted.imp_of_mem fun {a b} ha hb hab => ?_)
    obtain ⟨n, hn, _⟩ := (hkey a).1 ha
    obtain ⟨k, hk, _⟩ := (hkey b).1 hb
    omega
  · rw [List.mem_map]
    constructor
    · rintro ⟨z, hz, rfl⟩
      obtain ⟨n, rfl, hn⟩ := (hkey z).1 hz
      simpa using hn
    · intro hq
      exact ⟨q, (hkey q).2 ⟨q, rfl, hq⟩, by simp⟩
  · rw [List.map_map]
    refine List.map_congr_left fun z hz => ?_
    obtain ⟨n, rfl, _⟩ := (hkey z).1 hz
    simp [encZ]

theorem KeysOf.le {w : World} {db m : Nat} {D : Nat → Option Dr} (h : DraftsAt w db m D) {ks : List Nat} (hk : KeysOf D ks) : ks.length ≤ 4096 := by
  rcases rising_le 4096 ks 0 hk.1 (fun x hx => ⟨by omega, by
    obtain ⟨y, hy⟩ := Option.isSome_iff_exists.1 ((hk.2 x).1 hx)
    exact (h.at_ x y hy).1⟩) with rfl | h
  · simp
  · omega
/-- There are no more drafts than pages. -/
theorem DraftsAt.few {w : World} {db m : Nat} {D : Nat → Option Dr} (h : DraftsAt w db m D) : m ≤ 4096 := by
  obtain ⟨D0, h1, h2, h3⟩ := h.keys
  obtain ⟨ks, hk, hl, _⟩ := h3 _ (List.Perm.refl _)
  have := (intKeys_spec h1).2.2
  have := KeysOf.le h hk
  omega

end Go.Proofs.YtefddiikdamnbaaGreatDoor

/- Action.patches: what leads from the pages, as the last finished action left them, to the drafts. -/
set_option maxRecDepth 100000
namespace Go.Proofs.YtefddiikdamnbaaGreatDoor
open Go.RowKit

def drPtsO (q : Nat) : Option Dr → List Pt
  | some x => drPts q x
  | none => []
def allPts (D : Nat → Option Dr) (ks : List Nat) : List Pt := ks.flatMap fun q => drPtsO q (D q)
end Go.Proofs.YtefddiikdamnbaaGreatDoor
