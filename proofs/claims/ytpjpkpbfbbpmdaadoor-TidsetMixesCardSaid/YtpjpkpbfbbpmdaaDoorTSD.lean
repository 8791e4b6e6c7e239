/- Maps from pages: to places, and to nothing; sorted keys of them; a set in memory. -/
import Derived.Test.YtpjpkpbfbbpmdaaDoorTSC
import Derived.Test.YtpjpkpbfbbpmdaaDoorPShelf
import Derived.Test.YtpjpkpbfbbpmdaaDoorPIter14
import Derived.Maps.RangeWalk
import Derived.Maps.Views
import Derived.Shelf.SlIterI.Nil
set_option maxRecDepth 100000
namespace Go.Proofs.YtpjpkpbfbbpmdaaDoor.Ts
open Go.RowKit Go.Maps Go.Sort Go.Shelf

abbrev Dv := DataW Value
abbrev Rd := Value → Option (Dv × List MemPlace)
theorem keyI : Keyed Tryd.prog 3 := int_keyed Tryd.underlying3
theorem isKeyI (q : Int) : WideAt.IsKeyLit (.int .i64 q) := trivial
noncomputable def rdPl : Rd := plainElem Tryd.prog 56
noncomputable def rdU : Rd := unitElem

/-- Block b is a map whose keys are ints: at each it has what F says. -/
def MapIs (R : Rd) (w : World) (b : Nat) (F : Int → Option Dv) : Prop :=
  ∃ D : Dv, w.ownsMap Tryd.prog 3 R b (Maps.size D) D ∧ ∀ q : Int, (Lit.int .i64 q).wf = true →
    (F q = none ∧ Maps.has D (.int .i64 q) = false ∨ ∃ d, F q = some d ∧ Maps.has D (.int .i64 q) = true ∧ ∀ z, D.atKey (.int .i64 q) z = d)

theorem own_size {R : Rd} {w : World} {b n : Nat} {D : Dv} (h : w.ownsMap Tryd.prog 3 R b n D) : w.ownsMap Tryd.prog 3 R b (Maps.size D) D := by
  obtain ⟨es, clock, hb, F, hs, rfl⟩ := h
  exact ⟨es, clock, hb, F, by simp [Maps.size, length_sorted], rfl⟩
theorem wfN (q : Nat) (h : q < 262144) : (Lit.int .i64 (q : Int)).wf = true := WalkArith.wf_i64 (by omega)

section
variable {R : Rd} {w w' : World} {b : Nat} {F : Int → Option Dv}
theorem MapIs.lt (h : MapIs R w b F) : b < w.heap.size := h.elim fun _ h => h.1.lt
theorem MapIs.block (h : MapIs R w b F) (hb : w'.heap[b]? = w.heap[b]?) : MapIs R w' b F := by
  obtain ⟨D, ⟨es, clock, h1, h2⟩, h3⟩ := h
  exact ⟨D, ⟨es, clock, hb.trans h1, h2⟩, h3⟩
theorem MapIs.isMap (h : MapIs R w b F) : ∃ es clock, w.heap[b]? = some (.map es clock) := by
  obtain ⟨D, ⟨es, clock, h1, _⟩, _⟩ := h
  exact ⟨es, clock, h1⟩
theorem MapIs.congr {G : Int → Option Dv} (h : MapIs R w b F) (hG : ∀ q, F q = G q) : MapIs R w b G := by
  rw [show G = F from funext fun q => (hG q).symm]; exact h
theorem map_made (R : Rd) (w : World) : MapIs R (w.alloc (.map #[] 0)) w.heap.size (fun _ => none) :=
  ⟨.map [], World.ownsMap_made _ _ _ _, fun _ _ => .inl ⟨rfl, rfl⟩⟩

theorem intKeys_spec {n : Nat} {D0 : Dv} (hown : w.ownsMap Tryd.prog 3 R b n D0) :
    (intKeys D0).Nodup ∧ (∀ x, x ∈ intKeys D0 ↔ Maps.has D0 (.int .i64 x) = true) ∧ (intKeys D0).length = Maps.size D0 := by
  obtain ⟨es, hD, hpw, _⟩ := hown.entries keyI
  obtain ⟨es', hD', hko⟩ := hown.keysOf
  obtain rfl : es = es' := by rw [hD] at hD'; simpa using hD'
  subst hD
  have hk : ∀ p ∈ es, ∃ x, p.1 = .int .i64 x := fun p hp => by
    obtain ⟨v, hv⟩ := hko p hp
    obtain ⟨x, _, hx, _⟩ := Maps.keyOf_i64 Tryd.underlying3 hv
    exact ⟨x, hx⟩
  refine ⟨?_, fun x => ?_, by simp [intKeys, Maps.size]⟩
  · show (es.map fun p => Go.intOf p.1).Nodup
    refine List.pairwise_map.2 (hpw.imp_of_mem fun {p q} hp hq hne e => hne ?_)
    obtain ⟨a, ha⟩ := hk p hp
    obtain ⟨c, hc⟩ := hk q hq
    rw [ha, hc] at e ⊢
    exact congrArg _ e
  · show x ∈ es.map (fun p => Go.intOf p.1) ↔ _
    rw [List.mem_map, has_eq, List.any_eq_true]
    refine ⟨fun ⟨p, hp, hx⟩ => ⟨p, hp, ?_⟩, fun ⟨p, hp, hx⟩ => ⟨p, hp, ?_⟩⟩
    · obtain ⟨a, ha⟩ := hk p hp
      rw [ha] at hx ⊢
      subst hx
      simp [Lit.sameKey, Go.intOf]
    · obtain ⟨a, ha⟩ := hk p hp
      rw [ha] at hx ⊢
      simpa [Lit.sameKey, Go.intOf] using hx

theorem srt_few (N : Nat) : ∀ (l : List Nat) (lo : Nat), Srt l → (∀ x ∈ l, lo ≤ x ∧ x < N) → l = [] ∨ l.length + lo ≤ N
  | [], _, _, _ => .inl rfl
  | a :: r, lo, hp, hb => by
    have ha := hb a (by simp)
    obtain ⟨h1, h2⟩ := List.pairwise_cons.1 hp
    rcases srt_few N r (a + 1) h2 (fun x hx => ⟨h1 x hx, (hb x (by simp [hx])).2⟩) with rfl | h
    · exact .inr (by simp; omega)
    · exact .inr (by simp; omega)

/-- The keys, sorted: a rising list of just the pages there are. -/
theorem keys_sorted {n : Nat} {D0 : Dv} (h1 : w.ownsMap Tryd.prog 3 R b n D0) (hb : ∀ q : Int, Maps.has D0 (.int .i64 q) = true → 0 ≤ q ∧ q < 262144) (ss : List Int) (hp : ss.Perm (intKeys D0)) :
    ∃ ks : List Nat, Srt ks ∧ (∀ q : Nat, q ∈ ks ↔ Maps.has D0 (.int .i64 (q : Int)) = true) ∧ ks.length = ss.length ∧ (ss.mergeSort (fun x y => decide (x ≤ y))).map encZ = ks.map fun k : Nat => Value.int .i64 (k : Int) := by
  obtain ⟨hnd, hmem, _⟩ := intKeys_spec h1
  obtain ⟨zs, hzs⟩ : ∃ zs, zs = ss.mergeSort (fun x y => decide (x ≤ y)) := ⟨_, rfl⟩
  have hpz : zs.Perm (intKeys D0) := by rw [hzs]; exact (List.mergeSort_perm ss _).trans hp
  have hkey : ∀ z, z ∈ zs → ∃ n : Nat, (n : Int) = z := fun z hz => by
    have := hb z ((hmem z).1 (hpz.mem_iff.1 hz))
    exact ⟨z.toNat, by omega⟩
  have hsorted : zs.Pairwise (fun x y => x < y) := by
    have tr : ∀ a b c : Int, decide (a ≤ b) = true → decide (b ≤ c) = true → decide (a ≤ c) = true := fun a b c x y => by simp only [decide_eq_true_eq] at *; omega
    have tot : ∀ a b : Int, (decide (a ≤ b) || decide (b ≤ a)) = true := fun a b => by simp only [Bool.or_eq_true, decide_eq_true_eq]; omega
    have hle := List.pairwise_mergeSort tr tot ss
    rw [← hzs] at hle
    have hne : zs.Nodup := hpz.nodup_iff.2 hnd
    refine (hle.and hne).imp (fun {a b} ⟨x, y⟩ => ?_)
    have := of_decide_eq_true x
    omega
  have hlen : zs.length = ss.length := by rw [hzs]; exact List.length_mergeSort ss
  rw [← hzs]
  refine ⟨zs.map Int.toNat, ?_, fun q => ?_, by rw [List.length_map, hlen], ?_⟩
  · refine List.pairwise_map.2 (hsorted.imp_of_mem fun {a b} ha hb hab => ?_)
    obtain ⟨n, hn⟩ := hkey a ha
    obtain ⟨k, hk⟩ := hkey b hb
    omega
  · rw [List.mem_map, ← hmem, ← hpz.mem_iff]
    constructor
    · rintro ⟨z, hz, rfl⟩
      obtain ⟨n, rfl⟩ := hkey z hz
      simpa using hz
    · intro hq
      exact ⟨q, hq, by simp⟩
  · rw [List.map_map]
    refine List.map_congr_left fun z hz => ?_
    obtain ⟨n, rfl⟩ := hkey z hz
    simp [encZ]
theorem size_few {n : Nat} {D0 : Dv} (h1 : w.ownsMap Tryd.prog 3 R b n D0) (hb : ∀ q : Int, Maps.has D0 (.int .i64 q) = true → 0 ≤ q ∧ q < 262144) : Maps.size D0 ≤ 262144 := by
  obtain ⟨ks, hs, hm, hl, _⟩ := keys_sorted h1 hb _ (List.Perm.refl _)
  have := (intKeys_spec h1).2.2
  rcases srt_few 262144 ks 0 hs (fun x hx => ⟨by omega, by have := hb x ((hm x).1 hx); omega⟩) with rfl | h
  · simp at hl; omega
  · omega
theorem has_wf {n : Nat} {D0 : Dv} (h1 : w.ownsMap Tryd.prog 3 R b n D0) {q : Int} (h : Maps.has D0 (.int .i64 q) = true) : (Lit.int .i64 q).wf = true :=
  intKeys_wf h1 Tryd.underlying3 q (((intKeys_spec h1).2.1 q).2 h)

/-- All keys are pages. -/
def Pgs (F : Int → Option Dv) : Prop := ∀ q, F q ≠ none → 0 ≤ q ∧ q < 262144
theorem MapIs.has_page {D : Dv} {n : Nat} (h1 : w.ownsMap Tryd.prog 3 R b n D) (h3 : ∀ q : Int, (Lit.int .i64 q).wf = true → (F q = none ∧ Maps.has D (.int .i64 q) = false ∨ ∃ d, F q = some d ∧ Maps.has D (.int .i64 q) = true ∧ ∀ z, D.atKey (.int .i64 q) z = d)) (hP : Pgs F)
    (q : Int) (hq : Maps.has D (.int .i64 q) = true) : 0 ≤ q ∧ q < 262144 := by
  rcases h3 q (has_wf h1 hq) with ⟨_, e⟩ | ⟨d, e, _⟩
  · rw [hq] at e; cases e
  · exact hP q (by rw [e]; simp)

def updI (F : Int → Option Dv) (q : Int) (x : Option Dv) : Int → Option Dv := fun i => if i = q then x else F i

theorem MapIs.put (h : MapIs R w b F) (hP : Pgs F) {t e : TypeId} (ht : Tryd.prog.underlying t = some (.map 3 e)) (q : Nat) (hq : q < 262144) (v : Value) (d : Dv) (hv : R v = some (d, [])) :
    ∃ w', (Instr.mapUpdate t (.map (some b)) (.int .i64 q) v).run Tryd.prog w = .ok () w' ∧ MapIs R w' b (updI F q (some d)) ∧ w.mapTurned w' b := by
  obtain ⟨D, h1, h3⟩ := h
  have hfew := size_few h1 (MapIs.has_page h1 h3 hP)
  obtain ⟨w', hr, ho, ht'⟩ := h1.store keyI ht (by unfold maxLen; omega) (keyOf_int_mk (P := Tryd.prog) Tryd.underlying3 (wfN q hq)) hv
  refine ⟨w', hr, ⟨_, own_size ho, fun i hi => ?_⟩, ht'⟩
  by_cases hiq : i = q
  · subst hiq
    exact .inr ⟨d, by simp [updI], Maps.has_put_same h1.isMap (isKeyI _) _, fun z => Maps.atKey_put_same h1.isMap (isKeyI _) _ z⟩
  · have hne : (Lit.int .i64 i) ≠ .int .i64 q := fun e => hiq (by injection e)
    rw [show updI F q (some d) i = F i by simp [updI, hiq], Maps.has_put_other hne]
    exact (h3 i hi).imp id (fun ⟨u, hu, h4, h5⟩ => ⟨u, hu, h4, fun z => by rw [Maps.atKey_put_other hne]; exact h5 z⟩)

theorem MapIs.del (h : MapIs R w b F) {t e : TypeId} (ht : Tryd.prog.underlying t = some (.map 3 e)) (q : Nat) (hq : q < 262144) (ty : TypeId) :
    ∃ w', (Builtin.delete_ #[t, 3] ty #[.map (some b), .int .i64 q]).run Tryd.prog w = .ok (.tuple #[]) w' ∧ MapIs R w' b (updI F q none) ∧ w.mapTurned w' b := by
  obtain ⟨D, h1, h3⟩ := h
  obtain ⟨w', hr, ho, ht'⟩ := h1.drop keyI ht (keyOf_int_mk (P := Tryd.prog) Tryd.underlying3 (wfN q hq)) ty
  refine ⟨w', hr, ⟨_, own_size ho, fun i hi => ?_⟩, ht'⟩
  by_cases hiq : i = q
  · subst hiq
    exact .inl ⟨by simp [updI], Maps.has_del_same⟩
  · have hne : (Lit.int .i64 i) ≠ .int .i64 q := fun e => hiq (by injection e)
    rw [show updI F q none i = F i by simp [updI, hiq], Maps.has_del_other hne]
    exact (h3 i hi).imp id (fun ⟨u, hu, h4, h5⟩ => ⟨u, hu, h4, fun z => by rw [Maps.atKey_del_other hne]; exact h5 z⟩)
end

theorem Kept.ofTurned {S : Nat → Prop} {a b : World} {r : Nat} (h : a.mapTurned b r) (hr : S r) : Kept S a b := Kept.ofGrown h.grown (fun k hk => by injection hk with hk; exact hk ▸ hr)

/-- What the map of places has; what that of whole pages. -/
def exF (T : List Nat) (q : Int) : Option Dv := if 0 ≤ q ∧ pl T q.toNat ≠ 0 then some (.lit (.int .u64 (pl T q.toNat : Nat))) else none
def whF (P : List Nat) (q : Int) : Option Dv := if 0 ≤ q ∧ q.toNat ∈ P then some (.agg []) else none
theorem exF_nat (T : List Nat) (q : Nat) : exF T q = if pl T q ≠ 0 then some (.lit (.int .u64 (pl T q : Nat))) else none := by simp [exF]
theorem whF_nat (P : List Nat) (q : Nat) : whF P q = if q ∈ P then some (.agg []) else none := by simp [whF]
theorem exF_pgs {T : List Nat} (h : ∀ t ∈ T, t < 16777216) : Pgs (exF T) := fun q hq => by
  unfold exF at hq
  split at hq
  · rename_i hh
    refine ⟨hh.1, ?_⟩
    by_cases hlt : q < 262144
    · exact hlt
    · exact absurd (pl_zero.2 fun t ht e => by have := h t ht; omega) hh.2
  · exact absurd rfl hq
theorem whF_pgs {P : List Nat} (h : ∀ p ∈ P, p < 262144) : Pgs (whF P) := fun q hq => by
  unfold whF at hq
  split at hq
  · rename_i hh
    have := h _ hh.2
    exact ⟨hh.1, by omega⟩
  · exact absurd rfl hq

/-- A set in memory: its cells lie at block b, its maps at be and bw. -/
structure SetAt (w : World) (b be bw most : Nat) (T P : List Nat) : Prop where
  blk : w.heap[b]? = some (.cells #[.pointer (some ⟨b, 0, none⟩), .int .i64 most, .int .i64 (T.length : Int), .map (some be), .map (some bw)] 45 (0, 0))
  ex : MapIs rdPl w be (exF T)
  wh : MapIs rdU w bw (whF P)
  ne : be ≠ bw
section
variable {w w' : World} {b be bw most : Nat} {T P : List Nat}
theorem SetAt.lt (h : SetAt w b be bw most T P) : b < w.heap.size := (Array.getElem?_eq_some_iff.1 h.blk).1
theorem SetAt.nb (h : SetAt w b be bw most T P) : b ≠ be ∧ b ≠ bw := by
  obtain ⟨es, c, h1⟩ := h.ex.isMap
  obtain ⟨es', c', h2⟩ := h.wh.isMap
  refine ⟨fun e => ?_, fun e => ?_⟩
  · rw [← e, h.blk] at h1; cases h1
  · rw [← e, h.blk] at h2; cases h2
theorem SetAt.cell (h : SetAt w b be bw most T P) (i : Nat) : w.cell? ⟨b, i, none⟩ = (#[.pointer (some ⟨b, 0, none⟩), .int .i64 (most : Int), .int .i64 (T.length : Int), .map (some be), .map (some bw)] : Array Value)[i]? := Lib.cell_of_heap h.blk i
theorem SetAt.c0 (h : SetAt w b be bw most T P) : w.cell? ⟨b, 0, none⟩ = some (.pointer (some ⟨b, 0, none⟩)) := h.cell 0
theorem SetAt.c1 (h : SetAt w b be bw most T P) : w.cell? ⟨b, 1, none⟩ = some (.int .i64 most) := h.cell 1
theorem SetAt.c2 (h : SetAt w b be bw most T P) : w.cell? ⟨b, 2, none⟩ = some (.int .i64 (T.length : Int)) := h.cell 2
theorem SetAt.c3 (h : SetAt w b be bw most T P) : w.cell? ⟨b, 3, none⟩ = some (.map (some be)) := h.cell 3
theorem SetAt.c4 (h : SetAt w b be bw most T P) : w.cell? ⟨b, 4, none⟩ = some (.map (some bw)) := h.cell 4
theorem SetAt.blocks (h : SetAt w b be bw most T P) (h1 : w'.heap[b]? = w.heap[b]?) (h2 : w'.heap[be]? = w.heap[be]?) (h3 : w'.heap[bw]? = w.heap[bw]?) : SetAt w' b be bw most T P :=
  ⟨h1.trans h.blk, h.ex.block h2, h.wh.block h3, h.ne⟩
theorem SetAt.below (h : SetAt w b be bw most T P) (hb : Below w.heap.size w w') : SetAt w' b be bw most T P :=
  h.blocks (hb.block b h.lt) (hb.block be h.ex.lt) (hb.block bw h.wh.lt)
theorem SetAt.kept {S : Nat → Prop} (h : SetAt w b be bw most T P) (hk : Kept S w w') (h1 : ¬ S b) (h2 : ¬ S be) (h3 : ¬ S bw) : SetAt w' b be bw most T P :=
  h.blocks (hk.block b h.lt h1) (hk.block be h.ex.lt h2) (hk.block bw h.wh.lt h3)
/-- The set's own blocks. -/
def Own (b be bw : Nat) : Nat → Prop := fun k => k = b ∨ k = be ∨ k = bw
theorem SetAt.froz (h : SetAt w b be bw most T P) (j : Nat) : w.frozen? ⟨b, j, none⟩ = false := by
  have h1 := h.blk
  simp [World.frozen?, h1]
end

theorem zeroPl (w : World) : (zeroValue 56).run Tryd.prog w = .ok (.int .u64 0) w := by kernel_rfl
theorem zeroU (w : World) : (zeroValue 53).run Tryd.prog w = .ok (.agg #[]) w := by kernel_rfl

section
variable {w : World} {be bw : Nat} {T P : List Nat}
theorem MapIs.lookPl (h : MapIs rdPl w be (exF T)) (q : Nat) (hq : q < 262144) : (Instr.lookup 42 (.map (some be)) (.int .i64 q) false).run Tryd.prog w = .ok (.int .u64 (pl T q : Nat)) w := by
  obtain ⟨D, h1, h3⟩ := h
  obtain ⟨c, hr, hat, _⟩ := World.ownsMap.lookup_int h1 keyI Tryd.underlying42 Tryd.underlying56 (zeroPl w) (keyOf_int_mk (P := Tryd.prog) Tryd.underlying3 (wfN q hq))
  rw [hr]
  rcases h3 q (wfN q hq) with ⟨hF, hn⟩ | ⟨d, hF, _, hd⟩
  · rw [Maps.atKey_of_not_has hn] at hat
    injection hat with hat; injection hat with _ hat
    rw [exF_nat] at hF
    split at hF
    · cases hF
    · rename_i hz
      have : pl T q = 0 := by omega
      rw [this, ← hat]; rfl
  · rw [hd] at hat
    rw [exF_nat] at hF
    split at hF
    · injection hF with hF
      rw [← hF] at hat
      injection hat with hat; injection hat with _ hat
      rw [hat]
    · cases hF
theorem MapIs.lookU (h : MapIs rdU w bw (whF P)) (q : Nat) (hq : q < 262144) : (Instr.lookup 43 (.map (some bw)) (.int .i64 q) true).run Tryd.prog w = .ok (.tuple #[.agg #[], .bool (decide (q ∈ P))]) w := by
  obtain ⟨D, h1, h3⟩ := h
  obtain ⟨v, ps, hr, hv⟩ := World.ownsMap.look_ok h1 keyI Tryd.underlying43 (zeroU w) (unitElem_mk (H := Value)) (keyOf_int_mk (P := Tryd.prog) Tryd.underlying3 (wfN q hq))
  obtain ⟨rfl, _⟩ := unitElem_inv hv
  rw [hr]
  rcases h3 q (wfN q hq) with ⟨hF, hn⟩ | ⟨d, hF, hn, _⟩
  · rw [hn]
    rw [whF_nat] at hF
    split at hF
    · cases hF
    · rename_i hz
      rw [decide_eq_false hz]
  · rw [hn]
    rw [whF_nat] at hF
    split at hF
    · rename_i hz
      rw [decide_eq_true hz]
    · cases hF
theorem MapIs.putPl (h : MapIs rdPl w be (exF T)) (hT : ∀ t ∈ T, t < 16777216) (q : Nat) (hq : q < 262144) (T' : List Nat) (h0 : pl T' q ≠ 0) (hT' : ∀ p, p ≠ q → pl T' p = pl T p) :
    ∃ w', (Instr.mapUpdate 42 (.map (some be)) (.int .i64 q) (.int .u64 (pl T' q : Nat))).run Tryd.prog w = .ok () w' ∧ MapIs rdPl w' be (exF T') ∧ w.mapTurned w' be := by
  obtain ⟨w', hr, h1, h2⟩ := MapIs.put h (exF_pgs hT) Tryd.underlying42 q hq (.int .u64 (pl T' q : Nat)) (.lit (.int .u64 (pl T' q : Nat))) (plainElem_int Tryd.underlying56 (WalkArith.wf_u64 (by have := pl_lt T' q; omega)))
  refine ⟨w', hr, h1.congr fun i => ?_, h2⟩
  unfold updI
  split
  · rename_i e; subst e; rw [exF_nat, if_pos h0]
  · rename_i e
    unfold exF
    by_cases h0 : 0 ≤ i
    · rw [hT' i.toNat (by omega)]
    · rw [if_neg (fun e => h0 e.1), if_neg (fun e => h0 e.1)]
theorem MapIs.delPl (h : MapIs rdPl w be (exF T)) (q : Nat) (hq : q < 262144) (ty : TypeId) :
    ∃ w', (Builtin.delete_ #[42, 3] ty #[.map (some be), .int .i64 q]).run Tryd.prog w = .ok (.tuple #[]) w' ∧ MapIs rdPl w' be (exF (off q T)) ∧ w.mapTurned w' be := by
  obtain ⟨w', hr, h1, h2⟩ := MapIs.del h Tryd.underlying42 q hq ty
  refine ⟨w', hr, h1.congr fun i => ?_, h2⟩
  have hz : pl (off q T) q = 0 := pl_zero.2 fun t ht => (mem_off.1 ht).2
  have ho : ∀ p, p ≠ q → pl (off q T) p = pl T p := fun p hp => (pl_ext (pl_lt _ _) fun i hi => by
    rw [pl_bit, mem_off]
    exact ⟨fun e => e.2.1, fun e => ⟨hi, e, by omega⟩⟩)
  unfold updI
  split
  · rename_i e; subst e; rw [exF_nat, if_neg (by omega)]
  · rename_i e
    unfold exF
    by_cases h0 : 0 ≤ i
    · rw [ho i.toNat (by omega)]
    · rw [if_neg (fun e => h0 e.1), if_neg (fun e => h0 e.1)]
theorem MapIs.putU (h : MapIs rdU w bw (whF P)) (hP : ∀ p ∈ P, p < 262144) (q : Nat) (hq : q < 262144) :
    ∃ w', (Instr.mapUpdate 43 (.map (some bw)) (.int .i64 q) (.agg #[])).run Tryd.prog w = .ok () w' ∧ MapIs rdU w' bw (whF (ins q P)) ∧ w.mapTurned w' bw := by
  obtain ⟨w', hr, h1, h2⟩ := MapIs.put h (whF_pgs hP) Tryd.underlying43 q hq (.agg #[]) (.agg []) (unitElem_mk (H := Value))
  refine ⟨w', hr, h1.congr fun i => ?_, h2⟩
  unfold updI
  split
  · rename_i e; subst e; rw [whF_nat, if_pos (mem_ins.2 (.inl rfl))]
  · rename_i e
    unfold whF
    by_cases h0 : 0 ≤ i
    · have : i.toNat ∈ ins q P ↔ i.toNat ∈ P := by
        rw [mem_ins]
        exact ⟨fun x => x.elim (fun x => absurd (by omega) e) id, .inr⟩
      simp only [this]
    · rw [if_neg (fun e => h0 e.1), if_neg (fun e => h0 e.1)]
end
end Go.Proofs.YtpjpkpbfbbpmdaaDoor.Ts
