/- Texts of the same proof, one behind the other: FW, FX, HI, SZQ. -/
import Derived.Test.YtijggofelepaaaaGreatDoorMAS
import Derived.Test.YtijggofelepaaaaGreatDoorMAM
import Derived.Test.YtijggofelepaaaaGreatDoorRows
import Derived.Test.YtijggofelepaaaaGreatDoorMAD
import Derived.ProofKit
import Derived.LaidMore
import Derived.OpenShut
import Derived.Stop.Joined
import Derived.Carry
import Derived.Lib.LaidTab
/- A heap by the document's list; a space on an empty disk, and an action of it; what must come whatever the arguments are. -/
set_option maxRecDepth 100000
namespace Go.Proofs.YtijggofelepaaaaGreatDoor
open Go.RowKit

theorem zero_has (q : Nat) : ¬ Hd.zero.has q := fun h => by
  have h1 := h.1; have h2 := h.2.1
  have h3 : Hd.zero.count = 0 := rfl
  omega
theorem zero_root (r : Nat) : Hd.zero.root r = 0 := by
  unfold Hd.root Hd.zero
  simp only [List.getD_eq_getElem?_getD]
  rcases Nat.lt_or_ge r 16 with h | h
  · rw [List.getElem?_replicate, if_pos h]; rfl
  · rw [List.getElem?_eq_none (by simpa using h)]; rfl

/-- A space on an empty disk, and an action of it, as an action is seen. -/
def Fresh (B : Nat) (c : Ac) (S : Nat → Prop) (w : World) : Prop := ActV (JL [] []) B S c Hd.zero c.C w ∧ ∀ q, (c.C q).length = 512
theorem live_actw {B : Nat} {S3 : Nat → Prop} {c : Ac} {h : Hd} {w : World} {m : Nat} {J : List RawOp → Prop} (h3 : LiveSt J B S3 c.a c.s c.d c.l c.p c.db m c.n c.C c.N c.last h (fun _ => none) w) (hJ : Saves J) (hN : c.N ≤ 4398046511000) (hT : Tab w) (hB : 1 ≤ B) (hh : ∀ q, h.has q → c.last.has q) : ActV J B (fun k => S3 k ∨ k = c.a ∨ k = c.s ∨ k = c.l ∨ k = c.db) c h c.C w := by
  have hlt : c.a < w.heap.size ∧ c.s < w.heap.size ∧ c.l < w.heap.size ∧ c.db < w.heap.size := ⟨h3.act.ac.lt, h3.act.sp.lt, h3.lg.lt, h3.act.dr.ltM⟩
  obtain ⟨l1, l2, l3, l4, _⟩ := h3.low
  refine ⟨⟨m, fun _ => none, S3, h3, fun k hk => .inl hk, (fun q x hq => by cases hq), ⟨(fun q x hq => by cases hq), (fun q x hq => by cases hq), fun q hq _ => hh q hq⟩, fun q _ => rfl⟩, ⟨.inr (.inl rfl), .inr (.inr (.inl rfl)), .inr (.inr (.inr (.inl rfl))), .inr (.inr (.inr (.inr rfl)))⟩, fun k hk => ?_, hJ, hN, hT, hB⟩
  rcases hk with hk | rfl | rfl | rfl | rfl
  · exact h3.pool.low k hk
  · exact ⟨l1, hlt.1⟩
  · exact ⟨l2, hlt.2.1⟩
  · exact ⟨l3, hlt.2.2.1⟩
  · exact ⟨l4, hlt.2.2.2⟩
theorem live_actv {B : Nat} {S3 : Nat → Prop} {c : Ac} {h : Hd} {w : World} {m : Nat} {J : List RawOp → Prop} (h3 : LiveSt J B S3 c.a c.s c.d c.l c.p c.db m c.n c.C c.N c.last h (fun _ => none) w) (hJ : Saves J) (hN : c.N ≤ 4398046511000) (hT : Tab w) (hB : 1 ≤ B) (hh : ∀ q, h.has q → c.last.has q) : ∃ S, ActV J B S c h c.C w :=
  ⟨_, live_actw h3 hJ hN hT hB hh⟩
set_option maxHeartbeats 1600000 in
theorem begun_ok0 (w : World) (hT : Tab w) : Calls Tryz.prog 22 #[] w fun e w' => ∃ (c : Ac) (S : Nat → Prop), e = .returned (.tuple #[.pointer (some ⟨c.d, 0, none⟩), .pointer (some ⟨c.s, 0, none⟩), .pointer (some ⟨c.a, 0, none⟩), .bool true]) ∧ Fresh w.heap.size c S w' ∧ Below w.heap.size w w' ∧ c.last = Hd.zero ∧ c.N = 0 := by
  obtain ⟨B, hBe⟩ : ∃ B, B = w.heap.size := ⟨_, rfl⟩
  have hB1 : 1 ≤ B := by rw [hBe]; exact hT.1
  have HT := Lib.hid hT
  have HBE := Lib.hid hBe
  clear hBe hT
  go_enter Tryz.func22, Tryz.ntmps22
  go_wp2_with fail
  refine (new_disk _).mono ?_
  rintro e w1 ⟨rfl, hd1, hb1⟩
  rw [← HBE.out] at hd1 hb1 ⊢
  have HB1 := Lib.hid hb1
  have HD1 := Lib.hid hd1.bound; clear hd1 hb1
  go_wp2_with fail
  refine (open_sp (J := JL [] []) (B := B) (n := 16) (N := 0) [] [] [] HD1.out (fun k hk => hk) rfl (fun r hr => by cases hr) (by omega) (by omega) (by simp) ⟨rfl, rfl⟩ rfl (fun i h1 => by simp at h1) (by decide) Hd.zero_ok (Saves.jl _ _) (fun ops h => short0 ops _ h) (by have := HB1.out.size; have := HBE.out; omega)).mono ?_
  rintro e w2 ⟨s, l, p, S2, rfl, hs2, hb2⟩
  have HB2 := Lib.hid (HB1.out.trans hb2); have HS2 := Lib.hid hs2; clear hs2 hb2
  go_wp2_with fail
  refine (begin_sp HS2.out).mono ?_
  rintro e w3 ⟨a, db, rfl, h3, hb3, _⟩
  have HB3 := Lib.hid (HB2.out.trans hb3); have H3 := Lib.hid h3; clear h3 hb3 HS2
  have hT3 : Tab w3 := HT.out.below (HB3.out.mono (by have := HBE.out; omega)) (by have := HBE.out; have := HT.out.1; omega)
  have HAV := Lib.hid (live_actv (c := ⟨a, s, B, l, p, db, 16, resN 0 [], resC (fun q => pageOf (play [] 1) q) [], resH Hd.zero []⟩) H3.out (Saves.jl _ _) (by show resN 0 [] ≤ _; decide) hT3 hB1 (fun q hq => hq))
  clear hT3
  go_wp2
  refine bodyPost_ret (v := .tuple #[.pointer (some ⟨B, 0, none⟩), .pointer (some ⟨s, 0, none⟩), .pointer (some ⟨a, 0, none⟩), .bool true]) (by simp [results, Tryz.results22, go_sem]) rfl ?_
  obtain ⟨S, hA⟩ := HAV.out
  refine ⟨⟨a, s, B, l, p, db, 16, resN 0 [], resC (fun q => pageOf (play [] 1) q) [], resH Hd.zero []⟩, S, rfl, ⟨?_, fun q => ?_⟩, by rw [← HBE.out]; exact HB3.out, rfl, rfl⟩
  · rw [← HBE.out]; exact hA
  · exact pageOf_length _ _
theorem begun_ok (w : World) (hT : Tab w) : Calls Tryz.prog 22 #[] w fun e w' => ∃ (c : Ac) (S : Nat → Prop), e = .returned (.tuple #[.pointer (some ⟨c.d, 0, none⟩), .pointer (some ⟨c.s, 0, none⟩), .pointer (some ⟨c.a, 0, none⟩), .bool true]) ∧ Fresh w.heap.size c S w' ∧ Below w.heap.size w w' :=
  (begun_ok0 w hT).mono fun _ _ ⟨c, S, h1, h2, h3, _⟩ => ⟨c, S, h1, h2, h3⟩

/-- A heap that holds the rows l. -/
def HpL (J : List RawOp → Prop) (B : Nat) (c : Ac) (hb r : Nat) (S : Nat → Prop) (l : List Rw) (m : Nat) (w : World) : Prop := ∃ L, HpV J B c hb r S L m w ∧ RowsOf L l
section
variable {J : List RawOp → Prop} {B : Nat} {S : Nat → Prop} {c : Ac} {w : World} {hb r : Nat} {l : List Rw} {m : Nat}
theorem RowsOf.plOf {L : Nat → List Pl} {l : List Rw} (y : RowsOf L l) {x : Rw} (hx : x ∈ l) : plAt L x.tid = ⟨x.row, !x.lives⟩ ∧ x.row ≠ [] := ⟨((y.is x).1 hx).2, ((y.is x).1 hx).1⟩
theorem RowsOf.plNo {h : Hd} {G : Nat → List UInt8} {top : Nat} {ch : Nat → Nat} {L : Nat → List Pl} {l : List Rw} (z : HpOn h G top L ch) (y : RowsOf L l) {t : Nat} (hx : ∀ x ∈ l, x.tid ≠ t) : plAt L t = Pl.no := by
  refine Classical.byContradiction fun hne => ?_
  have hrow : (plAt L t).row ≠ [] := fun e => by
    apply hne
    unfold plAt at e ⊢
    cases hg : (L (t / 64))[t % 64]? with
    | none => rfl
    | some p =>
      rw [hg] at e
      have hq : L (t / 64) ≠ [] := fun e2 => by rw [e2] at hg; cases hg
      have hd := (z.sheet _ hq).2.2.2.2.1.none_ p (List.mem_of_getElem? hg) e
      obtain ⟨a, b⟩ := p
      have e' : a = [] := e
      have d' : b = false := hd
      subst e' d'; rfl
  exact hx ⟨t, (plAt L t).row, !(plAt L t).dead⟩ ((y.is _).2 ⟨hrow, by simp⟩) rfl
theorem HpL.below {w' : World} (x : HpL J B c hb r S l m w) (hbw : Below w.heap.size w w') : HpL J B c hb r S l m w' := by
  obtain ⟨L, h, y⟩ := x
  exact ⟨L, h.below hbw, y⟩
theorem HpL.srt (x : HpL J B c hb r S l m w) : l.Pairwise (fun a b => a.tid < b.tid) := by
  obtain ⟨L, h, y⟩ := x
  exact y.srt
theorem hl_insert (x : HpL J B c hb r S l m w) (hr : r < 16) (hm : m + 1 ≤ 1000) (row : ByteArray) (hrow : 1 ≤ row.size ∧ row.size ≤ 400) :
    Calls Tryz.prog 56 #[.pointer (some ⟨hb, 0, none⟩), .string row] w fun e w' => ∃ (t : Nat) (S' : Nat → Prop), e = .returned (.tuple #[.int .i64 t, .int .i64 0]) ∧ 64 ≤ t ∧ t < 64 * 4096 ∧ (∀ y ∈ l, y.tid ≠ t) ∧ Turn S w S' w' ∧ HpL J B c hb r S' (withR l ⟨t, row.data.toList, true⟩) (m + 1) w' := by
  obtain ⟨L, h, y⟩ := x
  refine (insert_ok h hr hm row hrow).mono ?_
  rintro e w' ⟨t, L', S', he, h1, h2, h3, h4, hT, hv⟩
  have hrn : row.data.toList ≠ [] := fun e => by
    have h : row.data.toList.length = row.size := rfl
    rw [e] at h
    have : 0 = row.size := h
    omega
  have := y.turn h4 hrn
  rw [y.without h3] at this
  refine ⟨t, S', he, h1, h2, fun z hz e => ?_, hT, L', hv, this⟩
  have h5 := y.plOf hz
  rw [e, h3] at h5
  exact h5.2 (congrArg Pl.row h5.1).symm
theorem hl_insert_bad (x : HpL J B c hb r S l m w) (hr : r < 16) (row : ByteArray) (hrow : row.size = 0 ∨ 400 < row.size) :
    Calls Tryz.prog 56 #[.pointer (some ⟨hb, 0, none⟩), .string row] w fun e w' => e = .returned (.tuple #[.int .i64 0, .int .i64 70]) ∧ Below w.heap.size w w' := by
  obtain ⟨L, h, y⟩ := x
  exact insert_bad h hr row hrow
/-- What is done at an address that no row of the list has, or whose row is of the wrong kind. -/
def HlNone (J : List RawOp → Prop) (B : Nat) (c : Ac) (hb r : Nat) (S : Nat → Prop) (l : List Rw) (m : Nat) (w : World) (e : Ending) (w' : World) : Prop := e = .returned (.int .i64 3) ∧ ∃ S', Turn S w S' w' ∧ HpL J B c hb r S' l m w'
theorem hl_none {L : Nat → List Pl} {e : Ending} {w' : World} (y : RowsOf L l) (h : NonePost J B c hb r S L m w e w') : HlNone J B c hb r S l m w e w' := by
  obtain ⟨he, S', hT, hv⟩ := h
  exact ⟨he, S', hT, L, hv, y⟩
theorem hl_kill_none (x : HpL J B c hb r S l m w) (hr : r < 16) (t : Int) (h6 : t < 9223372036854775808) (hn : ∀ y ∈ l, (y.tid : Int) ≠ t) :
    Calls Tryz.prog 57 #[.pointer (some ⟨hb, 0, none⟩), .int .i64 t] w (HlNone J B c hb r S l m w) := by
  obtain ⟨L, h, y⟩ := x
  rcases (by omega : t < 0 ∨ 0 ≤ t) with h0 | h0
  · exact (kill_neg h hr t h0).mono fun e w' hh => hl_none y hh
  · obtain ⟨k, rfl⟩ : ∃ k : Nat, t = k := ⟨t.toNat, by omega⟩
    obtain ⟨hh, G, hA, ht, hS, hs⟩ := id h
    exact (kill_none h hr k (by omega) (RowsOf.plNo hs.on y (fun z hz e => hn z hz (by omega)))).mono fun e w' hh => hl_none y hh
theorem hl_free_none (x : HpL J B c hb r S l m w) (hr : r < 16) (t : Int) (h6 : t < 9223372036854775808) (hn : ∀ y ∈ l, (y.tid : Int) ≠ t) :
    Calls Tryz.prog 64 #[.pointer (some ⟨hb, 0, none⟩), .int .i64 t] w (HlNone J B c hb r S l m w) := by
  obtain ⟨L, h, y⟩ := x
  rcases (by omega : t < 0 ∨ 0 ≤ t) with h0 | h0
  · exact (free_neg h hr t h0).mono fun e w' hh => hl_none y hh
  · obtain ⟨k, rfl⟩ : ∃ k : Nat, t = k := ⟨t.toNat, by omega⟩
    obtain ⟨hh, G, hA, ht, hS, hs⟩ := id h
    exact (free_none h hr k (by omega) (RowsOf.plNo hs.on y (fun z hz e => hn z hz (by omega)))).mono fun e w' hh => hl_none y hh
theorem hl_get_none (x : HpL J B c hb r S l m w) (hr : r < 16) (t : Int) (h6 : t < 9223372036854775808) (hn : ∀ y ∈ l, (y.tid : Int) ≠ t) :
    Calls Tryz.prog 26 #[.pointer (some ⟨hb, 0, none⟩), .int .i64 t] w fun e w' => e = .returned (.tuple #[.string ⟨#[]⟩, .bool false, .int .i64 3]) ∧ ∃ S', Turn S w S' w' ∧ HpL J B c hb r S' l m w' := by
  obtain ⟨L, h, y⟩ := x
  rcases (by omega : t < 0 ∨ 0 ≤ t) with h0 | h0
  · exact (get_neg h hr t h0).mono fun e w' ⟨he, S', hT, hv⟩ => ⟨he, S', hT, L, hv, y⟩
  · obtain ⟨k, rfl⟩ : ∃ k : Nat, t = k := ⟨t.toNat, by omega⟩
    obtain ⟨hh, G, hA, ht, hS, hs⟩ := id h
    exact (get_none h hr k (by omega) (RowsOf.plNo hs.on y (fun z hz e => hn z hz (by omega)))).mono fun e w' ⟨he, S', hT, hv⟩ => ⟨he, S', hT, L, hv, y⟩
theorem tid_lt {x : Rw} (h : HpL J B c hb r S l m w) (hx : x ∈ l) : x.tid < 262144 := by
  obtain ⟨L, hv, y⟩ := h
  obtain ⟨hh, G, hA, ht, hS, hs⟩ := hv
  obtain ⟨h1, h2⟩ := y.plOf hx
  have hq : L (x.tid / 64) ≠ [] := fun e => by
    unfold plAt at h1
    rw [e] at h1
    exact h2 (congrArg Pl.row h1).symm
  have := (hs.on.sheet _ hq).2.1
  omega
theorem hl_get (x : HpL J B c hb r S l m w) (hr : r < 16) {z : Rw} (hz : z ∈ l) :
    Calls Tryz.prog 26 #[.pointer (some ⟨hb, 0, none⟩), .int .i64 z.tid] w fun e w' => e = .returned (.tuple #[.string ⟨z.row.toArray⟩, .bool z.lives, .int .i64 0]) ∧ ∃ S', Turn S w S' w' ∧ HpL J B c hb r S' l m w' := by
  have h6 := tid_lt x hz
  obtain ⟨L, h, y⟩ := x
  obtain ⟨h1, h2⟩ := y.plOf hz
  exact (get_row h hr z.tid (by omega) h1 h2).mono fun e w' ⟨he, S', hT, hv⟩ => ⟨by rw [he]; simp, S', hT, L, hv, y⟩
theorem hl_kill (x : HpL J B c hb r S l m w) (hr : r < 16) {z : Rw} (hz : z ∈ l) :
    Calls Tryz.prog 57 #[.pointer (some ⟨hb, 0, none⟩), .int .i64 z.tid] w fun e w' => (z.lives = false → HlNone J B c hb r S l m w e w') ∧ (z.lives = true → e = .returned (.int .i64 0) ∧ ∃ S', Turn S w S' w' ∧ HpL J B c hb r S' (withR (withoutR l z.tid) ⟨z.tid, z.row, false⟩) m w') := by
  have h6 := tid_lt x hz
  obtain ⟨L, h, y⟩ := x
  obtain ⟨h1, h2⟩ := y.plOf hz
  refine (kill_row h hr z.tid (by omega) h1 h2).mono ?_
  rintro e w' ⟨f1, f2⟩
  refine ⟨fun e => hl_none y (f1 (by simp [e])), fun e => ?_⟩
  obtain ⟨he, L', S', g1, g2, g3⟩ := f2 (by simp [e])
  exact ⟨he, S', g2, L', g3, y.turn g1 h2⟩
theorem hl_free (x : HpL J B c hb r S l m w) (hr : r < 16) {z : Rw} (hz : z ∈ l) :
    Calls Tryz.prog 64 #[.pointer (some ⟨hb, 0, none⟩), .int .i64 z.tid] w fun e w' => (z.lives = true → HlNone J B c hb r S l m w e w') ∧ (z.lives = false → e = .returned (.int .i64 0) ∧ ∃ S', Turn S w S' w' ∧ HpL J B c hb r S' (withoutR l z.tid) m w') := by
  have h6 := tid_lt x hz
  obtain ⟨L, h, y⟩ := x
  obtain ⟨h1, h2⟩ := y.plOf hz
  refine (free_row h hr z.tid (by omega) h1 h2).mono ?_
  rintro e w' ⟨f1, f2⟩
  refine ⟨fun e => hl_none y (f1 (by simp [e])), fun e => ?_⟩
  obtain ⟨he, L', S', g1, g2, g3⟩ := f2 (by simp [e])
  exact ⟨he, S', g2, L', g3, y.gone g1⟩
/-- A list of addresses. -/
def HlInts (J : List RawOp → Prop) (B : Nat) (c : Ac) (hb r : Nat) (S : Nat → Prop) (l : List Rw) (m : Nat) (xs : List Nat) (w : World) (e : Ending) (w' : World) : Prop :=
  ∃ S' v, e = .returned v ∧ Turn S w S' w' ∧ HpL J B c hb r S' l m w' ∧ NumsI w' v xs ∧ ∀ g, v.ownBlock = some g → ¬ S' g ∧ w.heap.size ≤ g
theorem hl_tids (x : HpL J B c hb r S l m w) (hr : r < 16) : Calls Tryz.prog 58 #[.pointer (some ⟨hb, 0, none⟩)] w (HlInts J B c hb r S l m (l.map (·.tid)) w) := by
  obtain ⟨L, h, y⟩ := x
  obtain ⟨hh, G, hA, ht, hS, hs⟩ := id h
  refine (tids_any h hr).mono ?_
  rintro e w' ⟨S', v, he, hT, hv, hn, hg⟩
  rw [hs.on.tids_all y] at hn
  exact ⟨S', v, he, hT, ⟨L, hv, y⟩, hn, hg⟩
theorem hl_dead (x : HpL J B c hb r S l m w) (hr : r < 16) : Calls Tryz.prog 59 #[.pointer (some ⟨hb, 0, none⟩)] w (HlInts J B c hb r S l m ((l.filter fun z => !z.lives).map (·.tid)) w) := by
  obtain ⟨L, h, y⟩ := x
  obtain ⟨hh, G, hA, ht, hS, hs⟩ := id h
  refine (dead_any h hr).mono ?_
  rintro e w' ⟨S', v, he, hT, hv, hn, hg⟩
  rw [hs.on.tids_dead y] at hn
  exact ⟨S', v, he, hT, ⟨L, hv, y⟩, hn, hg⟩
theorem hl_new {B : Nat} {c : Ac} {S : Nat → Prop} {w : World} (hf : Fresh B c S w) (r : Nat) (hr : r < 16) :
    Calls Tryz.prog 24 #[.pointer (some ⟨c.a, 0, none⟩), .int .i64 r] w fun e w' => ∃ hb, e = .returned (.tuple #[.pointer (some ⟨hb, 0, none⟩), .int .i64 0]) ∧ HpL (JL [] []) B c hb r S [] 0 w' ∧ w.heap.size ≤ hb ∧ Below w.heap.size w w' := by
  refine (hp_new hf.1 r hr).mono ?_
  rintro e w' ⟨tb, he, ht, h1, hb'⟩
  refine ⟨tb, he, ⟨fun _ => [], ⟨Hd.zero, c.C, hf.1.below hb', ht, fun hs => by have := (hf.1.low _ hs).2; omega, ?_⟩, RowsOf.nil_⟩, h1, hb'⟩
  rw [zero_root]
  exact HpS.empty Hd.zero c.C rfl
end
theorem turn_below {S S' : Nat → Prop} {B : Nat} {w0 w w' : World} (h0 : Below B w0 w) (hB : B ≤ w0.heap.size) (hlow : ∀ k, S k → B ≤ k) (h : Turn S w S' w') : Below B w0 w' :=
  h0.trans (h.1.toBelow (Nat.le_trans hB h0.size) hlow)
end Go.Proofs.YtijggofelepaaaaGreatDoor

/- The law's awake: what must come whatever the arguments are. -/
set_option maxRecDepth 100000
namespace Go.Proofs.YtijggofelepaaaaGreatDoor
open Go.RowKit

section
variable {J : List RawOp → Prop} {B : Nat} {S S' : Nat → Prop} {c : Ac} {w0 w w' : World} {hb r : Nat} {l l' : List Rw} {m m' : Nat}
theorem HpL.low (x : HpL J B c hb r S l m w) : ∀ k, S k → B ≤ k := by
  obtain ⟨L, ⟨h, G, hA, _⟩, _⟩ := x
  exact fun k hk => (hA.low k hk).1
theorem HpL.to (x : HpL J B c hb r S l m w) (h0 : Below B w0 w) (hB : B ≤ w0.heap.size) (h : Turn S w S' w') : Below B w0 w' := turn_below h0 hB x.low h
/-- A heap of the rows l, and how the memory has come to it. -/
def HpB (w0 : World) (J : List RawOp → Prop) (B : Nat) (c : Ac) (hb r : Nat) (l : List Rw) (m : Nat) (w : World) : Prop := ∃ S, HpL J B c hb r S l m w ∧ Below B w0 w ∧ B ≤ w0.heap.size
theorem HpB.bel (x : HpB w0 J B c hb r l m w) : Below B w0 w := by
  obtain ⟨S, h1, h2, h3⟩ := x
  exact h2
theorem HpB.of (x : HpL J B c hb r S l m w) (h0 : Below B w0 w) (hB : B ≤ w0.heap.size) (hT : Turn S w S' w') (y : HpL J B c hb r S' l' m' w') : HpB w0 J B c hb r l' m' w' := ⟨S', y, x.to h0 hB hT, hB⟩
theorem hb_insert (x : HpB w0 J B c hb r l m w) (hr : r < 16) (hm : m + 1 ≤ 1000) (row : ByteArray) (hrow : 1 ≤ row.size ∧ row.size ≤ 400) :
    Calls Tryz.prog 56 #[.pointer (some ⟨hb, 0, none⟩), .string row] w fun e w' => ∃ t : Nat, e = .returned (.tuple #[.int .i64 t, .int .i64 0]) ∧ 64 ≤ t ∧ t < 64 * 4096 ∧ (∀ y ∈ l, y.tid ≠ t) ∧ Hid (HpB w0 J B c hb r (withR l ⟨t, row.data.toList, true⟩) (m + 1) w') := by
  obtain ⟨S, h1, h2, h3⟩ := x
  exact (hl_insert h1 hr hm row hrow).mono fun e w' ⟨t, S', he, g1, g2, g3, hT, hv⟩ => ⟨t, he, g1, g2, g3, Lib.hid (.of h1 h2 h3 hT hv)⟩
theorem hb_get (x : HpB w0 J B c hb r l m w) (hr : r < 16) {z : Rw} (hz : z ∈ l) :
    Calls Tryz.prog 26 #[.pointer (some ⟨hb, 0, none⟩), .int .i64 z.tid] w fun e w' => e = .returned (.tuple #[.string ⟨z.row.toArray⟩, .bool z.lives, .int .i64 0]) ∧ Hid (HpB w0 J B c hb r l m w') := by
  obtain ⟨S, h1, h2, h3⟩ := x
  exact (hl_get h1 hr hz).mono fun e w' ⟨he, S', hT, hv⟩ => ⟨he, Lib.hid (.of h1 h2 h3 hT hv)⟩
theorem hb_kill (x : HpB w0 J B c hb r l m w) (hr : r < 16) {z : Rw} (hz : z ∈ l) (hlv : z.lives = true) :
    Calls Tryz.prog 57 #[.pointer (some ⟨hb, 0, none⟩), .int .i64 z.tid] w fun e w' => e = .returned (.int .i64 0) ∧ Hid (HpB w0 J B c hb r (withR (withoutR l z.tid) ⟨z.tid, z.row, false⟩) m w') := by
  obtain ⟨S, h1, h2, h3⟩ := x
  exact (hl_kill h1 hr hz).mono fun e w' ⟨_, h⟩ => by
    obtain ⟨he, S', hT, hv⟩ := h hlv
    exact ⟨he, Lib.hid (.of h1 h2 h3 hT hv)⟩
theorem hb_tids (x : HpB w0 J B c hb r l m w) (hr : r < 16) : Calls Tryz.prog 58 #[.pointer (some ⟨hb, 0, none⟩)] w fun e w' => ∃ a n cp, e = .returned (.slice a n cp) ∧ n = l.length ∧ Hid (NumsI w' (.slice a n cp) (l.map (·.tid))) ∧ Hid (HpB w0 J B c hb r l m w') := by
  obtain ⟨S, h1, h2, h3⟩ := x
  refine (hl_tids h1 hr).mono ?_
  rintro e w' ⟨S', v, he, hT, hv, hn, hg⟩
  obtain ⟨a, cp, rfl⟩ := hn.shape
  exact ⟨a, _, cp, he, by simp, Lib.hid hn, Lib.hid (.of h1 h2 h3 hT hv)⟩
theorem hb_dead (x : HpB w0 J B c hb r l m w) (hr : r < 16) : Calls Tryz.prog 59 #[.pointer (some ⟨hb, 0, none⟩)] w fun e w' => ∃ a n cp, e = .returned (.slice a n cp) ∧ n = (l.filter fun z => !z.lives).length ∧ Hid (NumsI w' (.slice a n cp) ((l.filter fun z => !z.lives).map (·.tid))) ∧ Hid (HpB w0 J B c hb r l m w') := by
  obtain ⟨S, h1, h2, h3⟩ := x
  refine (hl_dead h1 hr).mono ?_
  rintro e w' ⟨S', v, he, hT, hv, hn, hg⟩
  obtain ⟨a, cp, rfl⟩ := hn.shape
  exact ⟨a, _, cp, he, by simp, Lib.hid hn, Lib.hid (.of h1 h2 h3 hT hv)⟩
end

theorem awk_len (t t2 : Nat) (a b : List UInt8) (x y : Bool) : (withR [⟨t, a, x⟩] ⟨t2, b, y⟩).length = 2 := withR_len _ _
theorem awk_dead (t t2 : Nat) (a b : List UInt8) : ((withR [⟨t, a, false⟩] ⟨t2, b, true⟩).filter fun z => !z.lives).length = 1 := by
  unfold withR
  split <;> simp [withR]

set_option maxHeartbeats 3200000 in
theorem awake_any (w : World) (hT : Tab w) : Calls Tryz.prog 23 #[] w fun e w' => e = .returned (.bool true) ∧ Below w.heap.size w w' := by
  have HT := Lib.hid hT
  clear hT
  obtain ⟨B, hBe⟩ : ∃ B, B = w.heap.size := ⟨_, rfl⟩
  have HBE := Lib.hid hBe
  rw [← hBe]
  clear hBe
  go_enter Tryz.func23, Tryz.ntmps23
  go_wp2_with fail
  refine (begun_ok w HT.out).mono ?_
  rintro e w1 ⟨c, S, rfl, hf, hb1⟩
  rw [← HBE.out] at hf hb1
  have HF := Lib.hid hf
  have HB1 := Lib.hid hb1
  clear hf hb1
  go_wp2_with fail
  refine (hl_new HF.out 1 (by omega)).mono ?_
  rintro e w2 ⟨hb, rfl, h2, -, hb2⟩
  have H2 : Hid (HpB w (JL [] []) B c hb 1 [] 0 w2) := Lib.hid ⟨S, h2, HB1.out.trans (hb2.mono (by have := HBE.out; have := HB1.out.size; omega)), by have := HBE.out; omega⟩
  clear h2 hb2 HF HB1
  go_wp2_with fail
  refine (hb_insert H2.out (by omega) (by omega) ⟨#[97]⟩ (by decide)).mono ?_
  rintro e w3 ⟨t, rfl, -, -, -, H3⟩
  clear H2
  have e3 : withR [] ⟨t, (⟨#[97]⟩ : ByteArray).data.toList, true⟩ = [⟨t, [97], true⟩] := rfl
  rw [e3] at H3
  clear e3
  go_wp2_with fail
  refine (hb_get H3.out (by omega) (z := ⟨t, [97], true⟩) (by simp)).mono ?_
  rintro e w4 ⟨rfl, H4⟩
  clear H3
  rw [show (⟨([97] : List UInt8).toArray⟩ : ByteArray) = ⟨#[97]⟩ from rfl]
  go_wp2_with fail
  refine (hb_kill H4.out (by omega) (z := ⟨t, [97], true⟩) (by simp) rfl).mono ?_
  rintro e w5 ⟨rfl, H5⟩
  clear H4
  have e5 : withR (withoutR [⟨t, [97], true⟩] t) ⟨t, [97], false⟩ = [⟨t, [97], false⟩] := by simp [withoutR, withR]
  have H5' := Lib.hid (e5 ▸ H5.out)
  clear e5 H5
  go_wp2_with fail
  refine (hb_insert H5'.out (by omega) (by omega) ⟨#[98]⟩ (by decide)).mono ?_
  rintro e w6 ⟨t2, rfl, -, -, hne, H6⟩
  clear H5'
  have f1 : (t2 : Int) ≠ t := by
    have := hne ⟨t, [97], false⟩ (by simp)
    simp only at this
    omega
  have f2 : ((t2 : Int) != t) = true := by simpa using f1
  clear hne
  go_wp2_with fail
  refine (hb_tids H6.out (by omega)).mono ?_
  rintro e w7 ⟨a, n, cp, rfl, hn, -, H7⟩
  rw [awk_len] at hn
  subst hn
  clear H6
  go_wp2_with fail
  refine (hb_dead H7.out (by omega)).mono ?_
  rintro e w8 ⟨a2, n2, cp2, rfl, hn, -, H8⟩
  rw [awk_dead] at hn
  subst hn
  clear H7
  go_wp2
  go_ret
  exact ⟨rfl, H8.out.bel⟩
end Go.Proofs.YtijggofelepaaaaGreatDoor

/- Contracts: what is no heap answers nothing, call by call. -/
set_option maxRecDepth 100000
namespace Go.Proofs.YtijggofelepaaaaGreatDoor
open Go.RowKit

/-- What is no heap, and stays none. -/
def NoHeapB (v : Value) (w : World) : Prop := ∀ W, Below w.heap.size w W → NoHeap v W
end Go.Proofs.YtijggofelepaaaaGreatDoor

/- What the listed variable gives: the table that TrailingZeros64 reads. -/
set_option maxRecDepth 100000
namespace Go.Proofs.YtijggofelepaaaaGreatDoor
open Go Go.ChangeShapes Go.WideShapes Go.ChangeAt Go.RowKit

theorem ownS : ownKnob Tryz.prog.godebug = none := by kernel_rfl
abbrev listed : List (String × DataW Unit) := [("math/bits.deBruijn64tab", Rows.laid_math_bits_deBruijn64tab)]
theorem gTab : Tryz.prog.globalNamed "math/bits.deBruijn64tab" = some 0 := by kernel_rfl
theorem tTab : (Tryz.prog.globals[0]?).map (·.type) = some 200 := by kernel_rfl
theorem cellsTab : Tryz.prog.cellsOf 200 = 64 := by kernel_rfl
theorem cellsU8 : Tryz.prog.cellsOf 5 = 1 := by kernel_rfl
theorem debr : Lib.deBruijn64tab.length = 64 := by decide

theorem laid_of {W : World} (h : laidMetH Tryz.prog listed W) : Tab W := by
  rw [MakeChecks.laidMetH_plain _ _ _ (by kernel_rfl)] at h
  have ht : Lib.TabIs Tryz.prog W "math/bits.deBruijn64tab" .u8 (Lib.deBruijn64tab.map (fun x : Nat => (x : Int))) := Lib.tabIs_of_head gTab tTab Tryz.underlying200 Tryz.underlying5 cellsU8 cellsTab h
  have hc : ∀ j, j < 64 → W.cell? ⟨0, j, none⟩ = some (.int .u8 (Lib.deBruijn64tab.getD j 0)) := fun j hj => by
    have := World.var?_cell gTab ht j
    rw [this, List.getElem?_toArray, List.getElem?_map, List.getElem?_map, List.getD_eq_getElem?_getD, List.getElem?_eq_getElem (by rw [debr]; exact hj)]
    rfl
  exact ⟨Nat.lt_of_le_of_lt (Nat.zero_le _) (World.block_lt_of_cell? W _ (hc 0 (by omega))), hc⟩
end Go.Proofs.YtijggofelepaaaaGreatDoor
