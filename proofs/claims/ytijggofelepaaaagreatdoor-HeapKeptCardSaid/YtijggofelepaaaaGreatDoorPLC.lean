/- Texts of the same proof, one behind the other: IK, IL, IM, IN, IO. -/
import Derived.Test.YtijggofelepaaaaGreatDoorPLA
import Derived.Deep.CutRange
/- A step of the laws' scripts, beside the document's list. -/
set_option maxRecDepth 100000
namespace Go.Proofs.YtijggofelepaaaaGreatDoor
open Go Go.RowKit

/-- A heap and the document's list of its rows. -/
structure DoSt (J : List RawOp → Prop) (B : Nat) (c : Ac) (hb r : Nat) (S : Nat → Prop) (v : Value) (l : List Rw) (m : Nat) (w : World) : Prop where
  heap : HpL J B c hb r S l m w
  rows : RwV w v l
  out : ∀ g, v.ownBlock = some g → ¬ S g
  few : l.length ≤ m
def DoPost (J : List RawOp → Prop) (B : Nat) (c : Ac) (hb r : Nat) (S : Nat → Prop) (m : Nat) (w : World) (e : Ending) (w' : World) : Prop :=
  ∃ v' S' l' m', e = .returned (.tuple #[v', .bool true]) ∧ DoSt J B c hb r S' v' l' m' w' ∧ m' ≤ m + 1 ∧ Turn S w S' w'
section
variable {J : List RawOp → Prop} {B : Nat} {S S' : Nat → Prop} {c : Ac} {w w' : World} {hb r : Nat} {v : Value} {l l' : List Rw} {m m' : Nat}
theorem DoSt.below (x : DoSt J B c hb r S v l m w) (hbw : Below w.heap.size w w') : DoSt J B c hb r S v l m w' := ⟨x.heap.below hbw, x.rows.below hbw, x.out, x.few⟩
theorem DoSt.turn (x : DoSt J B c hb r S v l m w) (hT : Turn S w S' w') (h : HpL J B c hb r S' l m' w') (hm : m ≤ m') : DoSt J B c hb r S' v l m' w' :=
  ⟨h, x.rows.kept hT.1 x.out, fun g hg hs => x.out g hg (hT.2 g (x.rows.lt g hg) hs), Nat.le_trans x.few hm⟩
theorem DoSt.list (x : DoSt J B c hb r S v l m w) (hT : Turn S w S' w') : RwV w' v l := x.rows.kept hT.1 x.out
/-- A new list. -/
theorem dost_new {w2 : World} {v2 : Value} (h : HpL J B c hb r S' l' m' w') (hn : NewR w'.heap.size w2 v2 l') (hbw : Below w'.heap.size w' w2) (hf : l'.length ≤ m') : DoSt J B c hb r S' v2 l' m' w2 :=
  ⟨h.below hbw, hn.is, fun g hg hs => by have := hn.new g hg; have := h.blk g hs; omega, hf⟩
theorem DoPost.older {w1 : World} {e : Ending} (h : DoPost J B c hb r S m w1 e w') (hbw : Below w.heap.size w w1) : DoPost J B c hb r S m w e w' := by
  obtain ⟨v', S', l', m', h1, h2, h3, h4⟩ := h
  exact ⟨v', S', l', m', h1, h2, h3, (Turn.ofBelow hbw).trans h4⟩
/-- The call's cells, wherever the world has come since. -/
theorem op_cells (x : DoSt J B c hb r S v l m w) (kd at_ : Int) (row : ByteArray) : ∃ W0 R, W0 = w.alloc (.cells #[.int .i64 kd, .int .i64 at_, .string row] 77) ∧ R = w.heap.size ∧ DoSt J B c hb r S v l m W0 ∧ Below w.heap.size w W0 ∧
    (∀ W S', Turn S W0 S' W → W.cell? ⟨R, 0, none⟩ = some (.int .i64 kd) ∧ W.cell? ⟨R, 1, none⟩ = some (.int .i64 at_) ∧ W.cell? ⟨R, 2, none⟩ = some (.string row)) := by
  obtain ⟨W0, hW0⟩ : ∃ W0, W0 = w.alloc (.cells #[.int .i64 kd, .int .i64 at_, .string row] 77) := ⟨_, rfl⟩
  have hb0 : Below w.heap.size w W0 := by rw [hW0]; exact (Below.refl _ _).alloc (Nat.le_refl _) _
  have hz0 : W0.heap.size = w.heap.size + 1 := by rw [hW0]; simp
  have hop : W0.heap[w.heap.size]? = some (.cells #[.int .i64 kd, .int .i64 at_, .string row] 77 (0, 0)) := by rw [hW0]; exact heap_alloc_new w _
  have hopS : ¬ S w.heap.size := fun hs => by have := x.heap.blk _ hs; omega
  refine ⟨W0, _, hW0, rfl, x.below hb0, hb0, fun W S' hT => ?_⟩
  have := (hT.1.block w.heap.size (by omega) hopS).trans hop
  exact ⟨by rw [Lib.cell_of_heap this]; rfl, by rw [Lib.cell_of_heap this]; rfl, by rw [Lib.cell_of_heap this]; rfl⟩
theorem find_none {t rr : Int} (h : FindIs l t rr) (hn : ∀ x ∈ l, (x.tid : Int) ≠ t) : rr = -1 := by
  rcases h with ⟨j, x, _, hx, ht⟩ | ⟨h, _⟩
  · exact absurd ht (hn x (List.mem_of_getElem? hx))
  · exact h
set_option maxHeartbeats 1600000 in
theorem does_ins (x : DoSt J B c hb r S v l m w) (hr : r < 16) (hm : m + 1 ≤ 1000) (at_ : Int) (row : ByteArray) (hrow : 1 ≤ row.size ∧ row.size ≤ 400) :
    Calls Tryz.prog 25 #[.pointer (some ⟨hb, 0, none⟩), v, .agg #[.int .i64 1, .int .i64 at_, .string row]] w (DoPost J B c hb r S m w) := by
  obtain ⟨W0, R, hW0, hR, x0, hb0, hcell⟩ := op_cells x 1 at_ row
  have hlen := x0.few
  obtain ⟨A, cc, rfl, _⟩ := x0.rows.slice
  obtain ⟨t0, t1, t2⟩ := hcell W0 S (Turn.refl _ _)
  have HPK := Lib.hid (pick7 x0.rows at_)
  have HFD := Lib.hid (find7 x0.rows (by omega))
  have HIN : Hid (Calls Tryz.prog 56 #[.pointer (some ⟨hb, 0, none⟩), .string row] W0 fun e w1 => ∃ t : Nat, e = .returned (.tuple #[.int .i64 t, .int .i64 0]) ∧ 64 ≤ t ∧ t < 262144 ∧ w1.cell? ⟨R, 2, none⟩ = some (.string row) ∧
      Hid (Calls Tryz.prog 61 #[.slice A l.length cc, .int .i64 t] w1 fun e w2 => e = .returned (.int .i64 (-1)) ∧ w2 = w1) ∧
      Hid (Calls Tryz.prog 62 #[.slice A l.length cc, .agg #[.int .i64 t, .string row, .bool true]] w1 fun e w2 => ∃ v', e = .returned v' ∧ Hid (DoPost J B c hb r S m w (.returned (.tuple #[v', .bool true])) w2))) := Lib.hid (by
    refine (hl_insert x0.heap hr hm row hrow).mono ?_
    rintro e w1 ⟨t, S', rfl, h1, h2, hne, hT, hv⟩
    have hl1 := x0.list hT
    refine ⟨t, rfl, h1, by omega, (hcell _ _ hT).2.2, Lib.hid ((find7 hl1 (by omega) t).mono fun e w2 ⟨⟨rr, he, hf⟩, hw⟩ => ⟨by rw [he, find_none hf (fun y hy e => hne y hy (by omega))], hw⟩), Lib.hid ?_⟩
    have hw := with7 hl1 (by omega) ⟨t, row.data.toList, true⟩
    have er : (⟨row.data.toList.toArray⟩ : ByteArray) = row := by simp
    simp only [er] at hw
    refine hw.mono ?_
    rintro e w2 ⟨v', rfl, hn, hb2⟩
    exact ⟨v', rfl, Lib.hid (DoPost.older ⟨v', S', _, m + 1, rfl, dost_new hv hn hb2 (by rw [withR_len]; omega), Nat.le_refl _, hT.trans (Turn.ofBelow hb2)⟩ hb0)⟩)
  obtain ⟨n, hn⟩ : ∃ n, n = l.length := ⟨_, rfl⟩
  rw [← hn] at HPK HFD HIN ⊢
  obtain ⟨t9, ht9⟩ : ∃ t, t = pickT l at_ := ⟨_, rfl⟩
  rw [← ht9] at HPK
  have g1 : (1 : Int) ≤ (row.size : Int) := by omega
  have g2 : (row.size : Int) ≤ 400 := by omega
  have HW0 := Lib.hid hW0
  have HR := Lib.hid hR
  clear x x0 hb0 hcell hlen hn ht9 hW0 hR hrow
  go_enter Tryz.func25, Tryz.ntmps25
  go_wp2_with fail
  rw [← HR.out, ← HW0.out]
  refine HPK.out.mono ?_
  rintro e w1 ⟨rfl, hw⟩
  subst w1
  clear HPK
  go_wp2_with fail
  refine (HFD.out t9).mono ?_
  rintro e w1 ⟨⟨rr, rfl, hff⟩, hw⟩
  subst w1
  clear HFD hff
  go_wp2_with fail
  refine HIN.out.mono ?_
  rintro e w1 ⟨t, rfl, h1, h2, c2, HF, HWT⟩
  obtain ⟨T, hT⟩ : ∃ T : Int, T = (t : Int) := ⟨_, rfl⟩
  have f1 : ¬ T < 64 := by omega
  have f2 : ¬ (262144 : Int) ≤ T := by omega
  rw [← hT] at HF HWT ⊢
  clear HIN t0 t1 t2 h1 h2 hT
  go_wp2_with fail
  refine HF.out.mono ?_
  rintro e w2 ⟨rfl, hw⟩
  subst w2
  clear HF
  go_wp2_with fail
  refine HWT.out.mono ?_
  rintro e w2 ⟨v', rfl, HE⟩
  clear HWT
  go_wp2
  go_ret2
  exact HE.out
end
end Go.Proofs.YtijggofelepaaaaGreatDoor

/- A step of the laws' scripts, beside the document's list: the other calls. -/
set_option maxRecDepth 100000
namespace Go.Proofs.YtijggofelepaaaaGreatDoor
open Go Go.RowKit

theorem pickT_lt {l : List Rw} {at_ : Int} (ha : at_ < 9223372036854775808) (hl : ∀ x ∈ l, x.tid < 262144) : pickT l at_ < 9223372036854775808 := by
  unfold pickT
  split
  · cases h : l[at_.toNat]? with
    | none => simp
    | some x => have := hl x (List.mem_of_getElem? h); simp; omega
  · exact ha
/-- What a call that does nothing leaves; what one leaves that turns the heap. -/
def SameTo (J : List RawOp → Prop) (B : Nat) (c : Ac) (hb r : Nat) (S : Nat → Prop) (v : Value) (l : List Rw) (m : Nat) (w w' : World) : Prop := ∃ S', DoSt J B c hb r S' v l m w' ∧ Turn S w S' w'
section
variable {J : List RawOp → Prop} {B : Nat} {S S' : Nat → Prop} {c : Ac} {w w' w1 : World} {hb r : Nat} {v : Value} {l l' : List Rw} {m m' : Nat}
theorem SameTo.post (h : SameTo J B c hb r S v l m w1 w') (hb0 : Below w.heap.size w w1) : DoPost J B c hb r S m w (.returned (.tuple #[v, .bool true])) w' := by
  obtain ⟨S', h1, h2⟩ := h
  exact DoPost.older ⟨v, S', l, m, rfl, h1, Nat.le_succ _, h2⟩ hb0
theorem SameTo.rows (h : SameTo J B c hb r S v l m w1 w') : RwV w' v l := by
  obtain ⟨S', h1, h2⟩ := h
  exact h1.rows
theorem DoSt.none_ (x : DoSt J B c hb r S v l m w) {e : Ending} (h : HlNone J B c hb r S l m w e w') : e = .returned (.int .i64 3) ∧ SameTo J B c hb r S v l m w w' := by
  obtain ⟨he, S', hT, hv⟩ := h
  exact ⟨he, S', x.turn hT hv (Nat.le_refl _), hT⟩
theorem find_some {t rr : Int} (h : FindIs l t rr) (hn : rr ≠ -1) : ∃ (j : Nat) (x : Rw), rr = j ∧ l[j]? = some x ∧ (x.tid : Int) = t := by
  rcases h with h | ⟨h, _⟩
  · exact h
  · exact absurd h hn
set_option maxHeartbeats 1600000 in
theorem does_bad (x : DoSt J B c hb r S v l m w) (hr : r < 16) (hm : m ≤ 1000) (at_ : Int) (row : ByteArray) (hrow : row.size = 0 ∨ 400 < row.size) :
    Calls Tryz.prog 25 #[.pointer (some ⟨hb, 0, none⟩), v, .agg #[.int .i64 1, .int .i64 at_, .string row]] w (DoPost J B c hb r S m w) := by
  obtain ⟨W0, R, hW0, hR, x0, hb0, hcell⟩ := op_cells x 1 at_ row
  have hlen := x0.few
  obtain ⟨A, cc, hv0, _⟩ := x0.rows.slice
  obtain ⟨t0, t1, t2⟩ := hcell W0 S (Turn.refl _ _)
  have HPK := Lib.hid (pick7 x0.rows at_)
  have HFD := Lib.hid (find7 x0.rows (by omega))
  have HIN : Hid (Calls Tryz.prog 56 #[.pointer (some ⟨hb, 0, none⟩), .string row] W0 fun e w1 => e = .returned (.tuple #[.int .i64 0, .int .i64 70]) ∧ w1.cell? ⟨R, 2, none⟩ = some (.string row) ∧ Hid (DoPost J B c hb r S m w (.returned (.tuple #[v, .bool true])) w1)) := Lib.hid (by
    refine (hl_insert_bad x0.heap hr row hrow).mono ?_
    rintro e w1 ⟨rfl, hbw⟩
    exact ⟨rfl, (hcell _ _ (Turn.ofBelow hbw)).2.2, Lib.hid (SameTo.post ⟨S, x0.below hbw, Turn.ofBelow hbw⟩ hb0)⟩)
  obtain ⟨T, hTT⟩ : ∃ t, t = pickT l at_ := ⟨_, rfl⟩
  rw [← hTT] at HPK
  clear x0 hv0 hTT
  have g12 : (row.size : Int) < 1 ∨ (¬ (row.size : Int) < 1 ∧ (400 : Int) < (row.size : Int)) := by omega
  clear hrow
  have HW0 := Lib.hid hW0
  have HR := Lib.hid hR
  clear x hb0 hcell hlen hW0 hR
  go_enter Tryz.func25, Tryz.ntmps25
  go_wp2_with fail
  rw [← HR.out, ← HW0.out]
  refine HPK.out.mono ?_
  rintro e w1 ⟨rfl, hw⟩
  subst w1
  clear HPK
  go_wp2_with fail
  refine (HFD.out T).mono ?_
  rintro e w1 ⟨⟨rr, rfl, hff⟩, hw⟩
  subst w1
  clear HFD
  clear hff
  go_wp2_with fail
  refine HIN.out.mono ?_
  rintro e w1 ⟨rfl, c2, HE⟩
  clear HIN t0 t1 t2
  rcases g12 with g1 | ⟨g1, g2⟩
  · go_wp2
    go_ret2
    exact HE.out
  · go_wp2
    go_ret2
    exact HE.out
set_option maxHeartbeats 1600000 in
theorem does_other (x : DoSt J B c hb r S v l m w) (hm : m ≤ 1000) (kd at_ : Int) (row : ByteArray) (h1 : kd ≠ 1) (h2 : kd ≠ 2) (h3 : kd ≠ 3) (h4 : kd ≠ 4) :
    Calls Tryz.prog 25 #[.pointer (some ⟨hb, 0, none⟩), v, .agg #[.int .i64 kd, .int .i64 at_, .string row]] w (DoPost J B c hb r S m w) := by
  obtain ⟨W0, R, hW0, hR, x0, hb0, hcell⟩ := op_cells x kd at_ row
  have hlen := x0.few
  obtain ⟨A, cc, hv0, _⟩ := x0.rows.slice
  obtain ⟨t0, t1, t2⟩ := hcell W0 S (Turn.refl _ _)
  have HPK := Lib.hid (pick7 x0.rows at_)
  have HFD := Lib.hid (find7 x0.rows (by omega))
  have HE : Hid (DoPost J B c hb r S m w (.returned (.tuple #[v, .bool true])) W0) := Lib.hid (SameTo.post ⟨S, x0, Turn.refl _ _⟩ hb0)
  obtain ⟨T, hTT⟩ : ∃ t, t = pickT l at_ := ⟨_, rfl⟩
  rw [← hTT] at HPK
  clear x0 hv0 hTT
  have k1 : (kd == 1) = false := by simpa using h1
  have k2 : (kd == 2) = false := by simpa using h2
  have k3 : (kd == 3) = false := by simpa using h3
  have k4 : (kd == 4) = false := by simpa using h4
  have HW0 := Lib.hid hW0
  have HR := Lib.hid hR
  clear x hb0 hcell hlen hW0 hR
  go_enter Tryz.func25, Tryz.ntmps25
  go_wp2_with fail
  rw [← HR.out, ← HW0.out]
  refine HPK.out.mono ?_
  rintro e w1 ⟨rfl, hw⟩
  subst w1
  clear HPK
  go_wp2_with fail
  refine (HFD.out T).mono ?_
  rintro e w1 ⟨⟨rr, rfl, hff⟩, hw⟩
  subst w1
  clear HFD
  clear hff
  go_wp2
  go_ret2
  exact HE.out
end
end Go.Proofs.YtijggofelepaaaaGreatDoor

/- A step of the laws' scripts: Get. -/
set_option maxRecDepth 100000
namespace Go.Proofs.YtijggofelepaaaaGreatDoor
open Go Go.RowKit
section
variable {J : List RawOp → Prop} {B : Nat} {S S' : Nat → Prop} {c : Ac} {w w' w1 : World} {hb r : Nat} {v : Value} {l l' : List Rw} {m m' : Nat}
set_option maxHeartbeats 3200000 in
theorem does_get (x : DoSt J B c hb r S v l m w) (hr : r < 16) (hm : m ≤ 1000) (at_ : Int) (ha : at_ < 9223372036854775808) (row : ByteArray) :
    Calls Tryz.prog 25 #[.pointer (some ⟨hb, 0, none⟩), v, .agg #[.int .i64 4, .int .i64 at_, .string row]] w (DoPost J B c hb r S m w) := by
  obtain ⟨W0, R, hW0, hR, x0, hb0, hcell⟩ := op_cells x 4 at_ row
  have hlen := x0.few
  obtain ⟨A, cc, hv0, _⟩ := x0.rows.slice
  obtain ⟨t0, t1, t2⟩ := hcell W0 S (Turn.refl _ _)
  have HPK := Lib.hid (pick7 x0.rows at_)
  have HFD := Lib.hid (find7 x0.rows (by omega))
  obtain ⟨T, hTT⟩ : ∃ t, t = pickT l at_ := ⟨_, rfl⟩
  have hT63 : T < 9223372036854775808 := by rw [hTT]; exact pickT_lt ha (fun y hy => tid_lt x0.heap hy)
  rw [← hTT] at HPK
  have H1 : Hid ((∀ y ∈ l, (y.tid : Int) ≠ T) → Calls Tryz.prog 26 #[.pointer (some ⟨hb, 0, none⟩), .int .i64 T] W0 fun e w1 => e = .returned (.tuple #[.string ⟨#[]⟩, .bool false, .int .i64 3]) ∧ Hid (DoPost J B c hb r S m w (.returned (.tuple #[v, .bool true])) w1)) := Lib.hid fun hn => by
    refine (hl_get_none x0.heap hr T hT63 hn).mono ?_
    rintro e w1 ⟨he, S', hT, hv⟩
    exact ⟨he, Lib.hid (SameTo.post ⟨S', x0.turn hT hv (Nat.le_refl _), hT⟩ hb0)⟩
  have H2 : Hid (∀ (j : Nat) (y : Rw), l[j]? = some y → (y.tid : Int) = T → ∃ g cc', ∃ s : ByteArray, ∃ lv : Bool, v = .slice (some ⟨g, 0, none⟩) l.length cc' ∧ Hid (j < l.length) ∧ Hid (Calls Tryz.prog 26 #[.pointer (some ⟨hb, 0, none⟩), .int .i64 T] W0 fun e w1 => e = .returned (.tuple #[.string s, .bool lv, .int .i64 0]) ∧ w1.cell? ⟨g, j * 3 + 1, none⟩ = some (.string s) ∧ w1.cell? ⟨g, j * 3 + 2, none⟩ = some (.bool lv) ∧ Hid (DoPost J B c hb r S m w (.returned (.tuple #[v, .bool true])) w1))) := Lib.hid fun j y hj hy => by
    obtain ⟨g, c2, hv, _, _, _, _⟩ := x0.rows.at_ hj
    refine ⟨g, c2, ⟨y.row.toArray⟩, y.lives, hv, Lib.hid (List.getElem?_eq_some_iff.1 hj).1, Lib.hid ?_⟩
    subst hy
    refine (hl_get x0.heap hr (List.mem_of_getElem? hj)).mono ?_
    rintro e w1 ⟨he, S', hT, hv1⟩
    obtain ⟨g', c2', hv', _, _, d2, d3⟩ := (x0.list hT).at_ hj
    rw [hv] at hv'
    cases hv'
    exact ⟨he, d2, d3, Lib.hid (SameTo.post ⟨S', x0.turn hT hv1 (Nat.le_refl _), hT⟩ hb0)⟩
  clear x0 hTT hT63 ha hv0
  have HW0 := Lib.hid hW0
  have HR := Lib.hid hR
  clear x hb0 hcell hlen hW0 hR
  go_enter Tryz.func25, Tryz.ntmps25
  go_wp2_with fail
  rw [← HR.out, ← HW0.out]
  refine HPK.out.mono ?_
  rintro e w1 ⟨rfl, hw⟩
  subst w1
  clear HPK
  go_wp2_with fail
  refine (HFD.out T).mono ?_
  rintro e w1 ⟨⟨rr, rfl, hff⟩, hw⟩
  subst w1
  clear HFD
  rcases (by omega : rr = -1 ∨ rr ≠ -1) with rfl | hrr
  · have hnn : ∀ y ∈ l, (y.tid : Int) ≠ T := by
      rcases hff with ⟨j, y, h1, _, _⟩ | ⟨_, h⟩
      · omega
      · exact h
    have HC := Lib.hid (H1.out hnn)
    clear H1 H2 hff hnn
    go_wp2_with fail
    refine HC.out.mono ?_
    rintro e w1 ⟨rfl, HE⟩
    clear HC
    go_wp2
    go_ret2
    exact HE.out
  · obtain ⟨j, y, rfl, hj, hy⟩ := find_some hff hrr
    have j0 : ¬ (j : Int) < 0 := by omega
    obtain ⟨g, c2, s, lv, rfl, HJ, HC⟩ := H2.out j y hj hy
    have jn : (j : Int) < (l.length : Int) := by have := HJ.out; omega
    obtain ⟨n, hn⟩ : ∃ n, n = l.length := ⟨_, rfl⟩
    rw [← hn] at HC jn ⊢
    clear H1 H2 hff hj hy hrr hn
    go_wp2_with fail
    refine HC.out.mono ?_
    rintro e w1 ⟨rfl, c3, c4, HE⟩
    clear HC
    go_wp2
    go_ret2
    simp
    exact HE.out
end
end Go.Proofs.YtijggofelepaaaaGreatDoor

/- A step of the laws' scripts: Free. -/
set_option maxRecDepth 100000
namespace Go.Proofs.YtijggofelepaaaaGreatDoor
open Go Go.RowKit
section
variable {J : List RawOp → Prop} {B : Nat} {S S' : Nat → Prop} {c : Ac} {w w' w1 : World} {hb r : Nat} {v : Value} {l l' : List Rw} {m m' : Nat}
set_option maxHeartbeats 3200000 in
theorem does_free (x : DoSt J B c hb r S v l m w) (hr : r < 16) (hm : m ≤ 1000) (at_ : Int) (ha : at_ < 9223372036854775808) (row : ByteArray) :
    Calls Tryz.prog 25 #[.pointer (some ⟨hb, 0, none⟩), v, .agg #[.int .i64 3, .int .i64 at_, .string row]] w (DoPost J B c hb r S m w) := by
  obtain ⟨W0, R, hW0, hR, x0, hb0, hcell⟩ := op_cells x 3 at_ row
  have hlen := x0.few
  obtain ⟨A, cc, hv0, _⟩ := x0.rows.slice
  obtain ⟨t0, t1, t2⟩ := hcell W0 S (Turn.refl _ _)
  have HPK := Lib.hid (pick7 x0.rows at_)
  have HFD := Lib.hid (find7 x0.rows (by omega))
  obtain ⟨T, hTT⟩ : ∃ t, t = pickT l at_ := ⟨_, rfl⟩
  have hT63 : T < 9223372036854775808 := by rw [hTT]; exact pickT_lt ha (fun y hy => tid_lt x0.heap hy)
  rw [← hTT] at HPK
  have H1 : Hid ((∀ y ∈ l, (y.tid : Int) ≠ T) → Calls Tryz.prog 64 #[.pointer (some ⟨hb, 0, none⟩), .int .i64 T] W0 fun e w1 => e = .returned (.int .i64 3) ∧ Hid (DoPost J B c hb r S m w (.returned (.tuple #[v, .bool true])) w1)) := Lib.hid fun hn => by
    refine (hl_free_none x0.heap hr T hT63 hn).mono fun e w1 hh => ?_
    obtain ⟨he, hs⟩ := x0.none_ hh
    exact ⟨he, Lib.hid (hs.post hb0)⟩
  have H2 : Hid (∀ (j : Nat) (y : Rw), l[j]? = some y → (y.tid : Int) = T → y.lives = true → ∃ g cc', v = .slice (some ⟨g, 0, none⟩) l.length cc' ∧ Hid (j < l.length) ∧ Hid (Calls Tryz.prog 64 #[.pointer (some ⟨hb, 0, none⟩), .int .i64 T] W0 fun e w1 => e = .returned (.int .i64 3) ∧ w1.cell? ⟨g, j * 3 + 2, none⟩ = some (.bool true) ∧ Hid (DoPost J B c hb r S m w (.returned (.tuple #[v, .bool true])) w1))) := Lib.hid fun j y hj hy hlv => by
    obtain ⟨g, c2, hv, _, _, _, _⟩ := x0.rows.at_ hj
    refine ⟨g, c2, hv, Lib.hid (List.getElem?_eq_some_iff.1 hj).1, Lib.hid ?_⟩
    subst hy
    refine (hl_free x0.heap hr (List.mem_of_getElem? hj)).mono ?_
    rintro e w1 ⟨hh, _⟩
    obtain ⟨he, hs⟩ := x0.none_ (hh hlv)
    obtain ⟨g', c2', hv', _, _, _, c3⟩ := hs.rows.at_ hj
    rw [hv] at hv'
    cases hv'
    rw [hlv] at c3
    exact ⟨he, c3, Lib.hid (hs.post hb0)⟩
  have H3 : Hid (∀ (j : Nat) (y : Rw), l[j]? = some y → (y.tid : Int) = T → y.lives = false → ∃ g cc', v = .slice (some ⟨g, 0, none⟩) l.length cc' ∧ Hid (j < l.length) ∧ Hid (Calls Tryz.prog 64 #[.pointer (some ⟨hb, 0, none⟩), .int .i64 T] W0 fun e w1 => e = .returned (.int .i64 0) ∧ w1.cell? ⟨g, j * 3 + 2, none⟩ = some (.bool false) ∧
      Hid (Calls Tryz.prog 63 #[v, .int .i64 T] w1 fun e w2 => ∃ v', e = .returned v' ∧ Hid (DoPost J B c hb r S m w (.returned (.tuple #[v', .bool true])) w2)))) := Lib.hid fun j y hj hy hlv => by
    obtain ⟨g, c2, hv, _, _, _, _⟩ := x0.rows.at_ hj
    refine ⟨g, c2, hv, Lib.hid (List.getElem?_eq_some_iff.1 hj).1, Lib.hid ?_⟩
    subst hy
    refine (hl_free x0.heap hr (List.mem_of_getElem? hj)).mono ?_
    rintro e w1 ⟨_, hh⟩
    obtain ⟨he, S', hT, hh1⟩ := hh hlv
    have hl1 := x0.list hT
    obtain ⟨g', c2', hv', _, _, _, c3⟩ := hl1.at_ hj
    rw [hv] at hv'
    cases hv'
    rw [hlv] at c3
    refine ⟨he, c3, Lib.hid ?_⟩
    refine (without7 hl1 (by omega) y.tid).mono ?_
    rintro e w2 ⟨v', rfl, hn, hb2⟩
    exact ⟨v', rfl, Lib.hid (DoPost.older ⟨v', S', _, m, rfl, dost_new hh1 hn hb2 (by have := withoutR_len l y.tid; omega), Nat.le_succ _, hT.trans (Turn.ofBelow hb2)⟩ hb0)⟩
  clear x0 hTT hT63 ha hv0
  have HW0 := Lib.hid hW0
  have HR := Lib.hid hR
  clear x hb0 hcell hlen hW0 hR
  go_enter Tryz.func25, Tryz.ntmps25
  go_wp2_with fail
  rw [← HR.out, ← HW0.out]
  refine HPK.out.mono ?_
  rintro e w1 ⟨rfl, hw⟩
  subst w1
  clear HPK
  go_wp2_with fail
  refine (HFD.out T).mono ?_
  rintro e w1 ⟨⟨rr, rfl, hff⟩, hw⟩
  subst w1
  clear HFD
  rcases (by omega : rr = -1 ∨ rr ≠ -1) with rfl | hrr
  · have hnn : ∀ y ∈ l, (y.tid : Int) ≠ T := by
      rcases hff with ⟨j, y, h1, _, _⟩ | ⟨_, h⟩
      · omega
      · exact h
    have HC := Lib.hid (H1.out hnn)
    clear H1 H2 H3 hff hnn
    go_wp2_with fail
    refine HC.out.mono ?_
    rintro e w1 ⟨rfl, HE⟩
    clear HC
    go_wp2
    go_ret2
    exact HE.out
  · obtain ⟨j, y, rfl, hj, hy⟩ := find_some hff hrr
    have j0 : ¬ (j : Int) < 0 := by omega
    cases hlv : y.lives with
    | true =>
      obtain ⟨g, c2, rfl, HJ, HC⟩ := H2.out j y hj hy hlv
      have jn : (j : Int) < (l.length : Int) := by have := HJ.out; omega
      obtain ⟨n, hn⟩ : ∃ n, n = l.length := ⟨_, rfl⟩
      rw [← hn] at HC jn ⊢
      clear H1 H2 H3 hff hj hy hlv hrr hn
      go_wp2_with fail
      refine HC.out.mono ?_
      rintro e w1 ⟨rfl, c3, HE⟩
      clear HC
      go_wp2
      go_ret2
      exact HE.out
    | false =>
      obtain ⟨g, c2, rfl, HJ, HC⟩ := H3.out j y hj hy hlv
      have jn : (j : Int) < (l.length : Int) := by have := HJ.out; omega
      obtain ⟨n, hn⟩ : ∃ n, n = l.length := ⟨_, rfl⟩
      rw [← hn] at HC jn ⊢
      clear H1 H2 H3 hff hj hy hlv hrr hn
      go_wp2_with fail
      refine HC.out.mono ?_
      rintro e w1 ⟨rfl, c3, HWO⟩
      clear HC
      go_wp2_with fail
      refine HWO.out.mono ?_
      rintro e w2 ⟨v', rfl, HE⟩
      clear HWO
      go_wp2
      go_ret2
      exact HE.out
end
end Go.Proofs.YtijggofelepaaaaGreatDoor

/- A step of the laws' scripts: Kill. -/
set_option maxRecDepth 100000
namespace Go.Proofs.YtijggofelepaaaaGreatDoor
open Go Go.RowKit
section
variable {J : List RawOp → Prop} {B : Nat} {S S' : Nat → Prop} {c : Ac} {w w' w1 : World} {hb r : Nat} {v : Value} {l l' : List Rw} {m m' : Nat}
set_option maxHeartbeats 3200000 in
theorem does_kill (x : DoSt J B c hb r S v l m w) (hr : r < 16) (hm : m ≤ 1000) (at_ : Int) (ha : at_ < 9223372036854775808) (row : ByteArray) :
    Calls Tryz.prog 25 #[.pointer (some ⟨hb, 0, none⟩), v, .agg #[.int .i64 2, .int .i64 at_, .string row]] w (DoPost J B c hb r S m w) := by
  obtain ⟨W0, R, hW0, hR, x0, hb0, hcell⟩ := op_cells x 2 at_ row
  have hlen := x0.few
  obtain ⟨A, cc, hv0, _⟩ := x0.rows.slice
  obtain ⟨t0, t1, t2⟩ := hcell W0 S (Turn.refl _ _)
  have HPK := Lib.hid (pick7 x0.rows at_)
  have HFD := Lib.hid (find7 x0.rows (by omega))
  obtain ⟨T, hTT⟩ : ∃ t, t = pickT l at_ := ⟨_, rfl⟩
  have hT63 : T < 9223372036854775808 := by rw [hTT]; exact pickT_lt ha (fun y hy => tid_lt x0.heap hy)
  rw [← hTT] at HPK
  have H1 : Hid ((∀ y ∈ l, (y.tid : Int) ≠ T) → Calls Tryz.prog 57 #[.pointer (some ⟨hb, 0, none⟩), .int .i64 T] W0 fun e w1 => e = .returned (.int .i64 3) ∧ Hid (DoPost J B c hb r S m w (.returned (.tuple #[v, .bool true])) w1)) := Lib.hid fun hn => by
    refine (hl_kill_none x0.heap hr T hT63 hn).mono fun e w1 hh => ?_
    obtain ⟨he, hs⟩ := x0.none_ hh
    exact ⟨he, Lib.hid (hs.post hb0)⟩
  have H2 : Hid (∀ (j : Nat) (y : Rw), l[j]? = some y → (y.tid : Int) = T → y.lives = false → ∃ g cc', v = .slice (some ⟨g, 0, none⟩) l.length cc' ∧ Hid (j < l.length) ∧ Hid (Calls Tryz.prog 57 #[.pointer (some ⟨hb, 0, none⟩), .int .i64 T] W0 fun e w1 => e = .returned (.int .i64 3) ∧ w1.cell? ⟨g, j * 3 + 2, none⟩ = some (.bool false) ∧ Hid (DoPost J B c hb r S m w (.returned (.tuple #[v, .bool true])) w1))) := Lib.hid fun j y hj hy hlv => by
    obtain ⟨g, c2, hv, _, _, _, _⟩ := x0.rows.at_ hj
    refine ⟨g, c2, hv, Lib.hid (List.getElem?_eq_some_iff.1 hj).1, Lib.hid ?_⟩
    subst hy
    refine (hl_kill x0.heap hr (List.mem_of_getElem? hj)).mono ?_
    rintro e w1 ⟨hh, _⟩
    obtain ⟨he, hs⟩ := x0.none_ (hh hlv)
    obtain ⟨g', c2', hv', _, _, _, c3⟩ := hs.rows.at_ hj
    rw [hv] at hv'
    cases hv'
    rw [hlv] at c3
    exact ⟨he, c3, Lib.hid (hs.post hb0)⟩
  have H3 : Hid (∀ (j : Nat) (y : Rw), l[j]? = some y → (y.tid : Int) = T → y.lives = true → ∃ g cc', ∃ s : ByteArray, v = .slice (some ⟨g, 0, none⟩) l.length cc' ∧ Hid (j < l.length) ∧ Hid (Calls Tryz.prog 57 #[.pointer (some ⟨hb, 0, none⟩), .int .i64 T] W0 fun e w1 => e = .returned (.int .i64 0) ∧ w1.cell? ⟨g, j * 3 + 2, none⟩ = some (.bool true) ∧ Hid (∀ W, Below w1.heap.size w1 W → W.cell? ⟨g, j * 3 + 1, none⟩ = some (.string s)) ∧
      Hid (∀ W, Below w1.heap.size w1 W → Calls Tryz.prog 63 #[v, .int .i64 T] W fun e w2 => ∃ v', e = .returned v' ∧ Hid (Below w1.heap.size w1 w2) ∧ Hid (∀ W2, Below w2.heap.size w2 W2 → Calls Tryz.prog 62 #[v', .agg #[.int .i64 T, .string s, .bool false]] W2 fun e w3 => ∃ v2, e = .returned v2 ∧ Hid (∀ W3, Below w3.heap.size w3 W3 → DoPost J B c hb r S m w (.returned (.tuple #[v2, .bool true])) W3))))) := Lib.hid fun j y hj hy hlv => by
    obtain ⟨g, c2, hv, _, _, _, _⟩ := x0.rows.at_ hj
    refine ⟨g, c2, ⟨y.row.toArray⟩, hv, Lib.hid (List.getElem?_eq_some_iff.1 hj).1, Lib.hid ?_⟩
    subst hy
    refine (hl_kill x0.heap hr (List.mem_of_getElem? hj)).mono ?_
    rintro e w1 ⟨_, hh⟩
    obtain ⟨he, S', hT, hh1⟩ := hh hlv
    have hl1 := x0.list hT
    obtain ⟨g', c2', hv', _, _, _, c3⟩ := hl1.at_ hj
    rw [hv] at hv'
    cases hv'
    rw [hlv] at c3
    refine ⟨he, c3, Lib.hid fun W hW => ?_, Lib.hid fun W hW => ?_⟩
    · obtain ⟨g2, c4, hv2, _, _, d2, _⟩ := (hl1.below hW).at_ hj
      rw [hv] at hv2
      cases hv2
      exact d2
    · refine (without7 (hl1.below hW) (by omega) y.tid).mono ?_
      rintro e w2 ⟨v', rfl, hn, hb2⟩
      have hbw2 : Below w1.heap.size w1 w2 := hW.trans (hb2.mono hW.size)
      refine ⟨v', rfl, Lib.hid hbw2, Lib.hid fun W2 hW2 => ?_⟩
      have hwl := withoutR_len l y.tid
      refine (with7 (hn.is.below hW2) (by omega) ⟨y.tid, y.row, false⟩).mono ?_
      rintro e w3 ⟨v2, rfl, hn2, hb3⟩
      refine ⟨v2, rfl, Lib.hid fun W3 hW3 => ?_⟩
      have hb13 : Below w1.heap.size w1 w3 := (hbw2.trans (hW2.mono hbw2.size)).trans (hb3.mono (Nat.le_trans hbw2.size hW2.size))
      have hb14 : Below w1.heap.size w1 W3 := hb13.trans (hW3.mono hb13.size)
      have hone : (withoutR l y.tid).length + 1 = l.length := withoutR_one x0.heap.srt (List.mem_of_getElem? hj)
      refine DoPost.older ⟨v2, S', _, m, rfl, dost_new hh1 ⟨hn2.is.below hW3, fun g hg => ?_⟩ hb14 (by rw [withR_len]; omega), Nat.le_succ _, hT.trans (Turn.ofBelow hb14)⟩ hb0
      have := hn2.new g hg
      have := (hbw2.trans (hW2.mono hbw2.size)).size
      omega
  clear x0 hTT hT63 ha hv0
  have HW0 := Lib.hid hW0
  have HR := Lib.hid hR
  clear x hb0 hcell hlen hW0 hR
  go_enter Tryz.func25, Tryz.ntmps25
  go_wp2_with fail
  rw [← HR.out, ← HW0.out]
  refine HPK.out.mono ?_
  rintro e w1 ⟨rfl, hw⟩
  subst w1
  clear HPK
  go_wp2_with fail
  refine (HFD.out T).mono ?_
  rintro e w1 ⟨⟨rr, rfl, hff⟩, hw⟩
  subst w1
  clear HFD
  rcases (by omega : rr = -1 ∨ rr ≠ -1) with rfl | hrr
  · have hnn : ∀ y ∈ l, (y.tid : Int) ≠ T := by
      rcases hff with ⟨j, y, h1, _, _⟩ | ⟨_, h⟩
      · omega
      · exact h
    have HC := Lib.hid (H1.out hnn)
    clear H1 H2 H3 hff hnn
    go_wp2_with fail
    refine HC.out.mono ?_
    rintro e w1 ⟨rfl, HE⟩
    clear HC
    go_wp2
    go_ret2
    exact HE.out
  · obtain ⟨j, y, rfl, hj, hy⟩ := find_some hff hrr
    have j0 : ¬ (j : Int) < 0 := by omega
    cases hlv : y.lives with
    | false =>
      obtain ⟨g, c2, rfl, HJ, HC⟩ := H2.out j y hj hy hlv
      have jn : (j : Int) < (l.length : Int) := by have := HJ.out; omega
      obtain ⟨n, hn⟩ : ∃ n, n = l.length := ⟨_, rfl⟩
      rw [← hn] at HC jn ⊢
      clear H1 H2 H3 hff hj hy hlv hrr hn
      go_wp2_with fail
      refine HC.out.mono ?_
      rintro e w1 ⟨rfl, c3, HE⟩
      clear HC
      go_wp2
      go_ret2
      exact HE.out
    | true =>
      obtain ⟨g, c2, s, rfl, HJ, HC⟩ := H3.out j y hj hy hlv
      have jn : (j : Int) < (l.length : Int) := by have := HJ.out; omega
      obtain ⟨n, hn⟩ : ∃ n, n = l.length := ⟨_, rfl⟩
      rw [← hn] at HC jn ⊢
      clear H1 H2 H3 hff hj hy hlv hrr hn
      go_wp2_with fail
      refine HC.out.mono ?_
      rintro e w1 ⟨rfl, c3, HCL, HWO⟩
      clear HC
      go_upto_region 15 with fail
      have c1 := HCL.out w1.drew ((Below.refl _ _).drew)
      go_region_with (first
        | (go_at_call 63; refine (HWO.out _ ((Below.refl _ _).drew)).mono ?_; rintro e w2 ⟨v', rfl, HB2, HWI⟩; have c4 := HCL.out w2 HB2.out)
        | (go_at_call 62; refine (HWI.out _ (Below.refl _ _)).mono ?_; rintro e w3 ⟨v2, rfl, HE⟩))
      all_goals go_wp2
      all_goals go_ret2
      all_goals exact HE.out _ (Below.refl _ _)
end
end Go.Proofs.YtijggofelepaaaaGreatDoor
