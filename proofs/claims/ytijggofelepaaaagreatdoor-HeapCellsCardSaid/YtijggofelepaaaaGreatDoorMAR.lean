/- Texts of the same proof, one behind the other: FR, FS, FT. -/
import Derived.Test.YtijggofelepaaaaGreatDoorMAQ
/- Contracts: Kill, Free; Get's closure. -/
set_option maxRecDepth 100000
namespace Go.Proofs.YtijggofelepaaaaGreatDoor
open Go.RowKit

section
variable {J : List RawOp → Prop} {B : Nat} {S : Nat → Prop} {c : Ac} {w : World} {hb r : Nat}
theorem NonePost.of {L : Nat → List Pl} {m : Nat} {w0 w' : World} {e : Ending} (h : NonePost J B c hb r S L m w0 e w') (hbw : Below w.heap.size w w0) : NonePost J B c hb r S L m w e w' := by
  obtain ⟨he, S', hT, x⟩ := h
  exact ⟨he, S', (Turn.ofBelow hbw).trans hT, x⟩
theorem PlPost.of {L : Nat → List Pl} {m t : Nat} {p : Pl} {w0 w' : World} {e : Ending} (h : PlPost J B c hb r S L m t p w0 e w') (hbw : Below w.heap.size w w0) : PlPost J B c hb r S L m t p w e w' := by
  obtain ⟨he, L', S', f, hT, x⟩ := h
  exact ⟨he, L', S', f, (Turn.ofBelow hbw).trans hT, x⟩
theorem HpV.low {L : Nat → List Pl} {m : Nat} (x : HpV J B c hb r S L m w) {k : Nat} (hk : w.heap.size ≤ k) : ¬ S k := fun hs => by
  obtain ⟨h, G, hA, _⟩ := x
  have := (hA.low k hs).2
  omega

set_option maxHeartbeats 800000 in
theorem kill_neg {L : Nat → List Pl} {m : Nat} (x : HpV J B c hb r S L m w) (hr : r < 16) (t : Int) (h0 : t < 0) :
    Calls Tryz.prog 57 #[.pointer (some ⟨hb, 0, none⟩), .int .i64 t] w (NonePost J B c hb r S L m w) := by
  have hbw : Below w.heap.size w (w.alloc (.cells #[.pointer (some ⟨hb, 0, none⟩)] 70)) := (Below.refl _ _).alloc (Nat.le_refl _) _
  have HAT : Hid (Calls Tryz.prog 65 #[.pointer (some ⟨hb, 0, none⟩), .int .i64 t, .func (.func 105) #[] #[.pointer (some ⟨w.heap.size, 0, none⟩)]] (w.alloc (.cells #[.pointer (some ⟨hb, 0, none⟩)] 70)) fun e w' => (∃ v, e = .returned v) ∧ Hid (NonePost J B c hb r S L m w e w')) := Lib.hid ((at_neg (x.below hbw) hr t h0 _).mono fun e w' hp => ⟨⟨_, hp.1⟩, Lib.hid (hp.of hbw)⟩)
  clear x h0 hbw
  go_enter Tryz.func57, Tryz.ntmps57
  go_wp2_with fail
  refine HAT.out.mono ?_
  rintro e w1 ⟨⟨v, rfl⟩, hp⟩
  go_wp2
  go_ret
  exact hp.out
set_option maxHeartbeats 800000 in
theorem kill_none {L : Nat → List Pl} {m : Nat} (x : HpV J B c hb r S L m w) (hr : r < 16) (t : Nat) (h6 : t < 9223372036854775808) (hp : plAt L t = Pl.no) :
    Calls Tryz.prog 57 #[.pointer (some ⟨hb, 0, none⟩), .int .i64 t] w (NonePost J B c hb r S L m w) := by
  have hbw : Below w.heap.size w (w.alloc (.cells #[.pointer (some ⟨hb, 0, none⟩)] 70)) := (Below.refl _ _).alloc (Nat.le_refl _) _
  have HAT : Hid (Calls Tryz.prog 65 #[.pointer (some ⟨hb, 0, none⟩), .int .i64 t, .func (.func 105) #[] #[.pointer (some ⟨w.heap.size, 0, none⟩)]] (w.alloc (.cells #[.pointer (some ⟨hb, 0, none⟩)] 70)) fun e w' => (∃ v, e = .returned v) ∧ Hid (NonePost J B c hb r S L m w e w')) := Lib.hid ((at_none (x.below hbw) hr t h6 hp _).mono fun e w' hp => ⟨⟨_, hp.1⟩, Lib.hid (hp.of hbw)⟩)
  clear x h6 hp hbw
  go_enter Tryz.func57, Tryz.ntmps57
  go_wp2_with fail
  refine HAT.out.mono ?_
  rintro e w1 ⟨⟨v, rfl⟩, hp⟩
  go_wp2
  go_ret
  exact hp.out
set_option maxHeartbeats 800000 in
theorem kill_row {L : Nat → List Pl} {m : Nat} (x : HpV J B c hb r S L m w) (hr : r < 16) (t : Nat) (h6 : t < 9223372036854775808) {p : Pl} (hp : plAt L t = p) (hpr : p.row ≠ []) :
    Calls Tryz.prog 57 #[.pointer (some ⟨hb, 0, none⟩), .int .i64 t] w fun e w' => (p.dead = true → NonePost J B c hb r S L m w e w') ∧ (p.dead = false → PlPost J B c hb r S L m t ⟨p.row, true⟩ w e w') := by
  obtain ⟨w0, hw0⟩ : ∃ w0, w0 = w.alloc (.cells #[.pointer (some ⟨hb, 0, none⟩)] 70) := ⟨_, rfl⟩
  have hbw : Below w.heap.size w w0 := by rw [hw0]; exact (Below.refl _ _).alloc (Nat.le_refl _) _
  have hx0 : w0.heap[w.heap.size]? = some (.cells #[.pointer (some ⟨hb, 0, none⟩)] 70 (0, 0)) := by rw [hw0]; exact heap_alloc_new w _
  have hl0 := (Array.getElem?_eq_some_iff.1 hx0).1
  have x0 := x.below hbw
  have HAT : Hid (Calls Tryz.prog 65 #[.pointer (some ⟨hb, 0, none⟩), .int .i64 t, .func (.func 105) #[] #[.pointer (some ⟨w.heap.size, 0, none⟩)]] w0 fun e w' => (∃ v, e = .returned v) ∧ Hid ((p.dead = true → NonePost J B c hb r S L m w e w') ∧ (p.dead = false → PlPost J B c hb r S L m t ⟨p.row, true⟩ w e w'))) := Lib.hid
    (at_some1 x0 hr t h6 hp hpr 105 _ (enters_of Tryz.func105 (by kernel_rfl) rfl) (fun e w' => (∃ v, e = .returned v) ∧ Hid ((p.dead = true → NonePost J B c hb r S L m w e w') ∧ (p.dead = false → PlPost J B c hb r S L m t ⟨p.row, true⟩ w e w'))) (fun e w' h => h.1) fun sb S1 W1 ha => by
      obtain ⟨hT, _⟩ := ha.hpv
      have hsb : w0.heap.size ≤ sb := by obtain ⟨_, _, _, _, _, _, _, h, _⟩ := ha; exact h
      refine (kill1_any x0.pos.1 ha hr hp hpr (by rw [World.cell?_of_block (hT.1.block _ hl0 (x.low (Nat.le_refl _))), Lib.cell_of_heap hx0]; rfl) (by omega)).mono ?_
      rintro e w' ⟨h1, h2⟩
      cases hd : p.dead with
      | true => exact ⟨⟨_, (h1 hd).1⟩, Lib.hid ⟨fun _ => (h1 hd).of hbw, fun e => by cases e⟩⟩
      | false => exact ⟨⟨_, (h2 hd).1⟩, Lib.hid ⟨(fun e => by cases e), fun _ => (h2 hd).of hbw⟩⟩)
  have HW0 := Lib.hid hw0
  clear x hp hpr h6 hbw hx0 hl0 x0 hw0
  go_enter Tryz.func57, Tryz.ntmps57
  go_wp2_with fail
  rw [← HW0.out]
  refine HAT.out.mono ?_
  rintro e w1 ⟨⟨v, rfl⟩, hp⟩
  go_wp2
  go_ret
  exact hp.out
set_option maxHeartbeats 800000 in
theorem free_neg {L : Nat → List Pl} {m : Nat} (x : HpV J B c hb r S L m w) (hr : r < 16) (t : Int) (h0 : t < 0) :
    Calls Tryz.prog 64 #[.pointer (some ⟨hb, 0, none⟩), .int .i64 t] w (NonePost J B c hb r S L m w) := by
  have hbw : Below w.heap.size w (w.alloc (.cells #[.pointer (some ⟨hb, 0, none⟩)] 70)) := (Below.refl _ _).alloc (Nat.le_refl _) _
  have HAT : Hid (Calls Tryz.prog 65 #[.pointer (some ⟨hb, 0, none⟩), .int .i64 t, .func (.func 109) #[] #[.pointer (some ⟨w.heap.size, 0, none⟩)]] (w.alloc (.cells #[.pointer (some ⟨hb, 0, none⟩)] 70)) fun e w' => (∃ v, e = .returned v) ∧ Hid (NonePost J B c hb r S L m w e w')) := Lib.hid ((at_neg (x.below hbw) hr t h0 _).mono fun e w' hp => ⟨⟨_, hp.1⟩, Lib.hid (hp.of hbw)⟩)
  clear x h0 hbw
  go_enter Tryz.func64, Tryz.ntmps64
  go_wp2_with fail
  refine HAT.out.mono ?_
  rintro e w1 ⟨⟨v, rfl⟩, hp⟩
  go_wp2
  go_ret
  exact hp.out
set_option maxHeartbeats 800000 in
theorem free_none {L : Nat → List Pl} {m : Nat} (x : HpV J B c hb r S L m w) (hr : r < 16) (t : Nat) (h6 : t < 9223372036854775808) (hp : plAt L t = Pl.no) :
    Calls Tryz.prog 64 #[.pointer (some ⟨hb, 0, none⟩), .int .i64 t] w (NonePost J B c hb r S L m w) := by
  have hbw : Below w.heap.size w (w.alloc (.cells #[.pointer (some ⟨hb, 0, none⟩)] 70)) := (Below.refl _ _).alloc (Nat.le_refl _) _
  have HAT : Hid (Calls Tryz.prog 65 #[.pointer (some ⟨hb, 0, none⟩), .int .i64 t, .func (.func 109) #[] #[.pointer (some ⟨w.heap.size, 0, none⟩)]] (w.alloc (.cells #[.pointer (some ⟨hb, 0, none⟩)] 70)) fun e w' => (∃ v, e = .returned v) ∧ Hid (NonePost J B c hb r S L m w e w')) := Lib.hid ((at_none (x.below hbw) hr t h6 hp _).mono fun e w' hp => ⟨⟨_, hp.1⟩, Lib.hid (hp.of hbw)⟩)
  clear x h6 hp hbw
  go_enter Tryz.func64, Tryz.ntmps64
  go_wp2_with fail
  refine HAT.out.mono ?_
  rintro e w1 ⟨⟨v, rfl⟩, hp⟩
  go_wp2
  go_ret
  exact hp.out
set_option maxHeartbeats 800000 in
theorem free_row {L : Nat → List Pl} {m : Nat} (x : HpV J B c hb r S L m w) (hr : r < 16) (t : Nat) (h6 : t < 9223372036854775808) {p : Pl} (hp : plAt L t = p) (hpr : p.row ≠ []) :
    Calls Tryz.prog 64 #[.pointer (some ⟨hb, 0, none⟩), .int .i64 t] w fun e w' => (p.dead = false → NonePost J B c hb r S L m w e w') ∧ (p.dead = true → PlPost J B c hb r S L m t Pl.no w e w') := by
  obtain ⟨w0, hw0⟩ : ∃ w0, w0 = w.alloc (.cells #[.pointer (some ⟨hb, 0, none⟩)] 70) := ⟨_, rfl⟩
  have hbw : Below w.heap.size w w0 := by rw [hw0]; exact (Below.refl _ _).alloc (Nat.le_refl _) _
  have hx0 : w0.heap[w.heap.size]? = some (.cells #[.pointer (some ⟨hb, 0, none⟩)] 70 (0, 0)) := by rw [hw0]; exact heap_alloc_new w _
  have hl0 := (Array.getElem?_eq_some_iff.1 hx0).1
  have x0 := x.below hbw
  have HAT : Hid (Calls Tryz.prog 65 #[.pointer (some ⟨hb, 0, none⟩), .int .i64 t, .func (.func 109) #[] #[.pointer (some ⟨w.heap.size, 0, none⟩)]] w0 fun e w' => (∃ v, e = .returned v) ∧ Hid ((p.dead = false → NonePost J B c hb r S L m w e w') ∧ (p.dead = true → PlPost J B c hb r S L m t Pl.no w e w'))) := Lib.hid
    (at_some1 x0 hr t h6 hp hpr 109 _ (enters_of Tryz.func109 (by kernel_rfl) rfl) (fun e w' => (∃ v, e = .returned v) ∧ Hid ((p.dead = false → NonePost J B c hb r S L m w e w') ∧ (p.dead = true → PlPost J B c hb r S L m t Pl.no w e w'))) (fun e w' h => h.1) fun sb S1 W1 ha => by
      obtain ⟨hT, _⟩ := ha.hpv
      have hsb : w0.heap.size ≤ sb := by obtain ⟨_, _, _, _, _, _, _, h, _⟩ := ha; exact h
      refine (free1_any x0.pos.1 ha hr hp hpr (by rw [World.cell?_of_block (hT.1.block _ hl0 (x.low (Nat.le_refl _))), Lib.cell_of_heap hx0]; rfl) (by omega)).mono ?_
      rintro e w' ⟨h1, h2⟩
      cases hd : p.dead with
      | false => exact ⟨⟨_, (h1 hd).1⟩, Lib.hid ⟨fun _ => (h1 hd).of hbw, fun e => by cases e⟩⟩
      | true => exact ⟨⟨_, (h2 hd).1⟩, Lib.hid ⟨(fun e => by cases e), fun _ => (h2 hd).of hbw⟩⟩)
  have HW0 := Lib.hid hw0
  clear x hp hpr h6 hbw hx0 hl0 x0 hw0
  go_enter Tryz.func64, Tryz.ntmps64
  go_wp2_with fail
  rw [← HW0.out]
  refine HAT.out.mono ?_
  rintro e w1 ⟨⟨v, rfl⟩, hp⟩
  go_wp2
  go_ret
  exact hp.out
end
end Go.Proofs.YtijggofelepaaaaGreatDoor

/- Contract: Get. -/
set_option maxRecDepth 100000
namespace Go.Proofs.YtijggofelepaaaaGreatDoor
open Go.RowKit

section
variable {J : List RawOp → Prop} {B : Nat} {S : Nat → Prop} {c : Ac} {w : World} {hb r : Nat}
set_option maxHeartbeats 3200000 in
theorem get1_any {sb k2 rb vb : Nat} {s : ByteArray} {d : Bool} {W1 : World} (c0 : W1.cell? ⟨sb, k2, none⟩ = some (.string s)) (c1 : W1.cell? ⟨sb, k2 + 1, none⟩ = some (.bool d)) (hr0 : W1.heap[rb]? = some (.cells #[.string ⟨#[]⟩] 9 (0, 0))) (hv0 : W1.heap[vb]? = some (.cells #[.bool false] 4 (0, 0))) (hne : rb ≠ vb) :
    Calls Tryz.prog 66 #[.pointer (some ⟨sb, 0, none⟩), .pointer (some ⟨sb, k2, none⟩), .pointer (some ⟨rb, 0, none⟩), .pointer (some ⟨vb, 0, none⟩)] W1 fun e w' => e = .returned (.int .i64 0) ∧ w'.heap[rb]? = some (.cells #[.string s] 9 (0, 0)) ∧ w'.heap[vb]? = some (.cells #[.bool (!d)] 4 (0, 0)) ∧ Kept (fun k => k = rb ∨ k = vb) W1 w' := by
  have r0 : W1.cell? ⟨rb, 0, none⟩ = some (.string ⟨#[]⟩) := by rw [Lib.cell_of_heap hr0]; rfl
  have v0 : W1.cell? ⟨vb, 0, none⟩ = some (.bool false) := by rw [Lib.cell_of_heap hv0]; rfl
  have fr : W1.frozen? ⟨rb, 0, none⟩ = false := Lib.frozen_of_heap hr0 _
  have fv : W1.frozen? ⟨vb, 0, none⟩ = false := Lib.frozen_of_heap hv0 _
  have HE1 : Hid (∀ W : World, W.heap = W1.heap → W.os = W1.os → W.tape = W1.tape → W.output = W1.output → (((W.setCell ⟨rb, 0, none⟩ (.string s)).setCell ⟨vb, 0, none⟩ (.bool (!d))).heap[rb]? = some (.cells #[.string s] 9 (0, 0)) ∧ ((W.setCell ⟨rb, 0, none⟩ (.string s)).setCell ⟨vb, 0, none⟩ (.bool (!d))).heap[vb]? = some (.cells #[.bool (!d)] 4 (0, 0)) ∧ Kept (fun k => k = rb ∨ k = vb) W1 ((W.setCell ⟨rb, 0, none⟩ (.string s)).setCell ⟨vb, 0, none⟩ (.bool (!d)))) ∧
      (((W.setCell ⟨vb, 0, none⟩ (.bool (!d))).setCell ⟨rb, 0, none⟩ (.string s)).heap[rb]? = some (.cells #[.string s] 9 (0, 0)) ∧ ((W.setCell ⟨vb, 0, none⟩ (.bool (!d))).setCell ⟨rb, 0, none⟩ (.string s)).heap[vb]? = some (.cells #[.bool (!d)] 4 (0, 0)) ∧ Kept (fun k => k = rb ∨ k = vb) W1 ((W.setCell ⟨vb, 0, none⟩ (.bool (!d))).setCell ⟨rb, 0, none⟩ (.string s)))) := Lib.hid fun W e1 e2 e3 e4 => by
    have hr1 : W.heap[rb]? = some (.cells #[.string ⟨#[]⟩] 9 (0, 0)) := by rw [e1]; exact hr0
    have hv1 : W.heap[vb]? = some (.cells #[.bool false] 4 (0, 0)) := by rw [e1]; exact hv0
    have hk : Kept (fun k => k = rb ∨ k = vb) W1 W := ⟨e2, e3, e4, by rw [e1]; exact Nat.le_refl _, fun k _ _ => by rw [e1]⟩
    constructor
    · refine ⟨(Below.heap_setCell _ ⟨vb, 0, none⟩ _ rb hne).trans (heap_set_at hr1 0 _), ?_, ?_⟩
      · exact heap_set_at ((Below.heap_setCell _ ⟨rb, 0, none⟩ _ vb hne.symm).trans hv1) 0 _
      · exact (hk.trans (Kept.setCell (fun k => k = rb ∨ k = vb) W (b := rb) (i := 0) (.inl rfl) _) (fun _ e => .inl e)).trans (Kept.setCell (fun k => k = rb ∨ k = vb) _ (b := vb) (i := 0) (.inr rfl) _) (fun _ e => .inl e)
    · refine ⟨heap_set_at ((Below.heap_setCell _ ⟨vb, 0, none⟩ _ rb hne).trans hr1) 0 _, ?_, ?_⟩
      · exact (Below.heap_setCell _ ⟨rb, 0, none⟩ _ vb hne.symm).trans (heap_set_at hv1 0 _)
      · exact (hk.trans (Kept.setCell (fun k => k = rb ∨ k = vb) W (b := vb) (i := 0) (.inr rfl) _) (fun _ e => .inl e)).trans (Kept.setCell (fun k => k = rb ∨ k = vb) _ (b := rb) (i := 0) (.inl rfl) _) (fun _ e => .inl e)
  clear hr0 hv0
  go_enter Tryz.func66, Tryz.ntmps66
  go_wp2
  go_region
  all_goals go_wp2
  all_goals go_ret
  all_goals exact ⟨rfl, (HE1.out W1.drew rfl rfl rfl rfl).1⟩

/-- What Get leaves. -/
def GetPost (J : List RawOp → Prop) (B : Nat) (c : Ac) (hb r : Nat) (S : Nat → Prop) (L : Nat → List Pl) (m : Nat) (s : ByteArray) (d : Bool) (code : Nat) (w : World) (e : Ending) (w' : World) : Prop :=
  e = .returned (.tuple #[.string s, .bool d, .int .i64 code]) ∧ ∃ S', Turn S w S' w' ∧ HpV J B c hb r S' L m w'
set_option maxHeartbeats 3200000 in
theorem get_any {L : Nat → List Pl} {m : Nat} (x : HpV J B c hb r S L m w) (t : Int) (s : ByteArray) (d : Bool) (code : Nat)
    (hat : ∀ w0, w0 = (w.alloc (.cells #[.string ⟨#[]⟩] 9)).alloc (.cells #[.bool false] 4) → Calls Tryz.prog 65 #[.pointer (some ⟨hb, 0, none⟩), .int .i64 t, .func (.func 66) #[] #[.pointer (some ⟨w.heap.size, 0, none⟩), .pointer (some ⟨w.heap.size + 1, 0, none⟩)]] w0 fun e w' => e = .returned (.int .i64 code) ∧ w'.heap[w.heap.size]? = some (.cells #[.string s] 9 (0, 0)) ∧ w'.heap[w.heap.size + 1]? = some (.cells #[.bool d] 4 (0, 0)) ∧ ∃ S', Turn S w S' w' ∧ HpV J B c hb r S' L m w' ∧ ¬ S' w.heap.size ∧ ¬ S' (w.heap.size + 1)) :
    Calls Tryz.prog 26 #[.pointer (some ⟨hb, 0, none⟩), .int .i64 t] w (GetPost J B c hb r S L m s d code w) := by
  obtain ⟨hp1, hp2⟩ := x.pos
  have HAT := Lib.hid (hat _ rfl)
  obtain ⟨rb, hrb⟩ : ∃ rb, rb = w.heap.size := ⟨_, rfl⟩
  rw [← hrb] at HAT
  have HRB := Lib.hid (And.intro hrb (And.intro hp1 hp2))
  clear hat x
  go_enter Tryz.func26, Tryz.ntmps26
  go_wp2_with fail
  rw [← hrb]
  clear hrb hp1 hp2
  refine HAT.out.mono ?_
  rintro e w5 ⟨rfl, h1, h2, S', hT, hv, n1, n2⟩
  have c1 : w5.cell? ⟨rb, 0, none⟩ = some (.string s) := by rw [Lib.cell_of_heap h1]; rfl
  have c2 : w5.cell? ⟨rb + 1, 0, none⟩ = some (.bool d) := by rw [Lib.cell_of_heap h2]; rfl
  have f1 : w5.frozen? ⟨rb, 0, none⟩ = false := Lib.frozen_of_heap h1 _
  have f2 : w5.frozen? ⟨rb + 1, 0, none⟩ = false := Lib.frozen_of_heap h2 _
  have HE : Hid (∀ W : World, W.heap = w5.heap → W.os = w5.os → W.tape = w5.tape → W.output = w5.output → ((W.setCell ⟨rb, 0, none⟩ (.string s)).setCell ⟨rb + 1, 0, none⟩ (.bool d)).cell? ⟨rb, 0, none⟩ = some (.string s) ∧ ((W.setCell ⟨rb, 0, none⟩ (.string s)).setCell ⟨rb + 1, 0, none⟩ (.bool d)).cell? ⟨rb + 1, 0, none⟩ = some (.bool d) ∧
      GetPost J B c hb r S L m s d code w (.returned (.tuple #[.string s, .bool d, .int .i64 code])) ((W.setCell ⟨rb, 0, none⟩ (.string s)).setCell ⟨rb + 1, 0, none⟩ (.bool d))) := Lib.hid fun W e1 e2 e3 e4 => by
    obtain ⟨hr0, hr1, hr2⟩ := HRB.out
    have hr1' : W.heap[rb]? = some (.cells #[.string s] 9 (0, 0)) := by rw [e1]; exact h1
    have hv1 : W.heap[rb + 1]? = some (.cells #[.bool d] 4 (0, 0)) := by rw [e1]; exact h2
    have k0 : Kept (fun k => k = rb ∨ k = rb + 1) w5 W := ⟨e2, e3, e4, by rw [e1]; exact Nat.le_refl _, fun k _ _ => by rw [e1]⟩
    have hk := (k0.trans (Kept.setCell (fun k => k = rb ∨ k = rb + 1) W (b := rb) (i := 0) (.inl rfl) (.string s)) (fun _ e => .inl e)).trans (Kept.setCell (fun k => k = rb ∨ k = rb + 1) (W.setCell ⟨rb, 0, none⟩ (.string s)) (b := rb + 1) (i := 0) (.inr rfl) (.bool d)) (fun _ e => .inl e)
    have a1 := (Below.heap_setCell (W.setCell ⟨rb, 0, none⟩ (.string s)) ⟨rb + 1, 0, none⟩ (.bool d) rb (by simp)).trans (heap_set_at hr1' 0 (.string s))
    have a2 := heap_set_at ((Below.heap_setCell W ⟨rb, 0, none⟩ (.string s) (rb + 1) (by simp)).trans hv1) 0 (.bool d)
    refine ⟨by rw [Lib.cell_of_heap a1]; rfl, by rw [Lib.cell_of_heap a2]; rfl, rfl, S', hT.new hk (fun k hk => by omega), hv.new hk (fun k hk => ?_)⟩
    rcases hk with rfl | rfl
    · exact ⟨n1, by omega, by omega⟩
    · exact ⟨n2, by omega, by omega⟩
  clear h1 h2 hT hv n1 n2
  go_wp2
  go_region
  all_goals go_wp2
  obtain ⟨q1, q2, q3⟩ := HE.out w5.drew rfl rfl rfl rfl
  have q1' : ((w5.setCell ⟨rb, 0, none⟩ (.string s)).setCell ⟨rb + 1, 0, none⟩ (.bool d)).drew.cell? ⟨rb, 0, none⟩ = some (.string s) := q1
  have q2' : ((w5.setCell ⟨rb, 0, none⟩ (.string s)).setCell ⟨rb + 1, 0, none⟩ (.bool d)).drew.cell? ⟨rb + 1, 0, none⟩ = some (.bool d) := q2
  obtain ⟨W, hW⟩ : ∃ W, W = ((w5.setCell ⟨rb, 0, none⟩ (.string s)).setCell ⟨rb + 1, 0, none⟩ (.bool d)).drew := ⟨_, rfl⟩
  rw [← hW] at q1' q2' ⊢
  exact bodyPost_ret (v := .tuple #[.string s, .bool d, .int .i64 code]) (by simp [results, Tryz.results26, go_sem, q1', q2']) rfl (by rw [hW]; exact q3)
theorem two_new {w0 : World} (hw0 : w0 = (w.alloc (.cells #[.string ⟨#[]⟩] 9)).alloc (.cells #[.bool false] 4)) : Below w.heap.size w w0 ∧ w0.heap[w.heap.size]? = some (.cells #[.string ⟨#[]⟩] 9 (0, 0)) ∧ w0.heap[w.heap.size + 1]? = some (.cells #[.bool false] 4 (0, 0)) := by
  subst hw0
  refine ⟨((Below.refl _ _).alloc (Nat.le_refl _) _).alloc (by simp) _, ?_, ?_⟩
  · rw [Below.heap_alloc _ _ _ (by simp)]; exact heap_alloc_new w _
  · have := heap_alloc_new (w.alloc (.cells #[.string ⟨#[]⟩] 9)) (.cells #[.bool false] 4)
    rw [World.size_alloc] at this
    exact this
theorem get_left {L : Nat → List Pl} {m : Nat} (x : HpV J B c hb r S L m w) {w0 w' : World} {e : Ending} (hbw : Below w.heap.size w w0) (g0 : w0.heap[w.heap.size]? = some (.cells #[.string ⟨#[]⟩] 9 (0, 0))) (g1 : w0.heap[w.heap.size + 1]? = some (.cells #[.bool false] 4 (0, 0))) (hn : NonePost J B c hb r S L m w0 e w') :
    e = .returned (.int .i64 (3 : Nat)) ∧ w'.heap[w.heap.size]? = some (.cells #[.string ⟨#[]⟩] 9 (0, 0)) ∧ w'.heap[w.heap.size + 1]? = some (.cells #[.bool false] 4 (0, 0)) ∧ ∃ S', Turn S w S' w' ∧ HpV J B c hb r S' L m w' ∧ ¬ S' w.heap.size ∧ ¬ S' (w.heap.size + 1) := by
  obtain ⟨he, S', hT, hv⟩ := hn
  have l1 := (Array.getElem?_eq_some_iff.1 g1).1
  have n0 := x.low (k := w.heap.size) (Nat.le_refl _)
  have n1 := x.low (k := w.heap.size + 1) (by omega)
  exact ⟨he, (hT.1.block _ (by omega) n0).trans g0, (hT.1.block _ l1 n1).trans g1, S', (Turn.ofBelow hbw).trans hT, hv, fun hs => n0 (hT.2 _ (by omega) hs), fun hs => n1 (hT.2 _ l1 hs)⟩
theorem get_none {L : Nat → List Pl} {m : Nat} (x : HpV J B c hb r S L m w) (hr : r < 16) (t : Nat) (h6 : t < 9223372036854775808) (hp : plAt L t = Pl.no) :
    Calls Tryz.prog 26 #[.pointer (some ⟨hb, 0, none⟩), .int .i64 t] w (GetPost J B c hb r S L m ⟨#[]⟩ false 3 w) :=
  get_any x t _ _ 3 fun w0 hw0 => by
    obtain ⟨hbw, g0, g1⟩ := two_new hw0
    exact (at_none (x.below hbw) hr t h6 hp _).mono fun e w' hn => get_left x hbw g0 g1 hn
theorem get_neg {L : Nat → List Pl} {m : Nat} (x : HpV J B c hb r S L m w) (hr : r < 16) (t : Int) (h0 : t < 0) :
    Calls Tryz.prog 26 #[.pointer (some ⟨hb, 0, none⟩), .int .i64 t] w (GetPost J B c hb r S L m ⟨#[]⟩ false 3 w) :=
  get_any x t _ _ 3 fun w0 hw0 => by
    obtain ⟨hbw, g0, g1⟩ := two_new hw0
    exact (at_neg (x.below hbw) hr t h0 _).mono fun e w' hn => get_left x hbw g0 g1 hn
theorem get_row {L : Nat → List Pl} {m : Nat} (x : HpV J B c hb r S L m w) (hr : r < 16) (t : Nat) (h6 : t < 9223372036854775808) {p : Pl} (hp : plAt L t = p) (hpr : p.row ≠ []) :
    Calls Tryz.prog 26 #[.pointer (some ⟨hb, 0, none⟩), .int .i64 t] w (GetPost J B c hb r S L m ⟨p.row.toArray⟩ (!p.dead) 0 w) :=
  get_any x t _ _ 0 fun w0 hw0 => by
    obtain ⟨hbw, g0, g1⟩ := two_new hw0
    have x0 := x.below hbw
    refine at_some2 x0 hr t h6 hp hpr 66 _ _ (enters_of Tryz.func66 (by kernel_rfl) rfl) _ (fun e w' h => ⟨_, h.1⟩) fun sb S1 W1 ha => ?_
    obtain ⟨hT, hv⟩ := ha.hpv
    obtain ⟨h, G, _, _, _, _, _, hsb, hs1, _⟩ := id ha
    have hget : (L (t / 64))[t % 64]? = some p := by
      unfold plAt at hp
      cases hg : (L (t / 64))[t % 64]? with
      | none => rw [hg] at hp; exact absurd (by rw [← hp]; rfl) hpr
      | some y => rw [hg] at hp; rw [← hp]; rfl
    have c0 := hs1.row hget
    have c1 := hs1.dead hget
    rw [Nat.mul_comm] at c0 c1
    have l1 := (Array.getElem?_eq_some_iff.1 g1).1
    have n0 := x.low (k := w.heap.size) (Nat.le_refl _)
    have n1 := x.low (k := w.heap.size + 1) (by omega)
    have b0 := (hT.1.block _ (by omega) n0).trans g0
    have b1 := (hT.1.block _ l1 n1).trans g1
    refine (get1_any c0 c1 b0 b1 (by simp)).mono ?_
    rintro e w' ⟨he, h1, h2, hk⟩
    have hp1 := x.pos
    refine ⟨he, h1, h2, S1, ((Turn.ofBelow hbw).trans hT).new hk (fun k hk => by omega), hv.new hk (fun k hk => ?_), fun hs => n0 (hT.2 _ (by omega) hs), fun hs => n1 (hT.2 _ l1 hs)⟩
    rcases hk with rfl | rfl
    · exact ⟨fun hs => n0 (hT.2 _ (by omega) hs), by omega, by omega⟩
    · exact ⟨fun hs => n1 (hT.2 _ l1 hs), by omega, by omega⟩
end
end Go.Proofs.YtijggofelepaaaaGreatDoor

/- Operations of a round by their runs; a row of numbers; the addresses on a sheet that are chosen. -/
set_option maxRecDepth 100000
namespace Go.Proofs.YtijggofelepaaaaGreatDoor
open Go Go.RowKit

section
variable {P : Program} {l n : Nat} {o : Oper} {a : Act} {w w' : World} {v : Value} {K : Act → World → Prop} {Q : Exit → Act → World → Prop}
/-- An operation in a round, out of its run. -/
theorem wpIn_value (hd : ∀ c, o.op ≠ .defer c) (hr : (execOp a.eval o).run P w = .ok (.value v) w') (h : K (a.put o.dst v) w') : o.wpIn (Fence.wide.inRound l) n P a w K Q :=
  ⟨fun _ _ => trivial, by rw [Oper.semAt_plain _ _ _ hd, hr]; exact h⟩
theorem exec_load_mid (ty : TypeId) (x : Operand) (ho : o.op = .load ty x) (b i : Nat) (hx : a.eval x = .pointer (some ⟨b, i, none⟩)) (cs : List Value) (d : TypeDesc) (hc : w.rangeAt b i cs)
    (hu : P.underlying ty = some d) (hd : d.isRow = true) (hi : (P.info? ty).map (·.size) = some cs.length) : (execOp a.eval o).run P w = .ok (.value (.agg cs.toArray)) w := by
  unfold execOp
  simp only [ho, hx, Instr.loadAt, Instr.sureAddr, Sem.run_bind, Sem.run_pure, Result.andThen_ok, run_loadVar_mid w b i ty cs d hc hu hd hi]
theorem exec_append {s x : Operand} (t : TypeId) (ho : o.op = .call { callee := .builtin .append, args := #[s, x], argTypes := #[t, t] }) (sv xv : Value) (hs : a.eval s = sv) (hx : a.eval x = xv) (hr : (Builtin.append_ #[t, t] o.type #[sv, xv]).run P w = .ok v w') : (execOp a.eval o).run P w = .ok (.value v) w' := by
  simp [execOp, ho, resolve, invoke, builtin, hs, hx, hr, Result.andThen]
theorem step_app_in {ops : Array Oper} {E : Prop} {s x : Operand} (hgd : o.guard = none) (t : TypeId) (ho : o.op = .call { callee := .builtin .append, args := #[s, x], argTypes := #[t, t] }) (sv xv : Value) (hs : a.eval s = sv) (hx : a.eval x = xv) (hr : (Builtin.append_ #[t, t] o.type #[sv, xv]).run P w = .ok v w') (h : K (a.put o.dst v) w') :
    if Region.wanted o (yielded ops a.tmps) = true then o.wpIn (Fence.wide.inRound l) n P a w K Q else E := by
  rw [if_pos (by simp [Region.wanted, hgd])]
  exact wpIn_value (by rw [ho]; intro c hc; cases hc) (exec_append t ho sv xv hs hx hr) h
end

/-- Numbers in a row of one's own. -/
def NumsI (w : World) (v : Value) (l : List Nat) : Prop := w.ownsRow 0 3 1 v l.length (l.map fun k : Nat => Value.int .i64 (k : Int))
theorem NumsI.nil (w : World) : NumsI w (.slice none 0 0) [] := World.ownsRow_nil _ _ _ _
theorem NumsI.block {w : World} {v : Value} {l : List Nat} (h : NumsI w v l) : ∀ k, v.ownBlock = some k → ∃ cur, w.heap[k]? = some (.cells cur 3 (0, 0)) := by
  intro k hk
  rcases h.2 with ⟨rfl, _⟩ | ⟨g, cap, cur, rfl, _, hh, _⟩
  · simp [Value.ownBlock] at hk
  · simp only [Value.ownBlock, Option.some.injEq] at hk
    subst hk
    exact ⟨_, hh⟩
theorem NumsI.shape {w : World} {v : Value} {l : List Nat} (h : NumsI w v l) : ∃ a c, v = .slice a l.length c := by
  rcases h.2 with ⟨rfl, h0⟩ | ⟨g, cap, cur, rfl, _⟩
  · exact ⟨none, 0, by rw [h0]⟩
  · exact ⟨_, _, rfl⟩
theorem nums_push (w : World) (v : Value) (l : List Nat) (x : Nat) (h : NumsI w v l) (hl : l.length ≤ 1000000) (ty : TypeId) :
    ∃ v' w', (Builtin.append_ #[57, 57] ty #[v, .slice (some ⟨w.heap.size, 0, none⟩) 1 1]).run Tryz.prog (w.alloc (.cells #[.int .i64 x] 3)) = .ok v' w' ∧ NumsI w' v' (l ++ [x]) ∧ Grew (w.alloc (.cells #[.int .i64 x] 3)) w' v v' := by
  obtain ⟨i0, hi, q0, q1, q2⟩ := info_parts infoInt
  have hb := (Below.refl w.heap.size w).alloc (Nat.le_refl _) (.cells #[.int .i64 x] 3)
  have hn := heap_alloc_new w (.cells #[.int .i64 x] 3)
  have h2 : NumsI (w.alloc (.cells #[.int .i64 x] 3)) v l := ownsRow_of_block h (fun k hk => by
    obtain ⟨cur, hc⟩ := h.block k hk
    exact hb.block k (Array.getElem?_eq_some_iff.1 hc).1)
  obtain ⟨v', w', hr, h1, h3⟩ := append_own2 (w.alloc (.cells #[.int .i64 x] 3)) 57 ty 3 i0 (.int .i64 0) 1 8 Tryz.underlying57 hi q0 q1 q2 rfl (by decide) v l.length _ h2 ⟨w.heap.size, 0, none⟩ 1 1 [.int .i64 x] rfl (fun j u hu => by
    match j, hu with
    | 0, hu => rw [Addr.add_lit, Nat.zero_add, Lib.cell_of_heap hn]; simpa using hu
    | j + 1, hu => simp at hu) (fun u hu => by rw [List.mem_singleton] at hu; subst hu; rfl) (by unfold maxLen; omega) (by omega) (by omega)
  refine ⟨v', w', hr, ?_, h3⟩
  unfold NumsI
  rw [List.length_append, List.map_append]
  exact h1

/-- The addresses on a sheet whose places are chosen. -/
def rowT (f : Pl → Bool) (l : List Pl) (q : Nat) : Nat → List Nat
  | 0 => []
  | k + 1 => rowT f l q k ++ (match l[k]? with | some p => if f p then [q * 64 + k] else [] | none => [])
def tidsL (f : Pl → Bool) (L : Nat → List Pl) (s : List Nat) : List Nat := s.flatMap fun q => rowT f (L q) q 64
theorem rowT_len (f : Pl → Bool) (l : List Pl) (q : Nat) : ∀ k, (rowT f l q k).length ≤ k
  | 0 => Nat.le_refl _
  | k + 1 => by
    have := rowT_len f l q k
    unfold rowT
    rw [List.length_append]
    have h2 : (match l[k]? with | some p => if f p then [q * 64 + k] else [] | none => ([] : List Nat)).length ≤ 1 := by
      split
      · split <;> simp
      · simp
    omega
theorem rowT_succ {f : Pl → Bool} {l : List Pl} {q k : Nat} {p : Pl} (h : l[k]? = some p) : rowT f l q (k + 1) = rowT f l q k ++ (if f p then [q * 64 + k] else []) := by
  rw [rowT, h]
theorem tidsL_snoc (f : Pl → Bool) (L : Nat → List Pl) (s : List Nat) (q : Nat) : tidsL f L (s ++ [q]) = tidsL f L s ++ rowT f (L q) q 64 := by
  unfold tidsL
  rw [List.flatMap_append]
  simp
theorem tidsL_len (f : Pl → Bool) (L : Nat → List Pl) : ∀ s : List Nat, (tidsL f L s).length ≤ 64 * s.length
  | [] => Nat.le_refl _
  | q :: s => by
    have h1 := tidsL_len f L s
    have h2 := rowT_len f (L q) q 64
    unfold tidsL at h1 ⊢
    rw [List.flatMap_cons, List.length_append, List.length_cons]
    omega

/-- What stands within a round of tids: the addresses so far. -/
def TRS (J : List RawOp → Prop) (B : Nat) (c : Ac) (h : Hd) (G : Nat → List UInt8) (N sb q : Nat) (l : List Pl) (rec : LpRec) (X : Nat → Prop) (W0 : World) (S2 : Nat → Prop) (W2 : World) (xs : List Nat) (W : World) : Prop :=
  ActV J B S2 c h G W ∧ TurnC (fun k => k = N + 1 ∨ k = N + 5 ∨ N + 11 ≤ k) S2 W2 S2 W ∧ Fix (fun k => X k ∧ k ≠ N + 5) W0 S2 W ∧ W.heap[N + 5]? = some (.loop (rec .busy none)) ∧ SheetAt W sb q l ∧
    ∃ v, W.heap[N + 1]? = some (.cells #[v] 57 (0, 0)) ∧ NumsI W v xs ∧ ∀ g, v.ownBlock = some g → ¬ S2 g ∧ N + 11 ≤ g
section
variable {J : List RawOp → Prop} {B : Nat} {c : Ac} {h : Hd} {G : Nat → List UInt8} {N sb q : Nat} {l : List Pl} {rec : LpRec} {X : Nat → Prop} {W0 : World} {S2 : Nat → Prop} {W2 : World} {xs : List Nat} {W : World}
theorem TRS.below (x : TRS J B c h G N sb q l rec X W0 S2 W2 xs W) (hX : ∀ k, X k → k < W0.heap.size) {W' : World} (hb : Below W.heap.size W W') : TRS J B c h G N sb q l rec X W0 S2 W2 xs W' := by
  obtain ⟨a1, a2, a3, a4, a5, v, a6, a7, a8⟩ := x
  refine ⟨a1.below hb, a2.trans ((Turn.ofBelow hb).toC _), a3.below (fun k hk => hX k hk.1) hb, (hb.block _ (Array.getElem?_eq_some_iff.1 a4).1).trans a4, a5.below hb, v, (hb.block _ (Array.getElem?_eq_some_iff.1 a6).1).trans a6, ownsRow_of_block a7 (fun k hk => ?_), a8⟩
  obtain ⟨cur, hc⟩ := a7.block k hk
  exact hb.block k (Array.getElem?_eq_some_iff.1 hc).1
/-- One address more. -/
theorem TRS.push (x : TRS J B c h G N sb q l rec X W0 S2 W2 xs W) (hXN : ∀ k, X k → k < N + 11 ∧ k ≠ N + 1) (hw : N + 11 ≤ W.heap.size) (hS : ¬ S2 (N + 1)) (hsb : N + 11 ≤ sb) (hxs : xs.length ≤ 1000000) (y : Nat) {v : Value} (hv : W.heap[N + 1]? = some (.cells #[v] 57 (0, 0))) :
    ∃ v' w', (Builtin.append_ #[57, 57] 57 #[v, .slice (some ⟨W.heap.size, 0, none⟩) 1 1]).run Tryz.prog (W.alloc (.cells #[.int .i64 y] 3)) = .ok v' w' ∧ w'.cell? ⟨N + 1, 0, none⟩ = some v ∧ w'.frozen? ⟨N + 1, 0, none⟩ = false ∧ (∃ a n c, v' = .slice a n c) ∧ TRS J B c h G N sb q l rec X W0 S2 W2 (xs ++ [y]) (w'.setCell ⟨N + 1, 0, none⟩ v') := by
  obtain ⟨a1, a2, a3, a4, a5, v0, a6, a7, a8⟩ := x
  rw [a6] at hv
  cases hv
  have hb : Below W.heap.size W (W.alloc (.cells #[.int .i64 y] 3)) := (Below.refl _ _).alloc (Nat.le_refl _) _
  obtain ⟨v', w', hr, hn, hg1, hg2⟩ := nums_push W v xs y a7 hxs 57
  have hgb : ∀ g, v.ownBlock = some g → ∃ cur, W.heap[g]? = some (.cells cur 3 (0, 0)) := a7.block
  have hk : Kept (fun k => v.ownBlock = some k) W w' := ⟨hg1.os, hg1.tape, hg1.output, Nat.le_trans hb.size hg1.size, fun k hk1 hk2 => by
    rw [hg1.block k (Nat.lt_of_lt_of_le hk1 hb.size) (fun e => hk2 e.symm)]
    exact hb.block k hk1⟩
  have hl1 : N + 1 < W.heap.size := (Array.getElem?_eq_some_iff.1 a6).1
  have hn1 : ¬ v.ownBlock = some (N + 1) := fun e => by have := (a8 _ e).2; omega
  have b6 := (hk.block _ hl1 hn1).trans a6
  have hks : Kept (fun k => k = N + 1) w' (w'.setCell ⟨N + 1, 0, none⟩ v') := Kept.setCell (fun k => k = N + 1) w' rfl _
  have hK : Kept (fun k => v.ownBlock = some k ∨ k = N + 1) W (w'.setCell ⟨N + 1, 0, none⟩ v') := (hk.mono (T := fun k => v.ownBlock = some k ∨ k = N + 1) (fun _ e => .inl e)).trans (hks.mono (T := fun k => v.ownBlock = some k ∨ k = N + 1) (fun _ e => .inr e)) (fun _ e => .inl e)
  have hns : ∀ k, (v.ownBlock = some k ∨ k = N + 1) → ¬ S2 k ∧ (k = N + 1 ∨ N + 11 ≤ k) := fun k hk => by
    rcases hk with hk | rfl
    · exact ⟨(a8 k hk).1, .inr (a8 k hk).2⟩
    · exact ⟨hS, .inl rfl⟩
  have hne : ∀ k, v'.ownBlock = some k → k ≠ N + 1 := fun k hk => by
    rcases hg2 k hk with h1 | h1
    · have := (a8 k h1).2; omega
    · rw [World.size_alloc] at h1; omega
  refine ⟨v', w', hr, by rw [Lib.cell_of_heap b6]; rfl, Lib.frozen_of_heap b6 _, ?_, a1.kept hK (fun k hk _ => ⟨(hns k hk).1, by have := (hns k hk).2; omega⟩), a2.trans ⟨hK.mono (fun k hk => .inr (by have := (hns k hk).2; omega)), fun _ _ hs => hs⟩, fun k hk => ?_, ?_, ?_, v', heap_set_at b6 0 _, ?_, fun g hg => ?_⟩
  · obtain ⟨a, cc, e⟩ := hn.shape
    exact ⟨a, _, cc, e⟩
  · obtain ⟨e1, e2⟩ := a3 k hk
    have hl : k < W.heap.size := by
      have := (hXN k hk.1).1
      omega
    have hno : ¬ (v.ownBlock = some k ∨ k = N + 1) := fun e => by
      have := (hns k e).2
      have := hXN k hk.1
      omega
    exact ⟨(hK.block k hl hno).trans e1, e2⟩
  · exact (hK.block _ (Array.getElem?_eq_some_iff.1 a4).1 (fun e => by have := (hns _ e).2; omega)).trans a4
  · refine a5.kept hK (fun e => ?_)
    rcases e with e | e
    · obtain ⟨cur, hc⟩ := hgb _ e
      unfold SheetAt at a5
      rw [hc] at a5
      simp at a5
    · omega
  · exact ownsRow_of_block hn (fun k hk => Below.heap_setCell w' ⟨N + 1, 0, none⟩ v' k (hne k hk))
  · rcases hg2 g hg with h1 | h1
    · exact a8 g h1
    · rw [World.size_alloc] at h1
      exact ⟨fun hs => by have := (a1.low g hs).2; omega, by omega⟩
end
end Go.Proofs.YtijggofelepaaaaGreatDoor
