/- The law's 'does': Write that is refused. -/
import Derived.Test.YtnmeobbbcccgjaaPX
set_option maxRecDepth 100000
namespace Go.Proofs.Ytnmeobbbcccgjaa
open Go Go.RowKit

set_option maxHeartbeats 400000 in
theorem does_write_no (B : Nat) (S T : Nat → Prop) (p d g n : Nat) (L : List Pg) (C : Nat → List UInt8) (P : Nat → Nat) (N : Nat) (x : It) (w : World) (h : Both B S T p d g n L C P N w) (hx : x.Fits) (hk : x.k = 3) (hn : ∀ e ∈ L, (e.page : Int) = x.f → e.pins = 0) :
    Calls Try.prog 11 #[.pointer (some ⟨g, 0, none⟩), .pointer (some ⟨p, 0, none⟩), opVal x] w (DoesPost B p d g n N w) := by
  obtain ⟨k, f, a, s⟩ := x
  simp only at hk hn
  subst hk
  have hb0 : Below w.heap.size w (w.alloc (opObj ⟨3, f, a, s⟩)) := (Below.refl _ _).alloc (Nat.le_refl _) _
  have h0 := h.below hb0
  obtain ⟨v, hv, hfc⟩ := h0.find f
  have hnp : NoPins P f := by
    rcases idxAt L f with ⟨i, e, hi, rfl⟩ | hx
    · exact h.noPins0 hi (hn e (List.mem_of_getElem? hi) rfl)
    · exact h.noPins hx
  have HU := Lib.hid (write_st_no h0.st f a s (wf_of_i64 hx.2.1) hnp)
  have HF := Lib.hid hfc
  have HE := Lib.hid (show DoesPost B p d g n N w (.returned (.bool true)) (w.alloc (opObj ⟨3, f, a, s⟩)) from ⟨rfl, S, T, L, C, P, h0.more (by omega), (Below.refl _ _).alloc h.low1 _⟩)
  have hlen := h.rel.len
  rcases hv with ⟨i, e, hi, hif, rfl⟩ | ⟨_, rfl⟩
  · obtain ⟨b, c, c3, hlc, cp, _, _⟩ := h0.pg.pinsAt hi
    have hil : i < L.length := (List.getElem?_eq_some_iff.1 hi).1
    rw [hn e (List.mem_of_getElem? hi) hif] at cp
    obtain ⟨ll, hll⟩ : ∃ ll, ll = L.length := ⟨_, rfl⟩
    rw [← hll] at c3 hlc hil hlen
    unfold opVal
    unfold opObj at HF HU HE c3 cp
    simp only at HF HU HE c3 cp ⊢
    clear hfc h0 hb0 h hn hnp hi hif hll hx
    go_enter Try.func11, Try.ntmps11
    go_wp2_with fail
    refine HF.out.mono ?_
    rintro e w1 ⟨rfl, hw⟩
    subst w1
    go_wp2_with fail
    all_goals refine HU.out.mono ?_
    all_goals rintro e w1 ⟨rfl, hw⟩
    all_goals subst w1
    all_goals go_wp2
    all_goals go_ret
    all_goals exact HE.out
  · unfold opVal
    unfold opObj at HF HU HE
    simp only at HF HU HE ⊢
    clear hfc h0 hb0 h hn hnp hx hlen
    go_enter Try.func11, Try.ntmps11
    go_wp2_with fail
    refine HF.out.mono ?_
    rintro e w1 ⟨rfl, hw⟩
    subst w1
    go_wp2_with fail
    all_goals refine HU.out.mono ?_
    all_goals rintro e w1 ⟨rfl, hw⟩
    all_goals subst w1
    all_goals go_wp2
    all_goals go_ret
    all_goals exact HE.out

set_option maxHeartbeats 400000 in
theorem does_write_bad (B : Nat) (S T : Nat → Prop) (p d g n : Nat) (L : List Pg) (C : Nat → List UInt8) (P : Nat → Nat) (N i : Nat) (e : Pg) (a : Int) (s : ByteArray) (w : World) (h : Both B S T p d g n L C P N w) (hi : L[i]? = some e) (hp : 0 < e.pins) (hs : s.size ≤ 9223372036854775807) (hn : ¬ (0 ≤ a ∧ a + s.size ≤ 512)) :
    Calls Try.prog 11 #[.pointer (some ⟨g, 0, none⟩), .pointer (some ⟨p, 0, none⟩), opVal ⟨3, e.page, a, s⟩] w (DoesPost B p d g n N w) := by
  have hmem := List.mem_of_getElem? hi
  obtain ⟨he4, heP, heC, heb⟩ := h.rel.ent e hmem
  have hb0 : Below w.heap.size w (w.alloc (opObj ⟨3, e.page, a, s⟩)) := (Below.refl _ _).alloc (Nat.le_refl _) _
  have h0 := h.below hb0
  have HF := Lib.hid (find_yes T g n i L e _ h0.pg h0.rel.nd (fun e he => (h0.rel.ent e he).1) h0.rel.len hi)
  have HU := Lib.hid (write_st_bad h0.st e.page a s (by omega) hs hn)
  have HE := Lib.hid (show DoesPost B p d g n N w (.returned (.bool true)) (w.alloc (opObj ⟨3, e.page, a, s⟩)) from ⟨rfl, S, T, L, C, P, h0.more (by omega), (Below.refl _ _).alloc h.low1 _⟩)
  have hlen := h.rel.len
  obtain ⟨b, c, c3, hlc, cp, _, _⟩ := h0.pg.pinsAt hi
  have hil : i < L.length := (List.getElem?_eq_some_iff.1 hi).1
  obtain ⟨k0, hk0⟩ : ∃ k0, k0 = e.pins := ⟨_, rfl⟩
  rw [← hk0] at cp hp
  have hz1 : ((k0 : Int) == 0) = false := by simp; omega
  obtain ⟨ll, hll⟩ : ∃ ll, ll = L.length := ⟨_, rfl⟩
  rw [← hll] at c3 hlc hil hlen
  have hid0 : decide ((i : Int) < 0) = false := by simp
  unfold opVal
  unfold opObj at HF HU HE c3 cp
  simp only at HF HU HE c3 cp ⊢
  clear h0 hb0 h hi hll heP heC heb hk0 hmem
  have hcase : a < 0 ∨ (¬ a < 0 ∧ 512 < a) ∨ (¬ a < 0 ∧ ¬ 512 < a ∧ 512 - a < s.size) := by omega
  clear hn
  rcases hcase with h1 | ⟨h1, h2⟩ | ⟨h1, h2, h3⟩
  all_goals
    go_enter Try.func11, Try.ntmps11
    go_wp2_with fail
    refine HF.out.mono ?_
    rintro e' w1 ⟨rfl, hw⟩
    subst w1
    go_wp2_with fail
  all_goals refine HU.out.mono ?_
  all_goals rintro e' w1 ⟨rfl, hw⟩
  all_goals subst w1
  all_goals go_wp2
  all_goals go_ret
  all_goals exact HE.out
end Go.Proofs.Ytnmeobbbcccgjaa
