/- The law's 'does', for every call. -/
import Derived.Test.YtnmeobbbcccgjaaPYA
import Derived.Test.YtnmeobbbcccgjaaPYB
set_option maxRecDepth 100000
namespace Go.Proofs.Ytnmeobbbcccgjaa
open Go Go.RowKit

theorem does_any (B : Nat) (S T : Nat → Prop) (p d g n : Nat) (L : List Pg) (C : Nat → List UInt8) (P : Nat → Nat) (N : Nat) (x : It) (w : World) (h : Both B S T p d g n L C P N w) (hx : x.Fits) (hN : N ≤ 4398046511104) :
    Calls Try.prog 11 #[.pointer (some ⟨g, 0, none⟩), .pointer (some ⟨p, 0, none⟩), opVal x] w (DoesPost B p d g n N w) := by
  by_cases k1 : x.k = 1
  · by_cases hf : 0 ≤ x.f ∧ x.f < 4096
    · obtain ⟨k, f, a, s⟩ := x
      simp only at k1 hf hx
      subst k1
      obtain ⟨q, rfl⟩ : ∃ q : Nat, f = (q : Int) := ⟨f.toNat, by omega⟩
      rcases idxAt L q with ⟨i, e, hi, he⟩ | hno
      · obtain rfl : e.page = q := by omega
        have hP := (h.rel.ent e (List.mem_of_getElem? hi)).2.1
        by_cases hfull : e.pins = 0 ∧ pinnedN P = n
        · exact does_pin_full B S T p d g n L C P N e.page a s w h (by omega) (by rw [hP]; exact hfull.1) hfull.2 hN
        · exact does_pin_old B S T p d g n L C P N i e a s w h hi hfull hN
      · have hno' : ∀ e ∈ L, e.page ≠ q := fun e he hc => hno e he (by omega)
        by_cases hfull : pinnedN P = n
        · exact does_pin_full B S T p d g n L C P N q a s w h (by omega) (h.rel.oth q hno').1 hfull hN
        · exact does_pin_new B S T p d g n L C P N q a s w h (by omega) hno' hfull hN
    · exact does_pin_bad B S T p d g n L C P N x w h k1 hf
  · by_cases k2 : x.k = 2
    · by_cases hex : ∃ e ∈ L, (e.page : Int) = x.f ∧ 0 < e.pins
      · obtain ⟨e, he, hef, hep⟩ := hex
        obtain ⟨k, f, a, s⟩ := x
        simp only at k2 hef
        subst k2 hef
        obtain ⟨i, hi, rfl⟩ := List.getElem_of_mem he
        exact does_unpin_yes B S T p d g n L C P N i _ a s w h (List.getElem?_eq_getElem hi) hep hN
      · refine does_unpin_no B S T p d g n L C P N x w h hx k2 (fun e he hef => ?_)
        have : ¬ 0 < e.pins := fun hp => hex ⟨e, he, hef, hp⟩
        omega
    · by_cases k3 : x.k = 3
      · by_cases hex : ∃ e ∈ L, (e.page : Int) = x.f ∧ 0 < e.pins
        · obtain ⟨e, he, hef, hep⟩ := hex
          obtain ⟨k, f, a, s⟩ := x
          simp only at k3 hef
          subst k3 hef
          obtain ⟨i, hi, rfl⟩ := List.getElem_of_mem he
          have hs : s.size ≤ 9223372036854775807 := hx.2.2.2
          by_cases ha : 0 ≤ a ∧ a + s.size ≤ 512
          · obtain ⟨a0, rfl⟩ : ∃ a0 : Nat, a = (a0 : Int) := ⟨a.toNat, by omega⟩
            exact does_write_yes B S T p d g n L C P N i _ a0 s w h (List.getElem?_eq_getElem hi) hep (by omega)
          · exact does_write_bad B S T p d g n L C P N i _ a s w h (List.getElem?_eq_getElem hi) hep hs ha
        · refine does_write_no B S T p d g n L C P N x w h hx k3 (fun e he hef => ?_)
          have : ¬ 0 < e.pins := fun hp => hex ⟨e, he, hef, hp⟩
          omega
      · by_cases k4 : x.k = 4
        · exact does_flush B S T p d g n L C P N x w h k4 hN
        · exact does_other B S T p d g n L C P N x w h ⟨k1, k2, k3, k4⟩
end Go.Proofs.Ytnmeobbbcccgjaa
