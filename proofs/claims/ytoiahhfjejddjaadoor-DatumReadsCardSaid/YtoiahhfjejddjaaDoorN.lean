/- The contract of awake: it answers true, in every memory that start-up has laid; other memory stands. -/
import Derived.Test.YtoiahhfjejddjaaDoorM
import Derived.Test.YtoiahhfjejddjaaDoorC
set_option maxRecDepth 100000
namespace Go.Proofs.YtoiahhfjejddjaaDoor
open Go Go.RowKit

abbrev wakeS : ByteArray := { data := #[91, 49, 44, 39, 120, 39, 93] }
def wakeD : List It := [⟨1, 1, ⟨#[]⟩, none, 0, 0⟩, ⟨2, 0, ⟨#[120]⟩, none, 0, 0⟩]
theorem wake_text : datT 3 0 ⟨#[]⟩ wakeD = wakeS.data.toList := by
  have h : Lib.itoa 1 = [49] := by
    unfold Lib.itoa
    rw [if_neg (by omega)]
    exact Lib.decDigits_one (by decide)
  simp [datT, wakeD, commaT, itemT, h, pText, pB, esc]
theorem empty_list : (⟨#[]⟩ : ByteArray).toList = [] := by rw [ByteArray.toList_eq]
theorem wake_valid : Valid 3 0 ⟨#[]⟩ wakeD := by
  refine ⟨?_, ⟨by decide, by decide⟩, ?_⟩
  · simp [dOk, listOk, wakeD, It.ok, itemOk, ByteArray.size]
  · intro x hx
    simp [wakeD] at hx
    rcases hx with rfl | rfl <;> exact ⟨by decide, by decide⟩

theorem wake_cmp : cmpD 1 7 ⟨#[]⟩ [] 2 0 ⟨#[]⟩ [] = (-1, 0) := by
  have h1 : dOk 1 7 ⟨#[]⟩ [] = true := by simp [dOk, itemOk]
  have h2 : dOk 2 0 ⟨#[]⟩ [] = true := by simp [dOk, itemOk, ByteArray.size]
  simp [cmpD, h1, h2, ordR]

set_option maxHeartbeats 1600000 in
theorem awake_any (w : World) (hL : Laid w) : Calls Tryd.prog 16 #[] w fun e w' => e = .returned (.bool true) ∧ Below w.heap.size w w' := by
  have HL := Lib.hid hL; clear hL
  go_enter Tryd.func16, Tryd.ntmps16
  go_wp2_with fail
  refine (parse_any _ _ HL.out (by decide)).mono ?_
  rintro e w1 ⟨hb1, ⟨k, n, t, a, xs, lc, rfl, hv, hf, hsl, htx, hcl⟩ | ⟨rfl, hno⟩⟩
  · have HQ : Hid (xs.length = 2) := by
      obtain ⟨_, _, _, q⟩ := hcl 3 0 ⟨#[]⟩ wakeD wake_valid wake_text.symm
      exact Lib.hid (by have := congrArg List.length q; simpa [wakeD] using this)
    have hz1 := hb1.size
    have HB1 := Lib.hid hb1; have HV := Lib.hid hv; have HS := Lib.hid hsl; have HT := Lib.hid htx
    clear hb1 hv hf hsl htx hcl
    go_wp2_with fail
    refine (print_ok _ _ _ _ _ _ _ (HL.out.below (HB1.out.alloc hz1 _) HL.out.six) (HS.out.below ((Below.refl _ _).alloc (Nat.le_refl _) _) (Nat.le_refl _)) HV.out.1 HV.out.2.1 HV.out.2.2).mono ?_
    rw [HT.out]
    rintro e w2 ⟨rfl, hb2⟩
    have c := box_cells (w := w1) (by simpa using hb2)
    obtain ⟨c0, c1, c2, c3⟩ := c
    have hz2 := hb2.size
    simp at hz2
    have HB2 := Lib.hid hb2; clear hb2
    go_wp2_with fail
    refine (compare_any 1 7 ⟨#[]⟩ none [] 0 2 0 ⟨#[]⟩ none [] 0 _ (.inl rfl) (.inl rfl)).mono ?_
    rw [wake_cmp]
    rintro e w3 ⟨rfl, hb3⟩
    have hzb : w1.heap.size < w2.heap.size := by omega
    have d0 := (hb3.cell (p := ⟨w1.heap.size, 0, none⟩) hzb).trans c0
    have d1 := (hb3.cell (p := ⟨w1.heap.size, 1, none⟩) hzb).trans c1
    have d2 := (hb3.cell (p := ⟨w1.heap.size, 2, none⟩) hzb).trans c2
    have d3 := (hb3.cell (p := ⟨w1.heap.size, 3, none⟩) hzb).trans c3
    have HB3 := Lib.hid hb3; clear hb3
    rw [HQ.out] at d3
    go_wp2
    go_ret
    exact ⟨rfl, below_then (HB1.out.trans ((below_al _ HB2.out).mono hz1)) (Nat.le_refl _) HB3.out⟩
  · exact absurd wake_text.symm (hno _ _ _ _ wake_valid)
end Go.Proofs.YtoiahhfjejddjaaDoor
