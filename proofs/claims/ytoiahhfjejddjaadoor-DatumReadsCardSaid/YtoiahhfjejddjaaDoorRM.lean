/- Whether a text is quoted. -/
import Derived.Test.YtoiahhfjejddjaaDoorRL
set_option maxRecDepth 100000
namespace Go.Proofs.YtoiahhfjejddjaaDoor
open Go Go.RowKit

theorem quoted_any (s : ByteArray) (w : World) : Calls Tryd.prog 50 #[.string s] w fun e w' => e = .returned (.bool (decide (s.data.toList.head? = some 39))) ∧ w' = w := by
  match hl : s.data.toList with
  | [] =>
    have he : s = ⟨#[]⟩ := ByteArray.ext (by simpa using hl)
    subst he
    go_enter Tryd.func50, Tryd.ntmps50
    go_wp2
    go_ret
    exact ⟨rfl, rfl⟩
  | c :: r =>
    have h0 : 0 < s.size := by have := size_cons hl; omega
    have hz2 : s.toList ≠ [] ∧ s.toList.isEmpty = false := by rw [ByteArray.toList_eq, hl]; exact ⟨by simp, rfl⟩
    obtain ⟨hz3, hz4⟩ := hz2
    have hb : ((s[0].toNat : Int) == 39) = decide ((c :: r).head? = some 39) := by
      rw [first_cons hl h0]
      by_cases h : c = 39
      · subst h; rfl
      · rw [show (39 : Int) = ((39 : UInt8).toNat : Int) from rfl, u8_not h]
        simp [h]
    obtain ⟨q, hq⟩ : ∃ q, decide ((c :: r).head? = some (39 : UInt8)) = q := ⟨_, rfl⟩
    rw [hq] at hb ⊢
    clear hq hl
    go_enter Tryd.func50, Tryd.ntmps50
    go_wp2
    go_ret
    exact ⟨rfl, rfl⟩
end Go.Proofs.YtoiahhfjejddjaaDoor
