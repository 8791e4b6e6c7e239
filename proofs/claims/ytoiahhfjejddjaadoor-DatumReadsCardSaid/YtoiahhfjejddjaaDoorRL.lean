/- The walk of the reference's Parse. -/
import Derived.Test.YtoiahhfjejddjaaDoorRH
import Derived.Test.YtoiahhfjejddjaaDoorRK
set_option maxRecDepth 100000
namespace Go.Proofs.YtoiahhfjejddjaaDoor
open Go Go.RowKit

set_option maxHeartbeats 1600000 in
theorem rparse_item (s : ByteArray) (w : World) (hs : s.size ≤ 140737488355000) (h : s.data.toList.length < 2 ∨ s.data.toList.head? ≠ some 91) : Calls Tryd.prog 24 #[.string s] w (ParsePost s.data.toList w) := by
  have HR := Lib.hid (fun W => read_any s W hs)
  have H := Lib.hid h
  have hcond : (s.size : Int) < 2 ∨ ∃ h0 : 0 < s.size, ((s[0].toNat : Int) != 91) = true ∧ ¬ (s.size : Int) < 2 := by
    by_cases h2 : s.size < 2
    · exact .inl (by omega)
    · right
      have h0 : 0 < s.size := by omega
      refine ⟨h0, ?_, by omega⟩
      have hne : s[0] ≠ 91 := by
        intro e
        rcases h with h | h
        · have : s.data.toList.length = s.size := rfl
          omega
        · match hl : s.data.toList with
          | [] => have : s.data.toList.length = s.size := rfl
                  rw [hl] at this; simp at this; omega
          | c :: r => rw [hl] at h
                      have := first_cons hl h0
                      rw [e] at this
                      exact h (by rw [← this]; rfl)
      have := u8_not (c := 91) hne
      rw [bne, show (91 : Int) = ((91 : UInt8).toNat : Int) from rfl, this]
      rfl
  clear h
  rcases hcond with h2 | ⟨h0, hb, h2⟩
  all_goals
    go_enter Tryd.func24, Tryd.ntmps24
    go_wp2_with fail
    refine (HR.out _).mono ?_
    rintro e w1 ⟨hb1, k, n, t, ok, rfl, hn, hyes, hno⟩
    have hbs : Below (w.heap.size + 1) (w.alloc (.cells #[.int .i64 0, .int .i64 0, .string ⟨#[]⟩, .slice none 0 0] 24)) w1 := by simpa using hb1
    obtain ⟨c0, c1, c2, c3⟩ := box_cells hbs
    obtain ⟨f0, f1, f2, f3⟩ := box_frozen hbs
    have hzw : w.heap.size < w1.heap.size := by have := hbs.size; simp at this; omega
    have HB : Hid (Below w.heap.size w w1) := Lib.hid (below_al _ (by simpa using hbs))
    have HN := Lib.hid hn
    cases ok
    · have HNO := Lib.hid (read_no H.out (hno rfl))
      obtain ⟨r0, r1, r2, r3⟩ := res_alloc (v0 := .int .i64 0) (v1 := .int .i64 0) (v2 := .string ⟨#[]⟩) (v3 := .slice none 0 0) c0 c1 c2 c3 (.cells #[.int .i64 k, .int .i64 n, .string t, .slice none 0 0] 24)
      have HBB : Hid (Below w.heap.size w (((((w1.setCell ⟨w.heap.size, 0, none⟩ (.int .i64 0)).setCell ⟨w.heap.size, 1, none⟩ (.int .i64 0)).setCell ⟨w.heap.size, 2, none⟩ (.string ⟨#[]⟩)).setCell ⟨w.heap.size, 3, none⟩ (.slice none 0 0)).alloc (.cells #[.int .i64 k, .int .i64 n, .string t, .slice none 0 0] 24))) := Lib.hid ((below_res HB.out).alloc (by rw [size_set4]; omega) _)
      clear hb1 hbs hn hyes hno
      go_wp2
      exact bodyPost_ret (v := .tuple #[.agg #[.int .i64 0, .int .i64 0, .string ⟨#[]⟩, .slice none 0 0], .int .i64 11]) (by simp only [results, Tryd.f24]; simp [go_sem, r0, r1, r2, r3]) rfl ⟨HBB.out, .inr ⟨rfl, HNO.out⟩⟩
    · have HY := Lib.hid (read_yes H.out (hyes rfl).1 hn (hyes rfl).2)
      obtain ⟨r0, r1, r2, r3⟩ := res_alloc (v0 := .int .i64 k) (v1 := .int .i64 n) (v2 := .string t) (v3 := .slice none 0 0) c0 c1 c2 c3 (.cells #[.int .i64 k, .int .i64 n, .string t, .slice none 0 0] 24)
      have HBB : Hid (Below w.heap.size w (((((w1.setCell ⟨w.heap.size, 0, none⟩ (.int .i64 k)).setCell ⟨w.heap.size, 1, none⟩ (.int .i64 n)).setCell ⟨w.heap.size, 2, none⟩ (.string t)).setCell ⟨w.heap.size, 3, none⟩ (.slice none 0 0)).alloc (.cells #[.int .i64 k, .int .i64 n, .string t, .slice none 0 0] 24))) := Lib.hid ((below_res HB.out).alloc (by rw [size_set4]; omega) _)
      clear hb1 hbs hn hyes hno
      go_wp2
      exact bodyPost_ret (v := .tuple #[.agg #[.int .i64 k, .int .i64 n, .string t, .slice none 0 0], .int .i64 0]) (by simp only [results, Tryd.f24]; simp [go_sem, r0, r1, r2, r3]) rfl ⟨HBB.out, .inl ⟨k, n, t, none, [], 0, rfl, HY.out.1, (fun x hx => by simp at hx), .inl rfl, HY.out.2.1, HY.out.2.2⟩⟩
end Go.Proofs.YtoiahhfjejddjaaDoor
