/- SorterParts' walk. -/
import Derived.Test.YtgegljbocacdnaaOW
set_option maxRecDepth 100000
namespace Go.Proofs.Ytgegljbocacdnaa
open Go.RowKit

theorem runs_lit {W : World} {g n : Nat} {rss : List (List ByteArray)} {cs : Array Value} (h : W.heap[g]? = some (.cells cs 22 (0, 0))) (hn : rss.length = n) (hc : ∀ j (hj : j < rss.length), ∃ v', cs[j]? = some v' ∧ TextC W v' rss[j]) : Runs W (.slice (some ⟨g, 0, none⟩) n n) rss := by
  subst hn
  refine ⟨_, _, rfl, .inr ⟨g, 0, rfl, (Array.getElem?_eq_some_iff.1 h).1, fun j hj => ?_⟩⟩
  obtain ⟨v', h1, h2⟩ := hc j hj
  exact ⟨v', by rw [Nat.zero_add, Lib.cell_of_heap h]; exact h1, h2⟩
theorem szd_app {a b : List ByteArray} (ha : Szd a) (hb : Szd b) : Szd (a ++ b) := fun s hs => by
  rcases List.mem_append.1 hs with h | h
  · exact ha s h
  · exact hb s h
theorem szd_srt {a : List ByteArray} (ha : Szd a) : Szd (srtS a) := fun s hs => ha s ((srtS_perm a).mem_iff.1 hs)

theorem merge_two (B : Nat) (x y : List ByteArray) (xv yv : Value) (w : World) (hB : B ≤ w.heap.size) (hx : TextC w xv x) (hy : TextC w yv y) (rx : Rise x) (ry : Rise y) (sx : Szd x) (sy : Szd y) (hl : x.length + y.length ≤ 10000) :
    Calls Try.prog 17 #[.slice (some ⟨w.heap.size, 0, none⟩) 2 2] (w.alloc (.cells #[xv, yv] 22)) fun e w' => ∃ v, e = .returned (.tuple #[v, .int .i64 0]) ∧ Strs B w' v (srtS (x ++ y)) ∧ Below w.heap.size w w' := by
  have hb := (Below.refl w.heap.size w).alloc (Nat.le_refl _) (.cells #[xv, yv] 22)
  have hR : Runs (w.alloc (.cells #[xv, yv] 22)) (.slice (some ⟨w.heap.size, 0, none⟩) 2 2) [x, y] :=
    runs_lit (heap_alloc_new w _) rfl fun j hj => by
      match j, hj with
      | 0, _ => exact ⟨xv, rfl, hx.below hb (Nat.le_refl _)⟩
      | 1, _ => exact ⟨yv, rfl, hy.below hb (Nat.le_refl _)⟩
  have hr : ∀ l, l ∈ [x, y] → Rise l := fun l hl => by
    rcases List.mem_cons.1 hl with rfl | hl
    · exact rx
    · rw [List.mem_singleton.1 hl]; exact ry
  refine (merge_any [x, y] _ _ hR (by simp) (fun l hl => by
    rcases List.mem_cons.1 hl with rfl | hl
    · omega
    · rw [List.mem_singleton.1 hl]; omega) (fun _ => by simp; omega) (by simpa using szd_app sx sy)).mono ?_
  rintro e w' ⟨h1, _, h3⟩
  obtain ⟨v, he, hs⟩ := h1 hr
  rw [show ([x, y] : List (List ByteArray)).flatten = x ++ y by simp] at hs
  exact ⟨v, he, hs.mono (by simp; omega), hb.trans (h3.mono (by simp))⟩
theorem merge_three (B : Nat) (x y z : List ByteArray) (xv yv zv : Value) (w : World) (hB : B ≤ w.heap.size) (hx : TextC w xv x) (hy : TextC w yv y) (hz : TextC w zv z) (rx : Rise x) (ry : Rise y) (rz : Rise z) (sx : Szd x) (sy : Szd y) (sz : Szd z) (hl : x.length + y.length + z.length ≤ 10000) :
    Calls Try.prog 17 #[.slice (some ⟨w.heap.size, 0, none⟩) 3 3] (w.alloc (.cells #[xv, yv, zv] 22)) fun e w' => ∃ v, e = .returned (.tuple #[v, .int .i64 0]) ∧ Strs B w' v (srtS (x ++ y ++ z)) ∧ Below w.heap.size w w' := by
  have hb := (Below.refl w.heap.size w).alloc (Nat.le_refl _) (.cells #[xv, yv, zv] 22)
  have hR : Runs (w.alloc (.cells #[xv, yv, zv] 22)) (.slice (some ⟨w.heap.size, 0, none⟩) 3 3) [x, y, z] :=
    runs_lit (heap_alloc_new w _) rfl fun j hj => by
      match j, hj with
      | 0, _ => exact ⟨xv, rfl, hx.below hb (Nat.le_refl _)⟩
      | 1, _ => exact ⟨yv, rfl, hy.below hb (Nat.le_refl _)⟩
      | 2, _ => exact ⟨zv, rfl, hz.below hb (Nat.le_refl _)⟩
  have hr : ∀ l, l ∈ [x, y, z] → Rise l := fun l hl => by
    rcases List.mem_cons.1 hl with rfl | hl
    · exact rx
    · rcases List.mem_cons.1 hl with rfl | hl
      · exact ry
      · rw [List.mem_singleton.1 hl]; exact rz
  refine (merge_any [x, y, z] _ _ hR (by simp) (fun l hl => by
    rcases List.mem_cons.1 hl with rfl | hl
    · omega
    · rcases List.mem_cons.1 hl with rfl | hl
      · omega
      · rw [List.mem_singleton.1 hl]; omega) (fun _ => by simp; omega) (by simpa using szd_app sx (szd_app sy sz))).mono ?_
  rintro e w' ⟨h1, _, h3⟩
  obtain ⟨v, he, hs⟩ := h1 hr
  rw [show ([x, y, z] : List (List ByteArray)).flatten = x ++ y ++ z by simp] at hs
  exact ⟨v, he, hs.mono (by simp; omega), hb.trans (h3.mono (by simp))⟩

set_option maxHeartbeats 3200000 in
theorem parts_walk (va vb vc : Value) (a b c : List ByteArray) (w : World) (ha : TextC w va a) (hb : TextC w vb b) (hc : TextC w vc c) (sa : Szd a) (sb : Szd b) (sc : Szd c) :
    Calls Try.prog 6 #[va, vb, vc] w fun e w' => e = .returned (.bool true) ∧ Below w.heap.size w w' := by
  have HA := Lib.hid ha; have HB := Lib.hid hb; have HC := Lib.hid hc
  obtain ⟨aa, ca, rfl, -, hca, -⟩ := ha
  obtain ⟨ab, cb, rfl, -, hcb, -⟩ := hb
  obtain ⟨ac, cc, rfl, -, hcc, -⟩ := hc
  have HSA := Lib.hid (szd_srt sa); have HSB := Lib.hid (szd_srt sb); have HSC := Lib.hid (szd_srt sc)
  clear sa sb sc hca hcb hcc
  obtain ⟨na, hna⟩ : ∃ n, n = a.length := ⟨_, rfl⟩
  obtain ⟨nb, hnb⟩ : ∃ n, n = b.length := ⟨_, rfl⟩
  obtain ⟨nc, hnc⟩ : ∃ n, n = c.length := ⟨_, rfl⟩
  rw [← hna] at HA ⊢
  rw [← hnb] at HB ⊢
  rw [← hnc] at HC ⊢
  have HNA := Lib.hid hna; have HNB := Lib.hid hnb; have HNC := Lib.hid hnc
  clear hna hnb hnc
  by_cases hbig : 2000 < na ∨ 2000 < nb ∨ 2000 < nc
  · have HAW := Lib.hid (xawake_any w)
    rcases (by omega : 2000 < na ∨ (na ≤ 2000 ∧ 2000 < nb) ∨ (na ≤ 2000 ∧ nb ≤ 2000 ∧ 2000 < nc)) with h | ⟨h1, h⟩ | ⟨h1, h2, h⟩
    all_goals
      clear hbig
      go_enter Try.func6, Try.ntmps6
      go_wp2_with fail
      refine HAW.out.mono ?_
      rintro e w1 ⟨rfl, hb1⟩
      go_wp2
      go_ret
      exact ⟨rfl, hb1⟩
  · have h1 : na ≤ 2000 := by omega
    have h2 : nb ≤ 2000 := by omega
    have h3 : nc ≤ 2000 := by omega
    clear hbig
    have HX := Lib.hid (xsorted_any _ a w HA.out.texts (by rw [← HNA.out]; omega))
    go_enter Try.func6, Try.ntmps6
    go_wp2_with fail
    refine HX.out.mono ?_
    rintro e w1 ⟨xv, rfl, hs1, hb1⟩
    have HS1 := Lib.hid hs1; have HB1 := Lib.hid hb1
    have HY := Lib.hid (xsorted_any _ b w1 (HB.out.texts.below hb1) (by rw [← HNB.out]; omega))
    have hz1 := hb1.size
    clear hs1 hb1 HX
    go_wp2_with fail
    refine HY.out.mono ?_
    rintro e w2 ⟨yv, rfl, hs2, hb2⟩
    have HB2 := Lib.hid (HB1.out.trans (hb2.mono hz1))
    have HS12 := Lib.hid (HS1.out.below hb2)
    have HS2 := Lib.hid hs2
    have hz2 := HB2.out.size
    have HZ := Lib.hid (xsorted_any _ c w2 (HC.out.texts.below HB2.out) (by rw [← HNC.out]; omega))
    clear hs2 hb2 HY
    go_wp2_with fail
    refine HZ.out.mono ?_
    rintro e w3 ⟨zv, rfl, hs3, hb3⟩
    have HB3 := Lib.hid (HB2.out.trans (hb3.mono hz2))
    have HX3 := Lib.hid (HS12.out.below hb3)
    have HY3 := Lib.hid (HS2.out.below hb3)
    have HZ3 := Lib.hid hs3
    have hz3 := HB3.out.size
    clear hs3 hb3 HZ
    have hla : (srtS a).length ≤ 2000 := by rw [srtS_len, ← HNA.out]; exact h1
    have hlb : (srtS b).length ≤ 2000 := by rw [srtS_len, ← HNB.out]; exact h2
    have hlc : (srtS c).length ≤ 2000 := by rw [srtS_len, ← HNC.out]; exact h3
    obtain ⟨x, hx⟩ : ∃ x, x = srtS a := ⟨_, rfl⟩
    obtain ⟨y, hy⟩ : ∃ y, y = srtS b := ⟨_, rfl⟩
    obtain ⟨z, hz⟩ : ∃ z, z = srtS c := ⟨_, rfl⟩
    have RX : Hid (Rise x) := Lib.hid (by rw [hx]; exact srtS_rise a)
    have RY : Hid (Rise y) := Lib.hid (by rw [hy]; exact srtS_rise b)
    have RZ : Hid (Rise z) := Lib.hid (by rw [hz]; exact srtS_rise c)
    rw [← hx] at HX3 HSA hla
    rw [← hy] at HY3 HSB hlb
    rw [← hz] at HZ3 HSC hlc
    clear hx hy hz HS1 HS12 HS2 HB1 HB2
    obtain ⟨ax, nx, cx, rfl⟩ : ∃ a n c, xv = .slice a n c := by obtain ⟨a, c, e⟩ := HX3.out.shape; exact ⟨_, _, _, e⟩
    obtain ⟨ay, ny, cy, rfl⟩ : ∃ a n c, yv = .slice a n c := by obtain ⟨a, c, e⟩ := HY3.out.shape; exact ⟨_, _, _, e⟩
    obtain ⟨az, nz, cz, rfl⟩ : ∃ a n c, zv = .slice a n c := by obtain ⟨a, c, e⟩ := HZ3.out.shape; exact ⟨_, _, _, e⟩
    have HM1 := Lib.hid (merge_two w.heap.size x y _ _ w3 hz3 HX3.out.textC HY3.out.textC RX.out RY.out HSA.out HSB.out (by omega))
    have HLA := Lib.hid hla; have HLB := Lib.hid hlb; have HLC := Lib.hid hlc
    clear hla hlb hlc
    go_wp2_with fail
    refine HM1.out.mono ?_
    rintro e w4 ⟨pv, rfl, hs4, hb4⟩
    obtain ⟨ap, np, cp, rfl⟩ : ∃ a n c, pv = .slice a n c := by obtain ⟨a, c, e⟩ := hs4.shape; exact ⟨_, _, _, e⟩
    have HB4 := Lib.hid (HB3.out.trans (hb4.mono hz3))
    have HX4 := Lib.hid (HX3.out.below hb4); have HY4 := Lib.hid (HY3.out.below hb4); have HZ4 := Lib.hid (HZ3.out.below hb4)
    have HP4 := Lib.hid hs4
    have hz4 := HB4.out.size
    have HPL : Hid ((srtS (x ++ y)).length + z.length ≤ 10000) := Lib.hid (by rw [srtS_len, List.length_append]; have := HLA.out; have := HLB.out; have := HLC.out; omega)
    have HM2 := Lib.hid (merge_two w.heap.size (srtS (x ++ y)) z _ _ w4 hz4 HP4.out.textC HZ4.out.textC (srtS_rise _) RZ.out (szd_srt (szd_app HSA.out HSB.out)) HSC.out HPL.out)
    clear hs4 hb4 HM1 HX3 HY3 HZ3
    go_wp2_with fail
    refine HM2.out.mono ?_
    rintro e w5 ⟨qv, rfl, hs5, hb5⟩
    have HB5 := Lib.hid (HB4.out.trans (hb5.mono hz4))
    have HX5 := Lib.hid (HX4.out.below hb5); have HY5 := Lib.hid (HY4.out.below hb5); have HZ5 := Lib.hid (HZ4.out.below hb5)
    have HQ5 := Lib.hid hs5
    have hz5 := HB5.out.size
    have HM3 := Lib.hid (merge_three w.heap.size x y z _ _ _ w5 hz5 HX5.out.textC HY5.out.textC HZ5.out.textC RX.out RY.out RZ.out HSA.out HSB.out HSC.out (by have := HLA.out; have := HLB.out; have := HLC.out; omega))
    clear hs5 hb5 HM2 HX4 HY4 HZ4
    go_wp2_with fail
    refine HM3.out.mono ?_
    rintro e w6 ⟨rv, rfl, hs6, hb6⟩
    have HB6 := Lib.hid (HB5.out.trans (hb6.mono hz5))
    have HQ6 := Lib.hid (HQ5.out.below hb6)
    have hz6 := HB6.out.size
    have heq : srtS (srtS (x ++ y) ++ z) = srtS (x ++ y ++ z) := srtS_congr ((srtS_perm _).append_right z)
    have HSM := Lib.hid (xsame_yes qv rv (srtS (x ++ y ++ z)) w6 (by have := HQ6.out.texts; rw [heq] at this; exact this) hs6.texts (by rw [srtS_len, List.length_append, List.length_append]; have := HLA.out; have := HLB.out; have := HLC.out; omega))
    clear hs6 hb6 HM3 heq
    go_wp2_with fail
    refine HSM.out.mono ?_
    rintro e w7 ⟨rfl, n7, rfl⟩
    have HAW := Lib.hid (xawake_any (w6.drewN n7))
    go_wp2_with fail
    refine HAW.out.mono ?_
    rintro e w8 ⟨rfl, hb8⟩
    go_wp2
    go_ret
    exact ⟨rfl, HB6.out.trans ((below_drewN w6 n7).mono hz6 |>.trans (hb8.mono hz6))⟩
end Go.Proofs.Ytgegljbocacdnaa
