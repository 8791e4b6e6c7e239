/- The walk of PoolStays. -/
import Derived.Test.YtnmeobbbcccgjaaPR
set_option maxRecDepth 100000
namespace Go.Proofs.Ytnmeobbbcccgjaa
open Go Go.RowKit

theorem and7 (n : Int) : bits .and .i64 n 7 = n % 8 := by
  have h7 : (BitVec.ofInt 64 7).toNat = 2 ^ 3 - 1 := by decide
  have key : (BitVec.ofInt 64 n &&& BitVec.ofInt 64 7).toNat = (n % ((2 ^ 64 : Nat) : Int)).toNat % 2 ^ 3 := by
    rw [BitVec.toNat_and, BitVec.toNat_ofInt, h7, Nat.and_two_pow_sub_one_eq_mod]
  show IntKind.i64.wrap ((BitVec.ofInt 64 n &&& BitVec.ofInt 64 7).toNat : Nat) = n % 8
  rw [key, IntKind.wrap_i64]
  omega

theorem bytes_size (l : List UInt8) : (⟨l.toArray⟩ : ByteArray).size = l.length := by simp [ByteArray.size]

def oS : ByteArray := ⟨#[111, 116, 104, 101, 114]⟩

/-- Page 77 alone is pinned, once. -/
def P77 : Nat → Nat := upd (fun _ => 0) 77 1
theorem p77_same : P77 77 = 1 := upd_same _ _ _
theorem p77_other {q : Nat} (h : q ≠ 77) : P77 q = 0 := upd_other _ _ h
theorem p77_back {q : Nat} (h : q ≠ 77) : upd (upd P77 q (P77 q + 1)) q (upd P77 q (P77 q + 1) q - 1) = P77 := by
  funext j
  by_cases hj : j = q
  · subst hj; rw [upd_same, upd_same]; omega
  · rw [upd_other _ _ hj, upd_other _ _ hj]

theorem extract_splice (l : List UInt8) (hl : l.length = 512) (s : ByteArray) (hs : s.size ≤ 512) : (⟨(splice l (512 - s.size) s.data.toList).toArray⟩ : ByteArray).extract (512 - s.size) 512 = s := by
  have he : s.data.toList.length = s.size := rfl
  apply ByteArray.ext
  apply Array.toList_inj.1
  have : ((⟨(splice l (512 - s.size) s.data.toList).toArray⟩ : ByteArray).extract (512 - s.size) 512).data.toList = ((splice l (512 - s.size) s.data.toList).take 512).drop (512 - s.size) := by
    simp [ByteArray.data_extract, List.extract_eq_take_drop, List.drop_take]
  rw [this]
  apply List.ext_getElem?
  intro j
  rw [List.getElem?_drop, List.getElem?_take, splice_get _ _ _ (by rw [he, hl]; omega), he]
  by_cases hj : j < s.size
  · rw [if_pos (by omega), if_pos (by omega), Nat.add_sub_cancel_left]
  · rw [List.getElem?_eq_none (l := s.data.toList) (i := j) (by rw [he]; omega)]
    split
    · rw [if_neg (by omega)]
      exact List.getElem?_eq_none (by rw [hl]; omega)
    · rfl

set_option maxHeartbeats 3200000 in
theorem stays_walk (a0 : Int) (a : Option Addr) (xs : List Int) (lc : Nat) (s : ByteArray) (w : World) (hS : SlI w a xs) (hI : ∀ x ∈ xs, I64 x) (hxl : xs.length ≤ 1048576) (hs : s.size ≤ 9223372036854775807) :
    Calls Try.prog 6 #[.int .i64 a0, .slice a xs.length lc, .string s] w fun e w' => e = .returned (.bool true) ∧ Below w.heap.size w w' := by
  obtain ⟨n, hn, hn2, hn9⟩ : ∃ n : Nat, 2 + bits .and .i64 a0 7 = (n : Int) ∧ 2 ≤ n ∧ n ≤ 9 := ⟨(2 + a0 % 8).toNat, by rw [and7]; omega, by omega, by omega⟩
  obtain ⟨B, hBe⟩ : ∃ B, B = w.heap.size := ⟨_, rfl⟩
  have hBw : B ≤ w.heap.size := by omega
  have HBE := Lib.hid hBe; clear hBe
  have HSL := Lib.hid hS; clear hS
  have HI := Lib.hid hI; clear hI
  obtain ⟨ll, hll⟩ : ∃ ll, ll = xs.length := ⟨_, rfl⟩
  rw [← hll] at hxl ⊢
  have HLL := Lib.hid hll; clear hll
  go_enter Try.func6, Try.ntmps6
  go_wp2_with fail
  refine (new_disk _).mono ?_
  rintro e w1 ⟨rfl, hd1, hb1⟩
  rw [← HBE.out] at hd1 hb1 ⊢
  have HB1 := Lib.hid hb1
  have HD1 := Lib.hid hd1.bound; clear hd1 hb1
  have hnb : (1 : Int) ≤ n := by omega
  go_wp2_with fail
  refine (pnew_st B B n 0 _ [] _ HD1.out (fun k hk => hk) (by omega) (by omega) (by simp)).mono ?_
  rintro e w2 ⟨p, S2, rfl, h2, hb2, _⟩
  have HB2 := Lib.hid (HB1.out.trans (hb2.mono (by have := HB1.out.size; omega)))
  have H2 := Lib.hid h2; clear h2 hb2
  have HPIN := Lib.hid (pin_ok H2.out (by omega) 77 (by omega) (by rw [pinnedN_zero (fun _ => rfl)]; omega))
  by_cases h5 : s.size ≤ 512
  all_goals go_wp2_with fail
  rotate_left
  · obtain ⟨s1, hs1⟩ : ∃ s1, s.extract 0 512 = s1 := ⟨_, rfl⟩
    rw [hs1]
    have hz : s1.size ≤ 512 := by rw [← hs1, ByteArray.size_extract]; omega
    clear hs1 h5
    refine HPIN.out.mono ?_
    rintro e w3 ⟨rfl, S3, t3, h3⟩
    have H3 : Hid (PoolSt B S3 p B n _ P77 1 w3) := Lib.hid h3
    have HB3 := Lib.hid (HB2.out.trans (H2.out.toBelow t3)); clear h3 t3
    obtain ⟨L, hL⟩ : ∃ L, L = splice (pageOf (play [] 1) 77) (512 - s1.size) s1.data.toList := ⟨_, rfl⟩
    have hwr := write_st H3.out 77 (512 - s1.size) s1 (by rw [p77_same]; omega) (by omega)
    rw [show ((512 - s1.size : Nat) : Int) = 512 - (s1.size : Int) by omega] at hwr
    have HWR := Lib.hid hwr; clear hwr
    go_wp2_with fail
    refine HWR.out.mono ?_
    rintro e w4 ⟨rfl, S4, t4, h4⟩
    have HL4 : Hid (upd (fun q => pageOf (play [] 1) q) 77 (splice (pageOf (play [] 1) 77) (512 - s1.size) s1.data.toList) 77 = L) := Lib.hid (by rw [upd_same, hL])
    have HL := Lib.hid hL; clear hL
    have H4 := Lib.hid h4; have HB4 := Lib.hid (HB3.out.trans (H3.out.toBelow t4)); clear h4 t4
    go_wp2
    go_loopw [9] (fun i wr => ∃ (k : Nat) (S' : Nat → Prop) (C' : Nat → List UInt8) (N' : Nat), k ≤ ll ∧ i = .int .i64 k ∧ N' ≤ 2 + 3 * k ∧ Hid (PoolSt B S' p B n C' P77 N' wr) ∧ Hid (C' 77 = L) ∧ Hid (Below B w wr)) (fun i _ => ll - (intOf i).toNat)
    case atStart => exact ⟨0, S4, _, 2, by omega, rfl, by omega, H4, HL4, HB4⟩
    case round =>
      obtain ⟨k, S', C', N', hk, rfl, hN, HP, HC, HB⟩ := hrel
      by_cases hlt : k < ll
      · obtain ⟨x, hx⟩ : ∃ x, xs[k]? = some x := ⟨_, List.getElem?_eq_getElem (by have := HLL.out; omega)⟩
        obtain ⟨b, off, rfl, hbB, hcx⟩ : ∃ b off, a = some ⟨b, off, none⟩ ∧ b < B ∧ w.cell? ⟨b, off + k, none⟩ = some (.int .i64 x) := by
          rcases HSL.out with h0 | ⟨b, off, ha, hb, hc⟩
          · rw [h0] at hx; simp at hx
          · refine ⟨b, off, ha, by have := HBE.out; omega, ?_⟩
            obtain ⟨hj, hxj⟩ := List.getElem?_eq_some_iff.1 hx
            rw [hc k hj, hxj]
        have hI64 := HI.out x (List.mem_of_getElem? hx)
        clear hx
        have d0 : wr.cell? ⟨b, off + k, none⟩ = some (.int .i64 x) := (HB.out.cell hbB).trans hcx
        have HCX := Lib.hid hcx; clear hcx
        have HI64 := Lib.hid hI64; clear hI64
        by_cases h77 : x = 77
        · subst h77
          go_wp2
          go_roundw
          case rel => exact ⟨k + 1, S', C', N', by omega, by go_num, by omega, HP, HC, HB⟩
          case measure => simp [intOf]; omega
        · have h77b : (x == 77) = false := by simpa using h77
          by_cases hv : 0 ≤ x ∧ x < 4096
          · obtain ⟨q, rfl⟩ : ∃ q : Nat, x = (q : Int) := ⟨x.toNat, by omega⟩
            have hq77 : q ≠ 77 := by omega
            have hq4 : q < 4096 := by omega
            have HQ7 := Lib.hid hq77; clear hq77
            have HPI := Lib.hid (pin_ok HP.out (by omega) q hq4 (by rw [pinnedN_one (q := 77) (by omega) (by rw [p77_same]; omega) (fun j hj => p77_other hj)]; omega))
            clear h77 hv
            go_wp2_with fail
            refine HPI.out.mono ?_
            rintro e w5 ⟨rfl, S5, t5, h5⟩
            have H5 := Lib.hid h5; have HB5 := Lib.hid (HB.out.trans (HP.out.toBelow t5)); clear h5 t5
            have d1 : w5.cell? ⟨b, off + k, none⟩ = some (.int .i64 q) := (HB5.out.cell hbB).trans HCX.out
            go_wp2_with fail
            refine (write_st H5.out q 0 oS (by rw [upd_same]; omega) (by decide)).mono ?_
            rintro e w6 ⟨rfl, S6, t6, h6⟩
            have H6 := Lib.hid h6; have HB6 := Lib.hid (HB5.out.trans (H5.out.toBelow t6)); clear h6 t6
            have d2 : w6.cell? ⟨b, off + k, none⟩ = some (.int .i64 q) := (HB6.out.cell hbB).trans HCX.out
            go_wp2_with fail
            refine (unpin_st H6.out q (by rw [upd_same]; omega) (by omega)).mono ?_
            rintro e w7 ⟨rfl, S7, t7, h7⟩
            rw [p77_back HQ7.out] at h7
            have H7 := Lib.hid h7; have HB7 := Lib.hid (HB6.out.trans (H6.out.toBelow t7)); clear h7 t7
            have HC7 : Hid (upd C' q (splice (C' q) 0 oS.data.toList) 77 = L) := Lib.hid (by rw [upd_other _ _ (Ne.symm HQ7.out)]; exact HC.out)
            go_wp2
            go_roundw
            case rel => exact ⟨k + 1, S7, _, N' + 1 + 1 + 1, by omega, by go_num, by omega, H7, HC7, HB7⟩
            case measure => simp [intOf]; omega
          · have HPI := Lib.hid (pin_st_bad HP.out x hv)
            clear h77 hv
            go_wp2_with fail
            refine HPI.out.mono ?_
            rintro e w5 ⟨rfl, hw⟩
            subst w5
            go_wp2
            go_roundw
            case rel => exact ⟨k + 1, S', C', N', by omega, by go_num, by omega, HP, HC, HB⟩
            case measure => simp [intOf]; omega
      · have HRD := Lib.hid (read_st HP.out 77 (by rw [p77_same]; omega))
        rw [HC.out] at HRD
        have HPN := Lib.hid (pins_st HP.out 77 (by rw [p77_same]; omega))
        rw [p77_same] at HPN
        obtain ⟨t, ht, ht5, htE⟩ : ∃ t : ByteArray, t = ⟨L.toArray⟩ ∧ t.size = 512 ∧ t.extract (512 - s1.size) 512 = s1 := by
          refine ⟨_, rfl, ?_, ?_⟩
          · rw [HL.out, bytes_size, length_splice]
            · exact pageOf_length _ _
            · rw [pageOf_length]; show 512 - s1.size + s1.size ≤ 512; omega
          · rw [HL.out]; exact extract_splice _ (pageOf_length _ _) s1 hz
        rw [← ht] at HRD
        clear ht
        go_wp2_with fail
        refine HRD.out.mono ?_
        rintro e w5 ⟨rfl, hw⟩
        subst w5
        go_wp2_with fail
        refine HPN.out.mono ?_
        rintro e w5 ⟨rfl, hw⟩
        subst w5
        go_wp2_with fail
        refine (awake_any _).mono ?_
        rintro e w6 ⟨rfl, hb6⟩
        have HB6 := Lib.hid (HB.out.trans (hb6.mono (by have := HB.out.size; omega))); clear hb6
        go_wp2
        go_ret
        refine ⟨rfl, ?_⟩
        have := HB6.out
        rw [HBE.out] at this
        exact this
  · obtain ⟨s1, rfl⟩ : ∃ s1, s1 = s := ⟨_, rfl⟩
    have hz : s1.size ≤ 512 := h5
    clear h5
    refine HPIN.out.mono ?_
    rintro e w3 ⟨rfl, S3, t3, h3⟩
    have H3 : Hid (PoolSt B S3 p B n _ P77 1 w3) := Lib.hid h3
    have HB3 := Lib.hid (HB2.out.trans (H2.out.toBelow t3)); clear h3 t3
    obtain ⟨L, hL⟩ : ∃ L, L = splice (pageOf (play [] 1) 77) (512 - s1.size) s1.data.toList := ⟨_, rfl⟩
    have hwr := write_st H3.out 77 (512 - s1.size) s1 (by rw [p77_same]; omega) (by omega)
    rw [show ((512 - s1.size : Nat) : Int) = 512 - (s1.size : Int) by omega] at hwr
    have HWR := Lib.hid hwr; clear hwr
    go_wp2_with fail
    refine HWR.out.mono ?_
    rintro e w4 ⟨rfl, S4, t4, h4⟩
    have HL4 : Hid (upd (fun q => pageOf (play [] 1) q) 77 (splice (pageOf (play [] 1) 77) (512 - s1.size) s1.data.toList) 77 = L) := Lib.hid (by rw [upd_same, hL])
    have HL := Lib.hid hL; clear hL
    have H4 := Lib.hid h4; have HB4 := Lib.hid (HB3.out.trans (H3.out.toBelow t4)); clear h4 t4
    go_wp2
    go_loopw [9] (fun i wr => ∃ (k : Nat) (S' : Nat → Prop) (C' : Nat → List UInt8) (N' : Nat), k ≤ ll ∧ i = .int .i64 k ∧ N' ≤ 2 + 3 * k ∧ Hid (PoolSt B S' p B n C' P77 N' wr) ∧ Hid (C' 77 = L) ∧ Hid (Below B w wr)) (fun i _ => ll - (intOf i).toNat)
    case atStart => exact ⟨0, S4, _, 2, by omega, rfl, by omega, H4, HL4, HB4⟩
    case round =>
      obtain ⟨k, S', C', N', hk, rfl, hN, HP, HC, HB⟩ := hrel
      by_cases hlt : k < ll
      · obtain ⟨x, hx⟩ : ∃ x, xs[k]? = some x := ⟨_, List.getElem?_eq_getElem (by have := HLL.out; omega)⟩
        obtain ⟨b, off, rfl, hbB, hcx⟩ : ∃ b off, a = some ⟨b, off, none⟩ ∧ b < B ∧ w.cell? ⟨b, off + k, none⟩ = some (.int .i64 x) := by
          rcases HSL.out with h0 | ⟨b, off, ha, hb, hc⟩
          · rw [h0] at hx; simp at hx
          · refine ⟨b, off, ha, by have := HBE.out; omega, ?_⟩
            obtain ⟨hj, hxj⟩ := List.getElem?_eq_some_iff.1 hx
            rw [hc k hj, hxj]
        have hI64 := HI.out x (List.mem_of_getElem? hx)
        clear hx
        have d0 : wr.cell? ⟨b, off + k, none⟩ = some (.int .i64 x) := (HB.out.cell hbB).trans hcx
        have HCX := Lib.hid hcx; clear hcx
        have HI64 := Lib.hid hI64; clear hI64
        by_cases h77 : x = 77
        · subst h77
          go_wp2
          go_roundw
          case rel => exact ⟨k + 1, S', C', N', by omega, by go_num, by omega, HP, HC, HB⟩
          case measure => simp [intOf]; omega
        · have h77b : (x == 77) = false := by simpa using h77
          by_cases hv : 0 ≤ x ∧ x < 4096
          · obtain ⟨q, rfl⟩ : ∃ q : Nat, x = (q : Int) := ⟨x.toNat, by omega⟩
            have hq77 : q ≠ 77 := by omega
            have hq4 : q < 4096 := by omega
            have HQ7 := Lib.hid hq77; clear hq77
            have HPI := Lib.hid (pin_ok HP.out (by omega) q hq4 (by rw [pinnedN_one (q := 77) (by omega) (by rw [p77_same]; omega) (fun j hj => p77_other hj)]; omega))
            clear h77 hv
            go_wp2_with fail
            refine HPI.out.mono ?_
            rintro e w5 ⟨rfl, S5, t5, h5⟩
            have H5 := Lib.hid h5; have HB5 := Lib.hid (HB.out.trans (HP.out.toBelow t5)); clear h5 t5
            have d1 : w5.cell? ⟨b, off + k, none⟩ = some (.int .i64 q) := (HB5.out.cell hbB).trans HCX.out
            go_wp2_with fail
            refine (write_st H5.out q 0 oS (by rw [upd_same]; omega) (by decide)).mono ?_
            rintro e w6 ⟨rfl, S6, t6, h6⟩
            have H6 := Lib.hid h6; have HB6 := Lib.hid (HB5.out.trans (H5.out.toBelow t6)); clear h6 t6
            have d2 : w6.cell? ⟨b, off + k, none⟩ = some (.int .i64 q) := (HB6.out.cell hbB).trans HCX.out
            go_wp2_with fail
            refine (unpin_st H6.out q (by rw [upd_same]; omega) (by omega)).mono ?_
            rintro e w7 ⟨rfl, S7, t7, h7⟩
            rw [p77_back HQ7.out] at h7
            have H7 := Lib.hid h7; have HB7 := Lib.hid (HB6.out.trans (H6.out.toBelow t7)); clear h7 t7
            have HC7 : Hid (upd C' q (splice (C' q) 0 oS.data.toList) 77 = L) := Lib.hid (by rw [upd_other _ _ (Ne.symm HQ7.out)]; exact HC.out)
            go_wp2
            go_roundw
            case rel => exact ⟨k + 1, S7, _, N' + 1 + 1 + 1, by omega, by go_num, by omega, H7, HC7, HB7⟩
            case measure => simp [intOf]; omega
          · have HPI := Lib.hid (pin_st_bad HP.out x hv)
            clear h77 hv
            go_wp2_with fail
            refine HPI.out.mono ?_
            rintro e w5 ⟨rfl, hw⟩
            subst w5
            go_wp2
            go_roundw
            case rel => exact ⟨k + 1, S', C', N', by omega, by go_num, by omega, HP, HC, HB⟩
            case measure => simp [intOf]; omega
      · have HRD := Lib.hid (read_st HP.out 77 (by rw [p77_same]; omega))
        rw [HC.out] at HRD
        have HPN := Lib.hid (pins_st HP.out 77 (by rw [p77_same]; omega))
        rw [p77_same] at HPN
        obtain ⟨t, ht, ht5, htE⟩ : ∃ t : ByteArray, t = ⟨L.toArray⟩ ∧ t.size = 512 ∧ t.extract (512 - s1.size) 512 = s1 := by
          refine ⟨_, rfl, ?_, ?_⟩
          · rw [HL.out, bytes_size, length_splice]
            · exact pageOf_length _ _
            · rw [pageOf_length]; show 512 - s1.size + s1.size ≤ 512; omega
          · rw [HL.out]; exact extract_splice _ (pageOf_length _ _) s1 hz
        rw [← ht] at HRD
        clear ht
        go_wp2_with fail
        refine HRD.out.mono ?_
        rintro e w5 ⟨rfl, hw⟩
        subst w5
        go_wp2_with fail
        refine HPN.out.mono ?_
        rintro e w5 ⟨rfl, hw⟩
        subst w5
        go_wp2_with fail
        refine (awake_any _).mono ?_
        rintro e w6 ⟨rfl, hb6⟩
        have HB6 := Lib.hid (HB.out.trans (hb6.mono (by have := HB.out.size; omega))); clear hb6
        go_wp2
        go_ret
        refine ⟨rfl, ?_⟩
        have := HB6.out
        rw [HBE.out] at this
        exact this
end Go.Proofs.Ytnmeobbbcccgjaa
