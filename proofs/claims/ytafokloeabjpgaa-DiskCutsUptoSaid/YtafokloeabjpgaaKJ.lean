/- What lies between a file's end and a place that is written: the walk of DiskGaps. -/
import Derived.Test.YtafokloeabjpgaaKI
set_option maxRecDepth 100000
namespace Go.Proofs.Ytafokloeabjpgaa
open Go.RowKit

theorem splice_get (l : List UInt8) (off : Nat) (cs : List UInt8) (h : off + cs.length ≤ l.length) (i : Nat) : (splice l off cs)[i]? = if off ≤ i ∧ i < off + cs.length then cs[i - off]? else l[i]? := by
  unfold splice
  rw [List.getElem?_append, List.length_take, Nat.min_eq_left (by omega)]
  split
  · rw [List.getElem?_take, if_pos (by omega), if_neg (by omega)]
  · rw [List.getElem?_append]
    split
    · rw [if_pos (by omega)]
    · rw [List.getElem?_drop, if_neg (by omega)]
      congr 1
      omega

theorem putL_get (l : List UInt8) (off : Nat) (cs : List UInt8) (i : Nat) : (putL l off cs)[i]? = if off ≤ i ∧ i < off + cs.length then cs[i - off]? else if i < l.length then l[i]? else if i < off + cs.length then some 0 else none := by
  unfold putL
  rw [splice_get _ _ _ (by simp; omega)]
  split
  · rfl
  · rw [List.getElem?_append]
    split
    · rfl
    · rw [List.getElem?_replicate]
      split
      · rw [if_pos (by omega)]
      · rw [if_neg (by omega)]

theorem and4095 (n : Int) : bits .and .i64 n 4095 = n % 4096 := by
  have h127 : (BitVec.ofInt 64 4095).toNat = 2 ^ 12 - 1 := by decide
  have key : (BitVec.ofInt 64 n &&& BitVec.ofInt 64 4095).toNat = (n % ((2 ^ 64 : Nat) : Int)).toNat % 2 ^ 12 := by
    rw [BitVec.toNat_and, BitVec.toNat_ofInt, h127, Nat.and_two_pow_sub_one_eq_mod]
  show IntKind.i64.wrap ((BitVec.ofInt 64 n &&& BitVec.ofInt 64 4095).toNat : Nat) = n % 4096
  rw [key, IntKind.wrap_i64]
  omega

/-- The bytes of two writes. -/
theorem two_puts (k : Nat) (f s : ByteArray) : play [.put 2 0 f, .put 2 k s] 2 = putL (putL [] 0 f.data.toList) k s.data.toList := by
  simp [play, RawOp.run, upd]

theorem first_put (l : List UInt8) : putL [] 0 l = l := by simp [putL, splice]

theorem gap1 {L : List UInt8} {k : Nat} {f s : ByteArray} (hL : L = putL f.data.toList k s.data.toList) (j : Nat) (h1 : j < (⟨L.toArray⟩ : ByteArray).size) (h2 : j - k < s.size) (hk : k ≤ j) : ((⟨L.toArray⟩ : ByteArray)[j]'h1) = s[j - k]'h2 := by
  have e := putL_get f.data.toList k s.data.toList j
  have hs : s.data.toList.length = s.size := rfl
  rw [← hL, hs, if_pos (by omega), List.getElem?_eq_getElem (l := s.data.toList) (by rw [hs]; exact h2)] at e
  obtain ⟨_, e⟩ := List.getElem?_eq_some_iff.1 e
  exact e
theorem gap2 {L : List UInt8} {k : Nat} {f s : ByteArray} (hL : L = putL f.data.toList k s.data.toList) (j : Nat) (h1 : j < (⟨L.toArray⟩ : ByteArray).size) (h2 : j < f.size) (hk : ¬ (k ≤ j ∧ j < k + s.size)) : ((⟨L.toArray⟩ : ByteArray)[j]'h1) = f[j]'h2 := by
  have e := putL_get f.data.toList k s.data.toList j
  have hs : s.data.toList.length = s.size := rfl
  have hf : f.data.toList.length = f.size := rfl
  rw [← hL, hs, hf, if_neg hk, if_pos h2, List.getElem?_eq_getElem (l := f.data.toList) (by rw [hf]; exact h2)] at e
  obtain ⟨_, e⟩ := List.getElem?_eq_some_iff.1 e
  exact e
theorem gap3 {L : List UInt8} {k : Nat} {f s : ByteArray} (hL : L = putL f.data.toList k s.data.toList) (j : Nat) (h1 : j < (⟨L.toArray⟩ : ByteArray).size) (h2 : ¬ j < f.size) (hk : ¬ (k ≤ j ∧ j < k + s.size)) : ((⟨L.toArray⟩ : ByteArray)[j]'h1) = 0 := by
  have e := putL_get f.data.toList k s.data.toList j
  have hs : s.data.toList.length = s.size := rfl
  have hf : f.data.toList.length = f.size := rfl
  have hl : j < L.length := h1
  rw [hL, putL_length, hs, hf] at hl
  rw [← hL, hs, hf, if_neg hk, if_neg h2, if_pos (by omega)] at e
  obtain ⟨_, e⟩ := List.getElem?_eq_some_iff.1 e
  exact e

set_option maxHeartbeats 2000000 in
theorem gaps_walk (a : Int) (s f : ByteArray) (w : World) (ha0 : -9223372036854775808 ≤ a) (ha1 : a ≤ 9223372036854775807) (hs : s.size ≤ 140737488355328) (hf : f.size ≤ 140737488355328) :
    Calls Try.prog 7 #[.int .i64 a, .string s, .string f] w fun e w' => e = .returned (.bool true) ∧ Below w.heap.size w w' := by
  obtain ⟨B, hBe⟩ : ∃ B, B = w.heap.size := ⟨_, rfl⟩
  rw [← hBe]
  have hBle : B ≤ w.heap.size := by omega
  have HBE := Lib.hid hBe; clear hBe
  obtain ⟨k, hk, hk1⟩ : ∃ k : Nat, bits .and .i64 a 4095 = (k : Int) ∧ k < 4096 := ⟨(a % 4096).toNat, by rw [and4095]; omega, by omega⟩
  by_cases hbig : (4096 : Int) < s.size ∨ (4096 : Int) < f.size
  · go_enter Try.func7, Try.ntmps7
    go_wp2_with (go_at_call 8; refine (new_disk _).mono ?_)
    rw [← HBE.out]
    rintro e w1 ⟨rfl, hd1, hb1⟩
    have hB1 : B ≤ w1.heap.size := Nat.le_trans hBle hb1.size
    go_wp2_with (go_at_call 10; refine (awake_any _).mono ?_; rintro e w2 ⟨rfl, hb2⟩)
    all_goals first
      | (exfalso; omega)
      | (go_ret; exact ⟨rfl, hb1.trans (hb2.mono hB1)⟩)
  · have hs4 : s.size ≤ 4096 := by omega
    have hf4 : f.size ≤ 4096 := by omega
    have hs4' : ¬ (4096 : Int) < s.size := by omega
    have hf4' : ¬ (4096 : Int) < f.size := by omega
    clear hbig
    have hL := two_puts k f s
    rw [first_put] at hL
    obtain ⟨L, hLL⟩ : ∃ L, L = putL f.data.toList k s.data.toList := ⟨_, rfl⟩
    rw [← hLL] at hL
    have hlen : L.length = max f.size (k + s.size) := by rw [hLL, putL_length]; rfl
    obtain ⟨nn, hnn⟩ : ∃ nn, nn = L.length := ⟨_, rfl⟩
    have hnn2 : nn = max f.size (k + s.size) := by omega
    have hT : ((play [.put 2 0 f, .put 2 k s] 2).drop 0).take nn = L := by rw [hL, hnn]; simp
    have hLe : (play [.put 2 0 f, .put 2 k s] 2).length = nn := by rw [hL, hnn]
    have HL := Lib.hid hL
    have HLL := Lib.hid hLL
    have HN2 := Lib.hid hnn2
    have HT := Lib.hid hT
    have HLE := Lib.hid hLe
    have HNN := Lib.hid hnn
    clear hL hLL hnn hT hLe hlen hnn2
    have hTs : (⟨L.toArray⟩ : ByteArray).size = nn := by rw [HNN.out]; rfl
    have HTS := Lib.hid hTs; clear hTs
    by_cases hm : f.size < k + s.size
    · have hX : (k : Int) + s.size = nn := by have := HN2.out; omega
      have hq : f.size < nn := by have := HN2.out; omega
      clear hm
      go_enter Try.func7, Try.ntmps7
      go_wp2_with (go_at_call 8; refine (new_disk _).mono ?_; rw [← HBE.out]; rintro e w1 ⟨rfl, hd1, hb1⟩; have hB1 : B ≤ w1.heap.size := Nat.le_trans hBle hb1.size; have HD1 := Lib.hid hd1; clear hd1; skip)
      refine (write_okF 2 0 f B B [] _ HD1.out hB1 (by simp) (by omega) (by decide) (by omega)).mono ?_
      rintro e w2 ⟨rfl, hd2, hb2⟩
      have hB2 : B ≤ w2.heap.size := Nat.le_trans hB1 hb2.size
      have HD2 := Lib.hid (show DiskAt (From B) B [RawOp.put 2 0 f] w2 from hd2); clear hd2
      go_wp2_with (go_at_call 16; refine (write_okF 2 k s B B [.put 2 0 f] _ HD2.out hB2 (by simp) (by omega) (by decide) (by omega)).mono ?_; rintro e w3 ⟨rfl, hd3, hb3⟩; have hB3 : B ≤ w3.heap.size := Nat.le_trans hB2 hb3.size; have HD3 := Lib.hid (show DiskAt (From B) B [RawOp.put 2 0 f, .put 2 k s] w3 from hd3); clear hd3)
      refine (read_ok 2 0 nn (From B) B [.put 2 0 f, .put 2 k s] _ HD3.out (by decide) (by rw [HLE.out]; omega)).mono ?_
      rintro e w4 ⟨rfl, hw4⟩
      subst w4
      rw [HT.out]
      have hTs : (⟨L.toArray⟩ : ByteArray).size = nn := HTS.out
      go_wp2_with (go_at_call 19; refine (size_ok 2 (From B) B [.put 2 0 f, .put 2 k s] _ HD3.out (by decide)).mono ?_; rintro e w4 ⟨rfl, hw4⟩; subst w4; rw [HLE.out])
      go_loopw [12] (fun i wr => ∃ j : Nat, j ≤ nn ∧ i = .int .i64 j ∧ wr = w3) (fun i _ => nn - (intOf i).toNat)
      case atStart => exact ⟨0, by omega, rfl, rfl⟩
      case round =>
        obtain ⟨j, hj, rfl, hwr⟩ := hrel
        subst wr
        by_cases hlt : j < nn
        · go_wp2
          all_goals first
            | exact ⟨⟨j + 1, by omega, by go_num, trivial⟩, by simp [intOf]; omega⟩
            | (exfalso; rename_i h; simp only [bne_iff_ne, ne_eq] at h; exact h (congrArg (fun b : UInt8 => ((b.toNat : Nat) : Int)) (gap1 HLL.out j _ _ (by omega))))
            | (exfalso; rename_i h; simp only [bne_iff_ne, ne_eq] at h; exact h (congrArg (fun b : UInt8 => ((b.toNat : Nat) : Int)) (gap2 HLL.out j _ _ (by omega))))
            | (exfalso; rename_i h; simp only [bne_iff_ne, ne_eq] at h; exact h (congrArg (fun b : UInt8 => ((b.toNat : Nat) : Int)) (gap3 HLL.out j _ (by omega) (by omega))))
        · go_wp2_with (go_at_call 10; refine (awake_any _).mono ?_; rintro e w5 ⟨rfl, hb5⟩)
          go_ret
          exact ⟨rfl, ((hb1.trans hb2).trans hb3).trans (hb5.mono hB3)⟩
    · have hX : (f.size : Int) = nn := by have := HN2.out; omega
      have hq : ¬ f.size < k + s.size := hm
      have hq2 : f.size = nn := by omega
      have hq3 : ¬ (nn : Int) < k + s.size := by omega
      clear hm
      go_enter Try.func7, Try.ntmps7
      go_wp2_with (go_at_call 8; refine (new_disk _).mono ?_; rw [← HBE.out]; rintro e w1 ⟨rfl, hd1, hb1⟩; have hB1 : B ≤ w1.heap.size := Nat.le_trans hBle hb1.size; have HD1 := Lib.hid hd1; clear hd1; skip)
      refine (write_okF 2 0 f B B [] _ HD1.out hB1 (by simp) (by omega) (by decide) (by omega)).mono ?_
      rintro e w2 ⟨rfl, hd2, hb2⟩
      have hB2 : B ≤ w2.heap.size := Nat.le_trans hB1 hb2.size
      have HD2 := Lib.hid (show DiskAt (From B) B [RawOp.put 2 0 f] w2 from hd2); clear hd2
      go_wp2_with (go_at_call 16; refine (write_okF 2 k s B B [.put 2 0 f] _ HD2.out hB2 (by simp) (by omega) (by decide) (by omega)).mono ?_; rintro e w3 ⟨rfl, hd3, hb3⟩; have hB3 : B ≤ w3.heap.size := Nat.le_trans hB2 hb3.size; have HD3 := Lib.hid (show DiskAt (From B) B [RawOp.put 2 0 f, .put 2 k s] w3 from hd3); clear hd3)
      refine (read_ok 2 0 nn (From B) B [.put 2 0 f, .put 2 k s] _ HD3.out (by decide) (by rw [HLE.out]; omega)).mono ?_
      rintro e w4 ⟨rfl, hw4⟩
      subst w4
      rw [HT.out]
      have hTs : (⟨L.toArray⟩ : ByteArray).size = nn := HTS.out
      go_wp2_with (go_at_call 19; refine (size_ok 2 (From B) B [.put 2 0 f, .put 2 k s] _ HD3.out (by decide)).mono ?_; rintro e w4 ⟨rfl, hw4⟩; subst w4; rw [HLE.out])
      go_loopw [12] (fun i wr => ∃ j : Nat, j ≤ nn ∧ i = .int .i64 j ∧ wr = w3) (fun i _ => nn - (intOf i).toNat)
      case atStart => exact ⟨0, by omega, rfl, rfl⟩
      case round =>
        obtain ⟨j, hj, rfl, hwr⟩ := hrel
        subst wr
        by_cases hlt : j < nn
        · go_wp2
          all_goals first
            | exact ⟨⟨j + 1, by omega, by go_num, trivial⟩, by simp [intOf]; omega⟩
            | (exfalso; rename_i h; simp only [bne_iff_ne, ne_eq] at h; exact h (congrArg (fun b : UInt8 => ((b.toNat : Nat) : Int)) (gap1 HLL.out j _ _ (by omega))))
            | (exfalso; rename_i h; simp only [bne_iff_ne, ne_eq] at h; exact h (congrArg (fun b : UInt8 => ((b.toNat : Nat) : Int)) (gap2 HLL.out j _ _ (by omega))))
            | (exfalso; rename_i h; simp only [bne_iff_ne, ne_eq] at h; exact h (congrArg (fun b : UInt8 => ((b.toNat : Nat) : Int)) (gap3 HLL.out j _ (by omega) (by omega))))
        · go_wp2_with (go_at_call 10; refine (awake_any _).mono ?_; rintro e w5 ⟨rfl, hb5⟩)
          go_ret
          exact ⟨rfl, ((hb1.trans hb2).trans hb3).trans (hb5.mono hB3)⟩
end Go.Proofs.Ytafokloeabjpgaa
