/- The places of a page as bits: which there are, how many, the lowest one. No program is met here. -/
import Derived.Test.YtpjpkpbfbbpmdaaDoorTSA
set_option maxRecDepth 100000
namespace Go.Proofs.YtpjpkpbfbbpmdaaDoor.Ts

/-- The bits of a number, rising. -/
def bitsL (x : Nat) : List Nat := (List.range 64).filter x.testBit
theorem mem_bitsL {x i : Nat} : i ∈ bitsL x ↔ i < 64 ∧ x.testBit i = true := by simp [bitsL]
theorem srt_range (n : Nat) : Srt (List.range n) := by
  unfold Srt
  exact List.pairwise_lt_range
theorem srt_bitsL (x : Nat) : Srt (bitsL x) := srt_filter _ (srt_range 64)
/-- Some places of a page, as addresses. -/
def tidsOf (p x : Nat) : List Nat := (bitsL x).map (fun i => 64 * p + i)
theorem srt_tidsOf (p x : Nat) : Srt (tidsOf p x) := List.pairwise_map.2 ((srt_bitsL x).imp (fun h => by omega))
theorem mem_tidsOf {p x t : Nat} : t ∈ tidsOf p x ↔ t / 64 = p ∧ x.testBit (t % 64) = true := by
  unfold tidsOf
  rw [List.mem_map]
  constructor
  · rintro ⟨i, hi, rfl⟩
    obtain ⟨h1, h2⟩ := mem_bitsL.1 hi
    refine ⟨by omega, ?_⟩
    rw [show (64 * p + i) % 64 = i by omega]; exact h2
  · rintro ⟨h1, h2⟩
    exact ⟨t % 64, mem_bitsL.2 ⟨by omega, h2⟩, by omega⟩

/-- The places of a page that a list of addresses has. -/
def pl (T : List Nat) (p : Nat) : Nat := (onp p T).foldr (fun t x => x ||| 2 ^ (t % 64)) 0
theorem foldr_bit (l : List Nat) (i : Nat) : (l.foldr (fun t x => x ||| 2 ^ (t % 64)) 0).testBit i = true ↔ ∃ t, t ∈ l ∧ t % 64 = i := by
  induction l with
  | nil => simp
  | cons a r ih =>
    rw [List.foldr_cons, Nat.testBit_or, Bool.or_eq_true, ih, Nat.testBit_two_pow, decide_eq_true_eq]
    constructor
    · rintro (⟨t, h1, h2⟩ | h)
      · exact ⟨t, by simp [h1], h2⟩
      · exact ⟨a, by simp, h⟩
    · rintro ⟨t, h1, h2⟩
      rcases List.mem_cons.1 h1 with rfl | h1
      · exact .inr h2
      · exact .inl ⟨t, h1, h2⟩
theorem pl_bit (T : List Nat) (p i : Nat) : (pl T p).testBit i = true ↔ i < 64 ∧ 64 * p + i ∈ T := by
  unfold pl
  rw [foldr_bit]
  constructor
  · rintro ⟨t, h1, rfl⟩
    obtain ⟨h2, h3⟩ := mem_onp.1 h1
    exact ⟨by omega, by rw [show 64 * p + t % 64 = t by omega]; exact h2⟩
  · rintro ⟨h1, h2⟩
    exact ⟨64 * p + i, mem_onp.2 ⟨h2, by omega⟩, by omega⟩
theorem pl_bit' (T : List Nat) (t : Nat) : (pl T (t / 64)).testBit (t % 64) = true ↔ t ∈ T := by
  rw [pl_bit, show 64 * (t / 64) + t % 64 = t by omega]
  exact ⟨fun h => h.2, fun h => ⟨by omega, h⟩⟩
theorem lt_of_bits {x : Nat} (h : ∀ i, x.testBit i = true → i < 64) : x < 18446744073709551616 := by
  have : x < 2 ^ 64 := Nat.lt_pow_two_of_testBit x (fun i hi => by
    cases hb : x.testBit i with
    | false => rfl
    | true => have := h i hb; omega)
  omega
theorem bit_lt {x i : Nat} (hx : x < 18446744073709551616) (h : x.testBit i = true) : i < 64 := by
  refine Nat.lt_of_not_le fun hi => ?_
  rw [Nat.testBit_lt_two_pow (Nat.lt_of_lt_of_le hx (Nat.pow_le_pow_right (n := 2) (by omega) hi))] at h
  cases h
theorem pl_lt (T : List Nat) (p : Nat) : pl T p < 18446744073709551616 := lt_of_bits fun i h => ((pl_bit T p i).1 h).1
theorem pl_zero {T : List Nat} {p : Nat} : pl T p = 0 ↔ ∀ t ∈ T, t / 64 ≠ p := by
  constructor
  · intro h t ht e
    have := (pl_bit' T t).2 ht
    rw [e, h] at this
    simp at this
  · intro h
    refine Nat.eq_of_testBit_eq fun i => ?_
    rw [Nat.zero_testBit]
    cases hb : (pl T p).testBit i with
    | false => rfl
    | true =>
      obtain ⟨h1, h2⟩ := (pl_bit T p i).1 hb
      exact absurd (by omega) (h _ h2)
theorem pl_ext {T : List Nat} {p x : Nat} (hx : x < 18446744073709551616) (h : ∀ i, i < 64 → (x.testBit i = true ↔ 64 * p + i ∈ T)) : x = pl T p := by
  refine Nat.eq_of_testBit_eq fun i => ?_
  by_cases hi : i < 64
  · rw [Bool.eq_iff_iff, h i hi, pl_bit]; exact ⟨fun e => ⟨hi, e⟩, fun e => e.2⟩
  · have h1 : x.testBit i = false := by cases hb : x.testBit i with
      | false => rfl
      | true => exact absurd (bit_lt hx hb) hi
    have h2 : (pl T p).testBit i = false := by cases hb : (pl T p).testBit i with
      | false => rfl
      | true => exact absurd ((pl_bit T p i).1 hb).1 hi
    rw [h1, h2]
theorem tidsOf_pl {T : List Nat} (h : Srt T) (p : Nat) : tidsOf p (pl T p) = onp p T :=
  srt_ext (srt_tidsOf _ _) (srt_filter _ h) fun t => by
    rw [mem_tidsOf, mem_onp]
    constructor
    · rintro ⟨rfl, h2⟩; exact ⟨(pl_bit' T t).1 h2, rfl⟩
    · rintro ⟨h1, rfl⟩; exact ⟨rfl, (pl_bit' T t).2 h1⟩
theorem bits_cnt {T : List Nat} (h : Srt T) (p : Nat) : (bitsL (pl T p)).length = cnt p T := by
  unfold cnt
  rw [← tidsOf_pl h p, tidsOf, List.length_map]
theorem bitsL_zero : bitsL 0 = [] := by
  refine List.eq_nil_iff_forall_not_mem.2 fun i hi => ?_
  have := (mem_bitsL.1 hi).2
  simp at this

/-- Two lists of bits that have none in common, put together. -/
theorem bitsL_or_length {x y : Nat} (h : ∀ i, x.testBit i = true → y.testBit i = true → False) : (bitsL (x ||| y)).length = (bitsL x).length + (bitsL y).length := by
  unfold bitsL
  generalize List.range 64 = l
  induction l with
  | nil => rfl
  | cons a r ih =>
    have e := Nat.testBit_or x y a
    cases hx : x.testBit a <;> cases hy : y.testBit a
    · simp [hx, hy, ih]
    · simp [hx, hy, ih]; omega
    · simp [hx, hy, ih]; omega
    · exact absurd hy (fun hy => h a hx hy)

/-- The lowest bit goes. -/
theorem low_split {x c : Nat} (h1 : x.testBit c = true) (h2 : ∀ j, j < c → x.testBit j = false) (j : Nat) : (x &&& (x - 1)).testBit j = (x.testBit j && decide (j ≠ c)) := by
  obtain ⟨m, hm⟩ : ∃ m, x = 2 ^ c * (2 * m + 1) := by
    refine ⟨x / 2 ^ c / 2, ?_⟩
    have a1 : x % 2 ^ c = 0 := by
      refine Nat.eq_of_testBit_eq fun j => ?_
      rw [Nat.testBit_mod_two_pow, Nat.zero_testBit]
      by_cases hj : j < c
      · simp [hj, h2 j hj]
      · simp [hj]
    have a2 : x / 2 ^ c % 2 = 1 := by
      have := Nat.testBit_eq_decide_div_mod_eq (x := x) (i := c)
      rw [h1] at this
      simpa using this.symm
    have a3 := Nat.div_add_mod x (2 ^ c)
    have a4 := Nat.div_add_mod (x / 2 ^ c) 2
    rw [a2] at a4
    rw [a1] at a3
    rw [a4]; omega
  have hp : 0 < 2 ^ c := Nat.pow_pos (by omega)
  have e1 : x = 2 ^ c * (2 * m) + 2 ^ c := by rw [hm, Nat.mul_add, Nat.mul_one]
  have e2 : x - 1 = 2 ^ c * (2 * m) + (2 ^ c - 1) := by omega
  have hb : ∀ j, (x - 1).testBit j = if j < c then true else (2 * m).testBit (j - c) := fun j => by
    rw [e2, Nat.testBit_two_pow_mul_add _ (by omega)]
    by_cases hj : j < c
    · simp [hj, Nat.testBit_two_pow_sub_one]
    · simp [hj]
  have ha : ∀ j, x.testBit j = if j < c then false else (2 * m + 1).testBit (j - c) := fun j => by
    rw [hm]
    have := Nat.testBit_two_pow_mul_add (2 * m + 1) (b := 0) (i := c) hp j
    rw [Nat.add_zero] at this
    rw [this]; simp
  rw [Nat.testBit_and, hb j]
  by_cases hj : j < c
  · have : j ≠ c := by omega
    simp [hj, h2 j hj]
  · by_cases hjc : j = c
    · subst hjc; simp
    · simp only [hj, if_false]
      rw [ha j]
      simp only [hj, if_false]
      obtain ⟨k, hk⟩ : ∃ k, j - c = k + 1 := ⟨j - c - 1, by omega⟩
      rw [hk, Nat.testBit_succ, Nat.testBit_succ, show (2 * m + 1) / 2 = m by omega, show 2 * m / 2 = m by omega]
      simp [hjc]
theorem bitsL_low {x c : Nat} (hc : c < 64) (h1 : x.testBit c = true) (h2 : ∀ j, j < c → x.testBit j = false) : bitsL x = c :: bitsL (x &&& (x - 1)) := by
  refine srt_ext (srt_bitsL x) (List.pairwise_cons.2 ⟨fun j hj => ?_, srt_bitsL _⟩) fun j => ?_
  · obtain ⟨_, hb⟩ := mem_bitsL.1 hj
    rw [low_split h1 h2, Bool.and_eq_true, decide_eq_true_eq] at hb
    refine Nat.lt_of_not_le fun hle => ?_
    rw [h2 j (by omega)] at hb
    simp at hb
  · rw [mem_bitsL, List.mem_cons, mem_bitsL, low_split h1 h2, Bool.and_eq_true, decide_eq_true_eq]
    constructor
    · rintro ⟨a, b⟩
      by_cases e : j = c
      · exact .inl e
      · exact .inr ⟨a, b, e⟩
    · rintro (rfl | ⟨a, b, _⟩)
      · exact ⟨hc, h1⟩
      · exact ⟨a, b⟩
theorem low_le (x : Nat) : x &&& (x - 1) ≤ x := Nat.and_le_left

/-! How many bits a number has, as the library reckons it: byte by byte. -/
def mk (c : Nat) : Nat → Nat
  | 0 => 0
  | n + 1 => c + 256 * mk c n
def s1 (n x : Nat) : Nat := (x / 2 &&& mk 85 n) + (x &&& mk 85 n)
def s2 (n x : Nat) : Nat := (x / 4 &&& mk 51 n) + (x &&& mk 51 n)
def s3 (n x : Nat) : Nat := (x / 16 + x) &&& mk 15 n
def one8 (x : Nat) : Nat := s3 1 (s2 1 (s1 1 x))
theorem and_split {a b m M : Nat} (ha : a < 256) (hm : m < 256) : (a + 256 * b) &&& (m + 256 * M) = (a &&& m) + 256 * (b &&& M) := by
  have h1 : a &&& m < 2 ^ 8 := Nat.lt_of_le_of_lt Nat.and_le_left ha
  refine Nat.eq_of_testBit_eq fun j => ?_
  have e : ∀ (u v : Nat), u < 256 → (u + 256 * v).testBit j = if j < 8 then u.testBit j else v.testBit (j - 8) := fun u v hu => by
    rw [Nat.add_comm, show 256 = 2 ^ 8 from rfl]
    exact Nat.testBit_two_pow_mul_add _ (by omega) _
  rw [Nat.testBit_and, e a b ha, e m M hm, e _ _ (by omega), Nat.testBit_and, Nat.testBit_and]
  split <;> rfl
theorem byte1 : ∀ lo, lo < 256 → ∀ e, e < 2 → (lo / 2 + 128 * e) &&& 85 = (lo / 2) &&& 85 := by decide +kernel
theorem byte2 : ∀ lo, lo < 256 → ∀ e, e < 4 → (lo / 4 + 64 * e) &&& 51 = (lo / 4) &&& 51 := by decide +kernel
theorem byteA : ∀ lo, lo < 256 → s1 1 lo < 256 ∧ s2 1 (s1 1 lo) < 256 ∧ one8 lo ≤ 8 ∧ (s1 1 lo) / 16 < 16 ∧ s2 1 (s1 1 lo) ≤ 68 ∧ one8 lo = ((List.range 8).filter lo.testBit).length := by decide +kernel
theorem s1_split (n lo hi : Nat) (h : lo < 256) : s1 (n + 1) (lo + 256 * hi) = s1 1 lo + 256 * s1 n hi := by
  unfold s1
  have e : (lo + 256 * hi) / 2 = (lo / 2 + 128 * (hi % 2)) + 256 * (hi / 2) := by omega
  show ((lo + 256 * hi) / 2 &&& (85 + 256 * mk 85 n)) + ((lo + 256 * hi) &&& (85 + 256 * mk 85 n)) = (lo / 2 &&& 85) + (lo &&& 85) + 256 * ((hi / 2 &&& mk 85 n) + (hi &&& mk 85 n))
  rw [e, and_split (by omega) (by omega), and_split h (by omega), byte1 lo h (hi % 2) (by omega)]
  omega
theorem s2_split (n lo hi : Nat) (h : lo < 256) : s2 (n + 1) (lo + 256 * hi) = s2 1 lo + 256 * s2 n hi := by
  unfold s2
  have e : (lo + 256 * hi) / 4 = (lo / 4 + 64 * (hi % 4)) + 256 * (hi / 4) := by omega
  show ((lo + 256 * hi) / 4 &&& (51 + 256 * mk 51 n)) + ((lo + 256 * hi) &&& (51 + 256 * mk 51 n)) = (lo / 4 &&& 51) + (lo &&& 51) + 256 * ((hi / 4 &&& mk 51 n) + (hi &&& mk 51 n))
  rw [e, and_split (by omega) (by omega), and_split h (by omega), byte2 lo h (hi % 4) (by omega)]
  omega
theorem byte4 : ∀ lo, lo < 69 → ∀ e, e < 5 → (lo / 16 + 16 * e + lo) &&& 15 = ((lo / 16 + lo) &&& 15) := by decide +kernel
theorem byteB : ∀ lo, lo < 256 → s2 1 (s1 1 lo) % 16 < 5 := by decide +kernel
theorem s3_split (n lo hi : Nat) (h : lo < 69) (hq : hi % 16 < 5) : s3 (n + 1) (lo + 256 * hi) = s3 1 lo + 256 * s3 n hi := by
  unfold s3
  have e : (lo + 256 * hi) / 16 + (lo + 256 * hi) = (lo / 16 + 16 * (hi % 16) + lo) + 256 * (hi / 16 + hi) := by omega
  show ((lo + 256 * hi) / 16 + (lo + 256 * hi)) &&& (15 + 256 * mk 15 n) = ((lo / 16 + lo) &&& 15) + 256 * ((hi / 16 + hi) &&& mk 15 n)
  rw [e, and_split (by omega) (by omega), byte4 lo h (hi % 16) hq]
def tot (n x : Nat) : Nat := s3 n (s2 n (s1 n x))
theorem byte_of (x : Nat) : ∃ lo hi, lo < 256 ∧ x = lo + 256 * hi := ⟨x % 256, x / 256, by omega, by omega⟩
theorem s2_nib (n x : Nat) : s2 n (s1 n x) % 16 < 5 := by
  cases n with
  | zero => simp [s2, mk]
  | succ n =>
    obtain ⟨lo, hi, hlo, rfl⟩ := byte_of x
    have a := byteA lo hlo
    have b := byteB lo hlo
    rw [s1_split n lo hi hlo, s2_split n _ _ a.1]
    omega
theorem tot_split (n lo hi : Nat) (h : lo < 256) : tot (n + 1) (lo + 256 * hi) = one8 lo + 256 * tot n hi := by
  have a := byteA lo h
  unfold tot one8
  rw [s1_split n lo hi h, s2_split n _ _ a.1, s3_split n _ _ (by omega) (s2_nib n hi)]
def ones (n x : Nat) : Nat := ((List.range (8 * n)).filter x.testBit).length
theorem bit_split {a b : Nat} (ha : a < 256) (j : Nat) : (a + 256 * b).testBit j = if j < 8 then a.testBit j else b.testBit (j - 8) := by
  rw [Nat.add_comm, show 256 = 2 ^ 8 from rfl]
  exact Nat.testBit_two_pow_mul_add _ (by omega) _
theorem ones_split (n lo hi : Nat) (h : lo < 256) : ones (n + 1) (lo + 256 * hi) = one8 lo + ones n hi := by
  have a := byteA lo h
  unfold ones
  rw [show 8 * (n + 1) = 8 + 8 * n by omega, List.range_add, List.filter_append, List.length_append, List.filter_map, List.length_map, a.2.2.2.2.2]
  congr 1
  · congr 1
    refine List.filter_congr fun j hj => ?_
    rw [bit_split h, if_pos (List.mem_range.1 hj)]
  · congr 1
    refine List.filter_congr fun j _ => ?_
    simp only [Function.comp_apply]
    rw [bit_split h, if_neg (by omega), show 8 + j - 8 = j by omega]
/-- All eight bytes, told apart. -/
theorem eight (x : Nat) (hx : x < 18446744073709551616) : ∃ c0 c1 c2 c3 c4 c5 c6 c7 : Nat, c0 ≤ 8 ∧ c1 ≤ 8 ∧ c2 ≤ 8 ∧ c3 ≤ 8 ∧ c4 ≤ 8 ∧ c5 ≤ 8 ∧ c6 ≤ 8 ∧ c7 ≤ 8 ∧
    tot 8 x = c0 + 256 * (c1 + 256 * (c2 + 256 * (c3 + 256 * (c4 + 256 * (c5 + 256 * (c6 + 256 * c7)))))) ∧ (bitsL x).length = c0 + c1 + c2 + c3 + c4 + c5 + c6 + c7 := by
  obtain ⟨l0, x1, h0, e0⟩ := byte_of x
  obtain ⟨l1, x2, h1, e1⟩ := byte_of x1
  obtain ⟨l2, x3, h2, e2⟩ := byte_of x2
  obtain ⟨l3, x4, h3, e3⟩ := byte_of x3
  obtain ⟨l4, x5, h4, e4⟩ := byte_of x4
  obtain ⟨l5, x6, h5, e5⟩ := byte_of x5
  obtain ⟨l6, x7, h6, e6⟩ := byte_of x6
  obtain ⟨l7, x8, h7, e7⟩ := byte_of x7
  have h8 : x8 = 0 := by omega
  refine ⟨one8 l0, one8 l1, one8 l2, one8 l3, one8 l4, one8 l5, one8 l6, one8 l7, (byteA l0 h0).2.2.1, (byteA l1 h1).2.2.1, (byteA l2 h2).2.2.1, (byteA l3 h3).2.2.1, (byteA l4 h4).2.2.1, (byteA l5 h5).2.2.1, (byteA l6 h6).2.2.1, (byteA l7 h7).2.2.1, ?_, ?_⟩
  · rw [e0, tot_split 7 _ _ h0, e1, tot_split 6 _ _ h1, e2, tot_split 5 _ _ h2, e3, tot_split 4 _ _ h3, e4, tot_split 3 _ _ h4, e5, tot_split 2 _ _ h5, e6, tot_split 1 _ _ h6, e7, tot_split 0 _ _ h7, show tot 0 x8 = 0 by simp [tot, s3, mk]]
    rfl
  · show ones 8 x = _
    rw [e0, ones_split 7 _ _ h0, e1, ones_split 6 _ _ h1, e2, ones_split 5 _ _ h2, e3, ones_split 4 _ _ h3, e4, ones_split 3 _ _ h4, e5, ones_split 2 _ _ h5, e6, ones_split 1 _ _ h6, e7, ones_split 0 _ _ h7, show ones 0 x8 = 0 by simp [ones]]
    omega
/-- The library's last four steps. -/
theorem count_end {x z1 z2 z3 : Nat} (hx : x < 18446744073709551616) (e1 : z1 = tot 8 x + tot 8 x / 256) (e2 : z2 = z1 + z1 / 65536) (e3 : z3 = z2 + z2 / 4294967296) : z3 % 128 = (bitsL x).length ∧ z3 < 9223372036854775808 := by
  obtain ⟨c0, c1, c2, c3, c4, c5, c6, c7, g0, g1, g2, g3, g4, g5, g6, g7, h1, h2⟩ := eight x hx
  rw [h2]
  obtain ⟨y, hy⟩ : ∃ y, y = tot 8 x := ⟨_, rfl⟩
  rw [← hy] at h1 e1
  have a1 : y / 256 = c1 + 256 * (c2 + 256 * (c3 + 256 * (c4 + 256 * (c5 + 256 * (c6 + 256 * c7))))) := by omega
  have a2 : z1 = (c0 + c1) + 256 * ((c1 + c2) + 256 * ((c2 + c3) + 256 * ((c3 + c4) + 256 * ((c4 + c5) + 256 * ((c5 + c6) + 256 * ((c6 + c7) + 256 * c7)))))) := by omega
  clear hy h1 e1 a1 h2
  have a3 : z1 / 65536 = (c2 + c3) + 256 * ((c3 + c4) + 256 * ((c4 + c5) + 256 * ((c5 + c6) + 256 * ((c6 + c7) + 256 * c7)))) := by omega
  have a4 : z2 = (c0 + c1 + c2 + c3) + 256 * ((c1 + c2 + c3 + c4) + 256 * ((c2 + c3 + c4 + c5) + 256 * ((c3 + c4 + c5 + c6) + 256 * ((c4 + c5 + c6 + c7) + 256 * ((c5 + c6 + c7) + 256 * ((c6 + c7) + 256 * c7)))))) := by omega
  clear a2 a3 e2
  have a5 : z2 / 4294967296 = (c4 + c5 + c6 + c7) + 256 * ((c5 + c6 + c7) + 256 * ((c6 + c7) + 256 * c7)) := by omega
  omega
theorem mk_85 : mk 85 8 = 6148914691236517205 := rfl
theorem mk_51 : mk 51 8 = 3689348814741910323 := rfl
theorem mk_15 : mk 15 8 = 1085102592571150095 := rfl
end Go.Proofs.YtpjpkpbfbbpmdaaDoor.Ts
