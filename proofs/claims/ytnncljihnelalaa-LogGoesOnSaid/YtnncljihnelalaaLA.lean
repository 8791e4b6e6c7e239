/- Records as they stand in a log's file, in plain words. No program's function is met here. -/
import Derived.Test.YtnncljihnelalaaKC
set_option maxRecDepth 100000
namespace Go.Proofs.Ytnncljihnelalaa
open Go.RowKit

/-- A number as a word, the highest byte first. -/
def w4 (n : Nat) : List UInt8 := [UInt8.ofNat (n / 16777216), UInt8.ofNat (n / 65536), UInt8.ofNat (n / 256), UInt8.ofNat n]
/-- The number that bytes tell, the highest first. -/
def v4 (l : List UInt8) : Nat := l.foldl (fun u c => u * 256 + c.toNat) 0
theorem v4_snoc (l : List UInt8) (c : UInt8) : v4 (l ++ [c]) = v4 l * 256 + c.toNat := by simp [v4]
theorem w4_length (n : Nat) : (w4 n).length = 4 := rfl
theorem v4_w4 (n : Nat) (h : n < 4294967296) : v4 (w4 n) = n := by
  simp only [v4, w4, List.foldl_cons, List.foldl_nil, UInt8.toNat_ofNat']
  omega
theorem v4_lt (l : List UInt8) : ∀ k, l.length ≤ k → v4 l < 256 ^ k := by
  have H : ∀ (l : List UInt8) u k, u < 256 ^ k → l.foldl (fun u c => u * 256 + c.toNat) u < 256 ^ (k + l.length) := by
    intro l
    induction l with
    | nil => intro u k h; simpa using h
    | cons c l ih =>
      intro u k h
      have hc := c.toNat_lt
      have := ih (u * 256 + c.toNat) (k + 1) (by rw [Nat.pow_succ]; omega)
      rw [List.foldl_cons, List.length_cons, show k + (l.length + 1) = k + 1 + l.length by omega]
      exact this
  intro k hk
  have := H l 0 0 (by decide)
  rw [Nat.zero_add] at this
  exact Nat.lt_of_lt_of_le this (Nat.pow_le_pow_right (by decide) hk)

/-- A record as it stands in the file. -/
def frm (r : ByteArray) (k : Nat) : List UInt8 := w4 r.size ++ r.data.toList ++ w4 k
theorem frm_length (r : ByteArray) (k : Nat) : (frm r k).length = r.size + 8 := by
  have : r.data.toList.length = r.size := rfl
  simp only [frm, List.length_append, w4_length, this]
  omega
/-- Records, the first of them numbered k. -/
def logG : Nat → List ByteArray → List UInt8
  | _, [] => []
  | k, r :: rs => frm r k ++ logG (k + 1) rs
/-- What file 0 holds. -/
def logB (rs : List ByteArray) : List UInt8 := logG 1 rs
theorem logG_snoc (r : ByteArray) : ∀ (rs : List ByteArray) (k : Nat), logG k (rs ++ [r]) = logG k rs ++ frm r (k + rs.length)
  | [], k => by simp [logG]
  | q :: rs, k => by
    have := logG_snoc r rs (k + 1)
    simp only [List.cons_append, logG, this, List.append_assoc, List.length_cons]
    rw [show k + 1 + rs.length = k + (rs.length + 1) by omega]
theorem logB_snoc (rs : List ByteArray) (r : ByteArray) : logB (rs ++ [r]) = logB rs ++ frm r (rs.length + 1) := by
  rw [logB, logG_snoc, Nat.add_comm 1 rs.length]; rfl

/-- Records that may be. -/
def Recs (rs : List ByteArray) : Prop := ∀ r ∈ rs, 1 ≤ r.size ∧ r.size ≤ 1048576
theorem Recs.take {rs : List ByteArray} (h : Recs rs) (n : Nat) : Recs (rs.take n) := fun r hr => h r (List.mem_of_mem_take hr)
theorem Recs.snoc {rs : List ByteArray} (h : Recs rs) {r : ByteArray} (h1 : 1 ≤ r.size) (h2 : r.size ≤ 1048576) : Recs (rs ++ [r]) := by
  intro x hx
  rcases List.mem_append.1 hx with hx | hx
  · exact h x hx
  · rw [List.mem_singleton] at hx; subst hx; exact ⟨h1, h2⟩
theorem Recs.nil : Recs [] := fun r hr => by simp at hr
theorem logG_length : ∀ (rs : List ByteArray) (k : Nat), Recs rs → 9 * rs.length ≤ (logG k rs).length
  | [], _, _ => by simp
  | r :: rs, k, h => by
    have h1 := logG_length rs (k + 1) (fun x hx => h x (by simp [hx]))
    have h2 := (h r (by simp)).1
    simp only [logG, List.length_append, frm_length, List.length_cons]
    omega
theorem logB_length {rs : List ByteArray} (h : Recs rs) : 9 * rs.length ≤ (logB rs).length := logG_length rs 1 h

/-- The first record of a file's bytes, and what stands behind it. -/
def cutF (l : List UInt8) : Option (List UInt8 × List UInt8) :=
  if l.length < 8 then none else if l.length - 8 < v4 (l.take 4) then none else some ((l.drop 4).take (v4 (l.take 4)), l.drop (v4 (l.take 4) + 8))
theorem cutF_nil : cutF [] = none := rfl
theorem cutF_frm {r : ByteArray} {k : Nat} {rest : List UInt8} (h : r.size ≤ 1048576) : cutF (frm r k ++ rest) = some (r.data.toList, rest) := by
  have hl : r.data.toList.length = r.size := rfl
  have e1 : (frm r k ++ rest).take 4 = w4 r.size := by
    simp only [frm, List.append_assoc]
    exact List.take_left' (w4_length _)
  have e2 : (frm r k ++ rest).drop 4 = r.data.toList ++ (w4 k ++ rest) := by
    simp only [frm, List.append_assoc]
    exact List.drop_left' (w4_length _)
  have e3 : (frm r k ++ rest).drop (r.size + 8) = rest := List.drop_left' (frm_length r k)
  have e4 : (frm r k ++ rest).length = r.size + 8 + rest.length := by rw [List.length_append, frm_length]
  unfold cutF
  rw [e1, e2, v4_w4 _ (by omega), e3, if_neg (by omega), if_neg (by omega), List.take_left' hl]
theorem cutF_length {l a b : List UInt8} (h : cutF l = some (a, b)) : b.length < l.length ∧ a.length = v4 (l.take 4) ∧ a.length + 8 ≤ l.length := by
  unfold cutF at h
  split at h
  · cases h
  · split at h
    · cases h
    · rename_i h1 h2
      injection h with h
      injection h with h3 h4
      subst h3; subst h4
      simp only [List.length_drop, List.length_take]
      omega

/-- The last word of the file is the number of its records. -/
theorem logB_last {rs : List ByteArray} (h : rs ≠ []) (hl : (logB rs).length ≤ 4194304) (hr : Recs rs) : 4 ≤ (logB rs).length ∧ v4 ((logB rs).drop ((logB rs).length - 4)) = rs.length := by
  have h9 := logB_length hr
  have hne : 0 < rs.length := List.length_pos_iff.2 h
  refine ⟨by omega, ?_⟩
  obtain ⟨q, r, rfl⟩ : ∃ q r, rs = q ++ [r] := ⟨rs.dropLast, rs.getLast h, (List.dropLast_concat_getLast h).symm⟩
  rw [logB_snoc, frm, ← List.append_assoc]
  have : (logB q ++ (w4 r.size ++ r.data.toList) ++ w4 (q.length + 1)).length - 4 = (logB q ++ (w4 r.size ++ r.data.toList)).length := by simp only [List.length_append, w4_length]; omega
  rw [this, List.drop_left, v4_w4, List.length_append, List.length_singleton]
  simp only [List.length_append, List.length_singleton] at h9
  omega

/-- Bytes laid behind a file's end. -/
theorem putL_end (l cs : List UInt8) : putL l l.length cs = l ++ cs := by
  unfold putL splice
  rw [List.take_left, List.drop_of_length_le (by simp), List.append_nil]
end Go.Proofs.Ytnncljihnelalaa
