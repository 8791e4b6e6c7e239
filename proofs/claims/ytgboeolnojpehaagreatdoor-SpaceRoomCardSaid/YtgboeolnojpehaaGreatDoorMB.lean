/- Texts of the same proof, one behind the other: LA, LB, LC, LD, LE, LF, LG, LH. -/
import Derived.Test.YtgboeolnojpehaaGreatDoorMA
import Derived.Laws.BitsAllLaws
import Derived.Deep.QuietTactic
import Derived.BigQuiet
import Derived.IntWalk
import Derived.Laws.OwnMore
import Derived.Deep.RegionHeld3
/- Records as they stand in a log's file, in plain words. No program's function is met here. -/
set_option maxRecDepth 100000
namespace Go.Proofs.YtgboeolnojpehaaGreatDoor
open Go.RowKit

/-- A number as a word, the highest byte first. -/
def w4 (n : Nat) : List UInt8 := [UInt8.ofNat (n / 16777216), UInt8.ofNat (n / 65536), UInt8.ofNat (n / 256), UInt8.ofNat n]
/-- The number that bytes tell, the highest first. -/
def v4 (l : List UInt8) : Nat := l.foldl (fun u c => u * 256 + c.toNat) 0
theorem v4_snoc (l : List UInt8) (c : UInt8) : v4 (l ++ [c]) = v4 l * 256 + c.toNat := by simp [v4]
theorem w4_length (n : Nat) : (w4 n).length = 4 := rfl
theorem v4_w4 (n : Nat) (h : n < 4294967296) : v4 (w4 n) = n := by
  simp only [v4, w4, List.foldl_cons, List.foldl_nil, UInt8.toNat_ofNat']
  omega
theorem v4_lt (l : List UInt8) : ∀ k, l.length ≤ k → v4 l < 256 ^ k := by
  have H : ∀ (l : List UInt8) u k, u < 256 ^ k → l.foldl (fun u c => u * 256 + c.toNat) u < 256 ^ (k + l.length) := by
    intro l
    induction l with
    | nil => intro u k h; simpa using h
    | cons c l ih =>
      intro u k h
      have hc := c.toNat_lt
      have := ih (u * 256 + c.toNat) (k + 1) (by rw [Nat.pow_succ]; omega)
      rw [List.foldl_cons, List.length_cons, show k + (l.length + 1) = k + 1 + l.length by omega]
      exact this
  intro k hk
  have := H l 0 0 (by decide)
  rw [Nat.zero_add] at this
  exact Nat.lt_of_lt_of_le this (Nat.pow_le_pow_right (by decide) hk)

/-- A record as it stands in the file. -/
def frm (r : ByteArray) (k : Nat) : List UInt8 := w4 r.size ++ r.data.toList ++ w4 k
theorem frm_length (r : ByteArray) (k : Nat) : (frm r k).length = r.size + 8 := by
  have : r.data.toList.length = r.size := rfl
  simp only [frm, List.length_append, w4_length, this]
  omega
/-- Records, the first of them numbered k. -/
def logG : Nat → List ByteArray → List UInt8
  | _, [] => []
  | k, r :: rs => frm r k ++ logG (k + 1) rs
/-- What file 0 holds. -/
def logB (rs : List ByteArray) : List UInt8 := logG 1 rs
theorem logG_snoc (r : ByteArray) : ∀ (rs : List ByteArray) (k : Nat), logG k (rs ++ [r]) = logG k rs ++ frm r (k + rs.length)
  | [], k => by simp [logG]
  | q :: rs, k => by
    have := logG_snoc r rs (k + 1)
    simp only [List.cons_append, logG, this, List.append_assoc, List.length_cons]
    rw [show k + 1 + rs.length = k + (rs.length + 1) by omega]
theorem logB_snoc (rs : List ByteArray) (r : ByteArray) : logB (rs ++ [r]) = logB rs ++ frm r (rs.length + 1) := by
  rw [logB, logG_snoc, Nat.add_comm 1 rs.length]; rfl

/-- Records that may be. -/
def Recs (rs : List ByteArray) : Prop := ∀ r ∈ rs, 1 ≤ r.size ∧ r.size ≤ 1048576
theorem Recs.take {rs : List ByteArray} (h : Recs rs) (n : Nat) : Recs (rs.take n) := fun r hr => h r (List.mem_of_mem_take hr)
theorem Recs.snoc {rs : List ByteArray} (h : Recs rs) {r : ByteArray} (h1 : 1 ≤ r.size) (h2 : r.size ≤ 1048576) : Recs (rs ++ [r]) := by
  intro x hx
  rcases List.mem_append.1 hx with hx | hx
  · exact h x hx
  · rw [List.mem_singleton] at hx; subst hx; exact ⟨h1, h2⟩
theorem Recs.nil : Recs [] := fun r hr => by simp at hr
theorem logG_length : ∀ (rs : List ByteArray) (k : Nat), Recs rs → 9 * rs.length ≤ (logG k rs).length
  | [], _, _ => by simp
  | r :: rs, k, h => by
    have h1 := logG_length rs (k + 1) (fun x hx => h x (by simp [hx]))
    have h2 := (h r (by simp)).1
    simp only [logG, List.length_append, frm_length, List.length_cons]
    omega
theorem logB_length {rs : List ByteArray} (h : Recs rs) : 9 * rs.length ≤ (logB rs).length := logG_length rs 1 h

/-- The first record of a file's bytes, and what stands behind it. -/
def cutF (l : List UInt8) : Option (List UInt8 × List UInt8) :=
  if l.length < 8 then none else if l.length - 8 < v4 (l.take 4) then none else some ((l.drop 4).take (v4 (l.take 4)), l.drop (v4 (l.take 4) + 8))
theorem cutF_nil : cutF [] = none := rfl
theorem cutF_frm {r : ByteArray} {k : Nat} {rest : List UInt8} (h : r.size ≤ 1048576) : cutF (frm r k ++ rest) = some (r.data.toList, rest) := by
  have hl : r.data.toList.length = r.size := rfl
  have e1 : (frm r k ++ rest).take 4 = w4 r.size := by
    simp only [frm, List.append_assoc]
    exact List.take_left' (w4_length _)
  have e2 : (frm r k ++ rest).drop 4 = r.data.toList ++ (w4 k ++ rest) := by
    simp only [frm, List.append_assoc]
    exact List.drop_left' (w4_length _)
  have e3 : (frm r k ++ rest).drop (r.size + 8) = rest := List.drop_left' (frm_length r k)
  have e4 : (frm r k ++ rest).length = r.size + 8 + rest.length := by rw [List.length_append, frm_length]
  unfold cutF
  rw [e1, e2, v4_w4 _ (by omega), e3, if_neg (by omega), if_neg (by omega), List.take_left' hl]
theorem cutF_length {l a b : List UInt8} (h : cutF l = some (a, b)) : b.length < l.length ∧ a.length = v4 (l.take 4) ∧ a.length + 8 ≤ l.length := by
  unfold cutF at h
  split at h
  · cases h
  · split at h
    · cases h
    · rename_i h1 h2
      injection h with h
      injection h with h3 h4
      subst h3; subst h4
      simp only [List.length_drop, List.length_take]
      omega

/-- The last word of the file is the number of its records. -/
theorem logB_last {rs : List ByteArray} (h : rs ≠ []) (hl : (logB rs).length ≤ 4194304) (hr : Recs rs) : 4 ≤ (logB rs).length ∧ v4 ((logB rs).drop ((logB rs).length - 4)) = rs.length := by
  have h9 := logB_length hr
  have hne : 0 < rs.length := List.length_pos_iff.2 h
  refine ⟨by omega, ?_⟩
  obtain ⟨q, r, rfl⟩ : ∃ q r, rs = q ++ [r] := ⟨rs.dropLast, rs.getLast h, (List.dropLast_concat_getLast h).symm⟩
  rw [logB_snoc, frm, ← List.append_assoc]
  have : (logB q ++ (w4 r.size ++ r.data.toList) ++ w4 (q.length + 1)).length - 4 = (logB q ++ (w4 r.size ++ r.data.toList)).length := by simp only [List.length_append, w4_length]; omega
  rw [this, List.drop_left, v4_w4, List.length_append, List.length_singleton]
  simp only [List.length_append, List.length_singleton] at h9
  omega

/-- Bytes laid behind a file's end. -/
theorem putL_end (l cs : List UInt8) : putL l l.length cs = l ++ cs := by
  unfold putL splice
  rw [List.take_left, List.drop_of_length_le (by simp), List.append_nil]
end Go.Proofs.YtgboeolnojpehaaGreatDoor

/- The contracts of a log's wordOf, word, framed: for every argument. -/
set_option maxRecDepth 100000
namespace Go.Proofs.YtgboeolnojpehaaGreatDoor
open Go.RowKit

/-- A slice's cells, read as bytes. -/
def ReadsB (w : World) (a : Option Addr) (l : List UInt8) : Prop :=
  l = [] ∨ ∃ b off, a = some ⟨b, off, none⟩ ∧ b < w.heap.size ∧ ∀ j (h : j < l.length), w.cell? ⟨b, off + j, none⟩ = some (.int .u8 (l[j].toNat : Int))

theorem ReadsB.at {w : World} {a : Option Addr} {l : List UInt8} (h : ReadsB w a l) (hl : 0 < l.length) : ∃ b off, a = some ⟨b, off, none⟩ ∧ b < w.heap.size ∧ ∀ j (h : j < l.length), w.cell? ⟨b, off + j, none⟩ = some (.int .u8 (l[j].toNat : Int)) := by
  rcases h with rfl | h
  · simp at hl
  · exact h
theorem ReadsB.below {w w' : World} {a : Option Addr} {l : List UInt8} (h : ReadsB w a l) (hb : Below w.heap.size w w') : ReadsB w' a l := by
  rcases h with h | ⟨b, off, h1, h2, h3⟩
  · exact .inl h
  · exact .inr ⟨b, off, h1, Nat.lt_of_lt_of_le h2 hb.size, fun j hj => (hb.cell (p := ⟨b, off + j, none⟩) h2).trans (h3 j hj)⟩

theorem or_i64 (N : Nat) (b : Nat) (hN : N < 36028797018963968) (hb : b < 256) : bits BinOp.or IntKind.i64 ((N : Int) * 256) (b : Int) = ((N * 256 + b : Nat) : Int) := by
  have h1 : (BitVec.ofInt 64 ((N : Int) * 256)).toNat = N * 256 := by rw [BitVec.toNat_ofInt]; omega
  have h2 : (BitVec.ofInt 64 (b : Int)).toNat = b := by rw [BitVec.toNat_ofInt]; omega
  show IntKind.i64.wrap ((BitVec.ofInt 64 ((N : Int) * 256) ||| BitVec.ofInt 64 (b : Int)).toNat : Int) = _
  rw [BitVec.toNat_or, h1, h2, nat_join 8 (N * 256) b (by omega) hb, IntKind.wrap_i64]
  omega

set_option maxHeartbeats 1600000 in
theorem wordOf_any (a : Option Addr) (l : List UInt8) (c : Nat) (w : World) (hl : l.length ≤ 6) (hR : ReadsB w a l) :
    Calls Tryz.prog 89 #[.slice a l.length c] w fun e w' => e = .returned (.int .i64 (v4 l)) ∧ w' = w := by
  have HR := Lib.hid hR; clear hR
  go_enter Tryz.func89, Tryz.ntmps89
  go_wp2
  go_loop [3, 5, 8] (fun n _ i => ∃ k : Nat, k ≤ l.length ∧ i = .int .i64 k ∧ n = .int .i64 (v4 (l.take k))) (fun _ _ i => l.length - (intOf i).toNat)
  case atStart => exact ⟨0, by omega, rfl, rfl⟩
  case round =>
    obtain ⟨k, hk, rfl, rfl⟩ := hrel
    by_cases hlt : k < l.length
    · obtain ⟨b, off, rfl, _, hc⟩ := HR.out.at (by omega)
      have hck := hc k hlt
      clear hc
      have hN : v4 (l.take k) < 36028797018963968 := by
        refine Nat.lt_of_lt_of_le (v4_lt _ 6 ?_) (by decide)
        have := List.length_take_le k l
        omega
      have hcb := l[k].toNat_lt
      have hor := or_i64 (v4 (l.take k)) l[k].toNat hN hcb
      have HS : Hid (v4 (l.take (k + 1)) = v4 (l.take k) * 256 + l[k].toNat) := Lib.hid (by rw [List.take_succ_eq_append_getElem hlt, v4_snoc])
      have HOR := Lib.hid hor; clear hor
      go_wp2_with fail
      go_round
      case rel => exact ⟨k + 1, by omega, by go_num, by rw [HS.out, HOR.out]⟩
      case measure => simp [intOf]; omega
    · obtain rfl : k = l.length := by omega
      go_wp2
      go_ret
      exact ⟨rfl, rfl⟩

theorem w4_cells (w : World) (n : Nat) (hn : n < 4294967296) :
    (convert 74 9 (.slice (some ⟨w.heap.size, 0, none⟩) 4 4)).run Tryz.prog (w.alloc (.cells #[.int .u8 ((n : Int) / 16777216), .int .u8 ((n : Int) / 65536 % 256), .int .u8 ((n : Int) / 256 % 256), .int .u8 ((n : Int) % 256)] 5)) =
      .ok (.string ⟨(w4 n).toArray⟩) (w.alloc (.cells #[.int .u8 ((n : Int) / 16777216), .int .u8 ((n : Int) / 65536 % 256), .int .u8 ((n : Int) / 256 % 256), .int .u8 ((n : Int) % 256)] 5)) := by
  refine run_convert_bytes_back (P := Tryz.prog) _ 74 9 5 ⟨w.heap.size, 0, none⟩ 4 (w4 n) Tryz.underlying74 Tryz.underlying5 Tryz.underlying9 ?_
  intro j hj
  have hj' : j < 4 := hj
  have hc : j = 0 ∨ j = 1 ∨ j = 2 ∨ j = 3 := by omega
  rw [show (⟨w.heap.size, 0, none⟩ : Addr).add j = ⟨w.heap.size, j, none⟩ by rw [Addr.add_lit, Nat.zero_add], Lib.cell_of_heap (b := w.heap.size) (cs := #[.int .u8 ((n : Int) / 16777216), .int .u8 ((n : Int) / 65536 % 256), .int .u8 ((n : Int) / 256 % 256), .int .u8 ((n : Int) % 256)]) (heap_alloc_new w _)]
  rcases hc with rfl | rfl | rfl | rfl <;> simp [w4] <;> omega

set_option maxHeartbeats 400000 in
theorem word_any (n : Nat) (w : World) (hn : n < 4294967296) :
    Calls Tryz.prog 95 #[.int .i64 n] w fun e w' => e = .returned (.string ⟨(w4 n).toArray⟩) ∧ Below w.heap.size w w' := by
  have hcv := w4_cells w n hn
  go_enter Tryz.func95, Tryz.ntmps95
  go_wp2
  go_ret
  exact ⟨rfl, (Below.refl _ _).alloc (Nat.le_refl _) _⟩

theorem bytes_app (a b : List UInt8) : (⟨a.toArray⟩ : ByteArray) ++ ⟨b.toArray⟩ = ⟨(a ++ b).toArray⟩ := ByteArray.ext (by simp)
theorem bytes_self (s : ByteArray) : s = ⟨s.data.toList.toArray⟩ := ByteArray.ext (by simp)

set_option maxHeartbeats 800000 in
theorem framed_any (r : ByteArray) (k : Nat) (w : World) (hr : r.size ≤ 1048576) (hk : k < 4294967296) :
    Calls Tryz.prog 80 #[.string r, .int .i64 k] w fun e w' => e = .returned (.string ⟨(frm r k).toArray⟩) ∧ Below w.heap.size w w' := by
  have hlen : ¬ 9223372036854775807 < (w4 r.size).length + r.size := by rw [w4_length]; omega
  have hlen2 : ¬ 9223372036854775807 < (w4 r.size).length + r.size + (w4 k).length := by rw [w4_length, w4_length]; omega
  go_enter Tryz.func80, Tryz.ntmps80
  go_wp2_with fail
  refine (word_any _ _ (by omega)).mono ?_
  rintro e w1 ⟨rfl, hb1⟩
  go_wp2_with fail
  refine (word_any _ _ hk).mono ?_
  rintro e w2 ⟨rfl, hb2⟩
  go_wp2
  go_ret
  refine ⟨?_, hb1.trans (hb2.mono hb1.size)⟩
  have e : (⟨(w4 r.size).toArray⟩ : ByteArray) ++ r ++ ⟨(w4 k).toArray⟩ = ⟨(frm r k).toArray⟩ := by
    conv => lhs; rw [bytes_self r, bytes_app, bytes_app]
    rfl
  rw [← e]
  rfl
end Go.Proofs.YtgboeolnojpehaaGreatDoor

/- The contract of a log's cut: for whatever bytes. -/
set_option maxRecDepth 100000
namespace Go.Proofs.YtgboeolnojpehaaGreatDoor
open Go.RowKit

theorem wordOf_at (a : Option Addr) (l : List UInt8) (n c : Nat) (w : World) (hn : l.length = n) (hl : n ≤ 6) (hR : ReadsB w a l) :
    Calls Tryz.prog 89 #[.slice a n c] w fun e w' => e = .returned (.int .i64 (v4 l)) ∧ w = w' := by
  subst hn
  exact (wordOf_any a l c w hl hR).mono fun _ _ h => ⟨h.1, h.2.symm⟩

theorem ReadsB.take {w : World} {a : Option Addr} {l : List UInt8} (h : ReadsB w a l) (n : Nat) : ReadsB w a (l.take n) := by
  rcases h with rfl | ⟨b, off, h1, h2, h3⟩
  · exact .inl (by simp)
  · refine .inr ⟨b, off, h1, h2, fun j hj => ?_⟩
    rw [List.length_take] at hj
    rw [h3 j (by omega), List.getElem_take]
theorem ReadsB.drop {w : World} {b off : Nat} {l : List UInt8} (h : ReadsB w (some ⟨b, off, none⟩) l) (n : Nat) : ReadsB w (some ⟨b, off + n, none⟩) (l.drop n) := by
  rcases h with rfl | ⟨b', off', h1, h2, h3⟩
  · exact .inl (by simp)
  · injection h1 with h1
    injection h1 with h1 h4
    subst h1; subst h4
    refine .inr ⟨b, off + n, rfl, h2, fun j hj => ?_⟩
    rw [List.length_drop] at hj
    rw [List.getElem_drop, Nat.add_assoc, h3 (n + j) (by omega)]

set_option maxHeartbeats 800000 in
theorem lcut_no (a : Option Addr) (l : List UInt8) (c : Nat) (w : World) (hc : l.length ≤ c) (hl : l.length ≤ 4194304) (hR : ReadsB w a l) (h : cutF l = none) :
    Calls Tryz.prog 68 #[.slice a l.length c] w fun e w' => e = .returned (.tuple #[.slice none 0 0, .slice none 0 0, .bool false]) ∧ w' = w := by
  by_cases h8 : l.length < 8
  · go_enter Tryz.func68, Tryz.ntmps68
    go_wp2
    go_ret3
    exact ⟨rfl, rfl⟩
  · have hv : l.length - 8 < v4 (l.take 4) := by
      unfold cutF at h
      rw [if_neg h8] at h
      split at h
      · assumption
      · cases h
    have hlt : ((l.length : Int) - 8 < (v4 (l.take 4) : Int)) := by omega
    obtain ⟨b, off, rfl, _, hcell⟩ := hR.at (by omega)
    have H4 := Lib.hid (hR.take 4); clear hR hcell h
    have h4 : (l.take 4).length = 4 := by rw [List.length_take]; omega
    have HL4 := Lib.hid h4; clear h4
    have hc4 : 4 ≤ c := by omega
    go_enter Tryz.func68, Tryz.ntmps68
    go_wp2_with fail
    refine (wordOf_at _ (l.take 4) _ _ _ HL4.out (by omega) H4.out).mono ?_
    rintro e w' ⟨rfl, rfl⟩
    go_wp2
    go_ret3
    exact ⟨rfl, rfl⟩

set_option maxHeartbeats 800000 in
theorem lcut_yes (a : Option Addr) (l r rest : List UInt8) (c : Nat) (w : World) (hc : l.length ≤ c) (hl : l.length ≤ 4194304) (hR : ReadsB w a l) (h : cutF l = some (r, rest)) (hr : r ≠ []) :
    Calls Tryz.prog 68 #[.slice a l.length c] w fun e w' => ∃ a1 c1 a2 c2, e = .returned (.tuple #[.slice a1 r.length c1, .slice a2 rest.length c2, .bool true]) ∧ (∀ W, ReadsB W a l → ReadsB W a1 r ∧ ReadsB W a2 rest) ∧ rest.length ≤ c2 ∧ ∃ n, w' = w.drewN n := by
  have hlen := cutF_length h
  have hr0 : 0 < r.length := List.length_pos_iff.2 hr
  have hlt : ¬ ((l.length : Int) - 8 < (v4 (l.take 4) : Int)) := by omega
  have h8 : ¬ l.length < 8 := by omega
  obtain ⟨b, off, rfl, _, hcell⟩ := hR.at (by omega)
  have H4 := Lib.hid (hR.take 4)
  have h4 : (l.take 4).length = 4 := by rw [List.length_take]; omega
  have HL4 := Lib.hid h4; clear h4
  have hc4 : 4 ≤ c := by omega
  obtain ⟨q, hq⟩ : ∃ q, q = v4 (l.take 4) := ⟨_, rfl⟩
  rw [← hq] at hlt hlen
  have hq0 : 0 < q := by omega
  have hql : q + 8 ≤ l.length := by omega
  have HQ := Lib.hid hq; clear hq
  have hpost : Hid ((∀ W, ReadsB W (some ⟨b, off, none⟩) l → ReadsB W (some ⟨b, off + 4, none⟩) r ∧ ReadsB W (some ⟨b, off + (q + 8), none⟩) rest) ∧ rest.length = l.length - (q + 8) ∧ r.length = q) := Lib.hid (by
    unfold cutF at h
    rw [if_neg h8, ← HQ.out, if_neg (by omega)] at h
    injection h with h
    injection h with h3 h4
    subst h3; subst h4
    exact ⟨fun W hW => ⟨(hW.drop 4).take q, hW.drop (q + 8)⟩, by rw [List.length_drop], by rw [List.length_take, List.length_drop]; omega⟩)
  clear hR hcell h hr hr0 hlen
  go_enter Tryz.func68, Tryz.ntmps68
  go_wp2_with fail
  refine (wordOf_at _ (l.take 4) _ _ _ HL4.out (by omega) H4.out).mono ?_
  rintro e w' ⟨rfl, rfl⟩
  rw [← HQ.out]
  have e1 : IntKind.i64.wrap (4 + (q : Int)) = 4 + (q : Int) := IntWalk.i64_in _ (by omega)
  have e2 : IntKind.i64.wrap (4 + (q : Int) + 4) = 4 + (q : Int) + 4 := IntWalk.i64_in _ (by omega)
  go_wp2
  go_quiet (fail)
  go_wp2
  all_goals
    go_ret3
    obtain ⟨p1, p3, p4⟩ := hpost.out
    subst p4
    have p5 : l.length - (4 + r.length + 4) = rest.length := by omega
    rw [show off + (r.length + 8) = off + (4 + r.length + 4) by omega] at p1
    refine ⟨_, _, _, _, (by rw [← p5] <;> rfl), ?_, ?_, _, by first | exact rfl | (symm; assumption) | assumption⟩
    · intro W hW
      refine ⟨(p1 W hW).1, ?_⟩
      first
        | exact (p1 W hW).2
        | (left; exact List.eq_nil_of_length_eq_zero (by omega))
    · omega
end Go.Proofs.YtgboeolnojpehaaGreatDoor

/- The contract of a log's recordsOf: for the bytes of any records. -/
set_option maxRecDepth 100000
namespace Go.Proofs.YtgboeolnojpehaaGreatDoor
open Go.RowKit

theorem infoStr : (Tryz.prog.info? 9).map (fun i => (i.zero, i.size, i.bytes)) = some (some (.string ⟨#[]⟩), 1, 16) := by kernel_rfl

/-- Texts that lie in a row of their own, from block B on. -/
def Strs (B : Nat) (w : World) (v : Value) (rs : List ByteArray) : Prop := w.ownsRow B 9 1 v rs.length (rs.map Value.string)

theorem ownsRow_below {w w' : World} {base : Nat} {e : TypeId} {size : Nat} {v : Value} {n : Nat} {xs : List Value} (h : w.ownsRow base e size v n xs) (hb : Below w.heap.size w w') : w'.ownsRow base e size v n xs :=
  ownsRow_of_block h fun k hk => hb.block k (h.lt k hk).2
theorem Strs.below {B : Nat} {w w' : World} {v : Value} {rs : List ByteArray} (h : Strs B w v rs) (hb : Below w.heap.size w w') : Strs B w' v rs := ownsRow_below h hb
theorem Strs.mono {B B' : Nat} {w : World} {v : Value} {rs : List ByteArray} (h : Strs B w v rs) (hB : B' ≤ B) : Strs B' w v rs :=
  ⟨h.1, h.2.imp id fun ⟨g, cap, cur, h1, h2, h3⟩ => ⟨g, cap, cur, h1, Nat.le_trans hB h2, h3⟩⟩
theorem Strs.shape {B : Nat} {w : World} {v : Value} {rs : List ByteArray} (h : Strs B w v rs) : ∃ a c, v = .slice a rs.length c := by
  rcases h.2 with ⟨rfl, h0⟩ | ⟨g, cap, cur, rfl, _⟩
  · exact ⟨none, 0, by rw [h0]⟩
  · exact ⟨_, cap, rfl⟩
theorem below_drewN (w : World) (n : Nat) : Below w.heap.size w (w.drewN n) := ⟨rfl, rfl, rfl, Nat.le_refl _, fun _ _ => rfl⟩

theorem convert_reads (w : World) (a : Option Addr) (s : ByteArray) (c : Nat) (h : ReadsB w a s.data.toList) (h0 : 0 < s.size) :
    (convert 74 9 (.slice a s.size c)).run Tryz.prog w = .ok (.string s) w := by
  obtain ⟨b, off, rfl, _, hc⟩ := h.at h0
  have := run_convert_bytes_back (P := Tryz.prog) w 74 9 5 ⟨b, off, none⟩ c s.data.toList Tryz.underlying74 Tryz.underlying5 Tryz.underlying9 (fun j hj => by rw [Addr.add_lit]; exact hc j hj)
  exact this

/-- What is left of the bytes behind i records. -/
def restB (rs : List ByteArray) (i : Nat) : List UInt8 := logG (i + 1) (rs.drop i)
theorem restB_end (rs : List ByteArray) : restB rs rs.length = [] := by simp [restB, logG]
theorem restB_next {rs : List ByteArray} {i : Nat} (h : i < rs.length) : restB rs i = frm rs[i] (i + 1) ++ restB rs (i + 1) := by
  unfold restB
  rw [List.drop_eq_getElem_cons h, logG]
theorem restB_le (rs : List ByteArray) : ∀ i, i ≤ rs.length → (restB rs i).length ≤ (logB rs).length := by
  intro i
  induction i with
  | zero => intro _; simp [restB, logB]
  | succ i ih =>
    intro h
    have := ih (by omega)
    rw [restB_next (by omega : i < rs.length), List.length_append] at this
    omega

theorem lcut_end (a : Option Addr) (n c : Nat) (l : List UInt8) (w : World) (hn : l.length = n) (hl : l = []) :
    Calls Tryz.prog 68 #[.slice a n c] w fun e w' => e = .returned (.tuple #[.slice none 0 0, .slice none 0 0, .bool false]) ∧ w = w' := by
  subst hl; subst hn
  exact (lcut_no a [] c w (by simp) (by simp) (.inl rfl) rfl).mono fun _ _ h => ⟨h.1, h.2.symm⟩
theorem lcut_next (a : Option Addr) (n c : Nat) (l : List UInt8) (s : ByteArray) (rest : List UInt8) (w : World) (hn : l.length = n) (hc : n ≤ c) (hl : n ≤ 4194304) (hR : ReadsB w a l) (h : cutF l = some (s.data.toList, rest)) (hs : 1 ≤ s.size) :
    Calls Tryz.prog 68 #[.slice a n c] w fun e w' => ∃ a1 c1 a2 c2 m k, e = .returned (.tuple #[.slice a1 s.size c1, .slice a2 m c2, .bool true]) ∧ w' = w.drewN k ∧ (∀ W, ReadsB W a l → ReadsB W a1 s.data.toList ∧ ReadsB W a2 rest) ∧ rest.length = m ∧ m ≤ c2 := by
  subst hn
  refine (lcut_yes a l s.data.toList rest c w hc hl hR h (by intro e; have : s.data.toList.length = s.size := rfl; rw [e] at this; simp at this; omega)).mono ?_
  rintro e w' ⟨a1, c1, a2, c2, h1, h2, h4, k, h5⟩
  exact ⟨a1, c1, a2, c2, rest.length, k, h1, h5, h2, rfl, h4⟩

/-- The measure of recordsOf's loop. -/
def sliceLen : Value → Nat
  | .slice _ n _ => n
  | _ => 0

set_option maxHeartbeats 1600000 in
theorem recordsOf_any (rs : List ByteArray) (a : Option Addr) (c n : Nat) (w : World) (hn : (logB rs).length = n) (hl : n ≤ 4194304) (hrs : Recs rs) (hc : n ≤ c) (hR : ReadsB w a (logB rs)) :
    Calls Tryz.prog 44 #[.slice a n c] w fun e w' => ∃ v, e = .returned v ∧ Strs w.heap.size w' v rs ∧ Below w.heap.size w w' := by
  obtain ⟨i0, hi, q0, q1, q2⟩ := info_parts infoStr
  have hn9 := logB_length hrs
  have HRS := Lib.hid hrs; have HR := Lib.hid hR; clear hrs hR
  obtain ⟨N, hN⟩ : ∃ N, N = rs.length := ⟨_, rfl⟩
  rw [hn, ← hN] at hn9
  have HL := Lib.hid hn; have HN := Lib.hid hN; clear hn hN
  have HLE : Hid (∀ i, i ≤ N → (restB rs i).length ≤ n) := Lib.hid (fun i hi => by rw [← HL.out]; exact restB_le rs i (by rw [← HN.out]; exact hi))
  go_enter Tryz.func44, Tryz.ntmps44
  go_wp2
  go_loopw [0, 3] (fun b v wr => ∃ (i : Nat) (a' : Option Addr) (c' m : Nat) (av : Option Addr) (cv : Nat), i ≤ N ∧ b = .slice a' m c' ∧ v = .slice av i cv ∧ m ≤ c' ∧ m ≤ 4194304 ∧ Hid ((restB rs i).length = m) ∧ Hid (ReadsB w a' (restB rs i)) ∧ Hid (Strs w.heap.size wr v (rs.take i)) ∧ Hid (Below w.heap.size w wr)) (fun b _ _ => sliceLen b)
  case atStart => exact ⟨0, a, c, n, none, 0, by omega, rfl, rfl, hc, hl, Lib.hid (by rw [← HL.out]; rfl), HR, Lib.hid (World.ownsRow_nil _ _ _ _), Lib.hid (Below.refl _ _)⟩
  case round =>
    obtain ⟨i, a', c', m, av, cv, hiN, rfl, rfl, hmc, hm4, HM, HRR, HO, HB⟩ := hrel
    by_cases hlt : i < N
    · have hlt' : i < rs.length := by rw [← HN.out]; exact hlt
      have hok := HRS.out _ (List.getElem_mem hlt')
      have HNX := Lib.hid (restB_next hlt')
      have HCF : Hid (cutF (restB rs i) = some (rs[i].data.toList, restB rs (i + 1))) := Lib.hid (by rw [HNX.out]; exact cutF_frm hok.2)
      go_wp2_with fail
      refine (lcut_next _ _ _ _ _ _ _ HM.out hmc hm4 (HRR.out.below HB.out) HCF.out hok.1).mono ?_
      rintro e w1 ⟨a1, c1, a2, c2, m2, k, rfl, rfl, hr, hm2, hc2⟩
      have hr1 := (hr wr (HRR.out.below HB.out)).1
      have HRN : Hid (ReadsB w a2 (restB rs (i + 1))) := Lib.hid (hr w HRR.out).2
      have hwd : (wr.drewN k).heap.size = wr.heap.size := rfl
      have hcv := fun o => convert_reads ((wr.drewN k).alloc o) a1 rs[i] c1 ((hr1.below (below_drewN wr k)).below ((Below.refl _ _).alloc (Nat.le_refl _) o)) hok.1
      have hcv0 := convert_reads (wr.drewN k) a1 rs[i] c1 (hr1.below (below_drewN wr k)) hok.1
      have HM2 := Lib.hid hm2
      clear hr1 hr hm2
      have HO1 : Hid ((wr.drewN k).ownsRow w.heap.size 9 1 (.slice av i cv) i ((rs.take i).map Value.string)) := Lib.hid (by
        have := HO.out.below (below_drewN wr k)
        rw [Strs, List.length_take, Nat.min_eq_left (by omega)] at this
        exact this)
      have hBw : w.heap.size ≤ wr.heap.size := HB.out.size
      go_wp2_with (at_builtin; refine wpList_append_own _ rfl _ _ 62 rfl w.heap.size 9 i0 (.string ⟨#[]⟩) 1 16 Tryz.underlying62 hi q0 q1 q2 rfl (by decide) _ _ _ rfl (HO1.out.alloc _) ⟨wr.heap.size, 0, none⟩ 1 1 [.string rs[i]] rfl rfl ?c1 ?c2 ?c3 ?c4 ?c5 ?_)
      case c1 =>
        intro q u hu
        have hq : q = 0 := by
          have := (List.getElem?_eq_some_iff.1 hu).1
          simp at this
          omega
        subst hq
        simp at hu
        subst hu
        exact Lib.cell_of_heap (w := (wr.drewN k).alloc (.cells #[.string rs[i]] 9)) (b := wr.heap.size) (heap_alloc_new (wr.drewN k) _) 0
      case c2 => intro u hu; simp at hu; subst hu; rfl
      case c3 => unfold maxLen; omega
      case c4 => omega
      case c5 => simp; omega
      intro v' w2 hown' hgrow _
      obtain ⟨av', cv', rfl⟩ : ∃ a c, v' = .slice a (i + 1) c := by
        rcases hown'.2 with ⟨_, h0⟩ | ⟨g', cap', cur, hv, _⟩
        · omega
        · exact ⟨_, cap', hv⟩
      have HB2 : Hid (Below w.heap.size w w2) := Lib.hid (((HB.out.trans ((below_drewN wr k).mono hBw)).alloc hBw _).grown hgrow (by rw [World.size_alloc]; exact Nat.le_succ_of_le hBw) (fun q hq => (HO1.out.lt q hq).1))
      have HO2 : Hid (Strs w.heap.size w2 (.slice av' (i + 1) cv') (rs.take (i + 1))) := Lib.hid (by
        rw [Strs, List.take_succ_eq_append_getElem hlt', List.length_append, List.length_take, Nat.min_eq_left (by omega), List.map_append, List.map_take]
        exact hown')
      have hlen : m2 < m := by
        have := HM.out
        rw [HNX.out, List.length_append, frm_length, HM2.out] at this
        omega
      clear hown' hgrow hcv hcv0
      go_wp2
      go_roundw
      case rel => exact ⟨i + 1, a2, c2, m2, av', cv', by omega, rfl, rfl, hc2, by omega, HM2, HRN, HO2, HB2⟩
      case measure => simp [sliceLen]; omega
    · obtain rfl : i = N := by omega
      have HE : Hid (restB rs i = []) := Lib.hid (by rw [HN.out]; exact restB_end rs)
      go_wp2_with fail
      refine (lcut_end _ _ _ _ _ HM.out HE.out).mono ?_
      rintro e w1 ⟨rfl, rfl⟩
      go_wp2
      go_ret
      refine ⟨_, rfl, ?_, HB.out⟩
      have h : Strs w.heap.size wr (.slice av i cv) rs := by
        have := HO.out
        rwa [show rs.take i = rs by rw [HN.out, List.take_length]] at this
      exact h
end Go.Proofs.YtgboeolnojpehaaGreatDoor

/- The contracts of a log's given, Open, Len, Reset. -/
set_option maxRecDepth 100000
namespace Go.Proofs.YtgboeolnojpehaaGreatDoor
open Go.RowKit

theorem sizeL : (Tryz.prog.info? 95).map (·.size) = some 2 := by kernel_rfl

set_option maxHeartbeats 400000 in
theorem lgiven_nil (w : World) : Calls Tryz.prog 79 #[.pointer none] w fun e w' => e = .returned (.bool false) ∧ w' = w := by
  go_enter Tryz.func79, Tryz.ntmps79
  go_wp2
  go_ret
  exact ⟨rfl, rfl⟩

set_option maxHeartbeats 400000 in
theorem lgiven_self (l : Nat) (w : World) (h : w.cell? ⟨l, 0, none⟩ = some (.pointer (some ⟨l, 0, none⟩))) :
    Calls Tryz.prog 79 #[.pointer (some ⟨l, 0, none⟩)] w fun e w' => e = .returned (.bool true) ∧ w' = w := by
  obtain ⟨j, hj, _⟩ := Option.map_eq_some_iff.1 sizeL
  have hq := run_eql_ptr_same (P := Tryz.prog) w (tp := 50) (te := 95) ⟨l, 0, none⟩ Tryz.underlying50 hj
  go_enter Tryz.func79, Tryz.ntmps79
  go_wp2
  go_ret
  exact ⟨rfl, rfl⟩

theorem eql_nil_log (w : World) (a : Addr) : (binOp .eql 50 (.pointer none) (.pointer (some a))).run Tryz.prog w = .ok (.bool false) w := by
  have h : ∀ d : Nat, (Op.equalIn (d + 1) 50 (.pointer none) (.pointer (some a))).run Tryz.prog w = .ok false w := fun d => by
    simp [Op.equalIn, run_underlying Tryz.underlying50, sizeOf, typeInfo]
  simp only [binOp]
  simp [Op.equal, Op.maxDepth, h 9999]

set_option maxHeartbeats 400000 in
theorem lgiven_zero (l : Nat) (w : World) (h : w.cell? ⟨l, 0, none⟩ = some (.pointer none)) :
    Calls Tryz.prog 79 #[.pointer (some ⟨l, 0, none⟩)] w fun e w' => e = .returned (.bool false) ∧ w' = w := by
  have hq := eql_nil_log w ⟨l, 0, none⟩
  go_enter Tryz.func79, Tryz.ntmps79
  go_wp2
  go_ret
  exact ⟨rfl, rfl⟩

/-- A log that Open gave lies at block l, on the disk at block d. -/
def LogOn (l d : Nat) (w : World) : Prop := w.heap[l]? = some (.cells #[.pointer (some ⟨l, 0, none⟩), .pointer (some ⟨d, 0, none⟩)] 95 (0, 0))
theorem LogOn.lt {l d : Nat} {w : World} (h : LogOn l d w) : l < w.heap.size := (Array.getElem?_eq_some_iff.1 h).1
theorem LogOn.self {l d : Nat} {w : World} (h : LogOn l d w) : w.cell? ⟨l, 0, none⟩ = some (.pointer (some ⟨l, 0, none⟩)) := by rw [Lib.cell_of_heap h]; rfl
theorem LogOn.disk {l d : Nat} {w : World} (h : LogOn l d w) : w.cell? ⟨l, 1, none⟩ = some (.pointer (some ⟨d, 0, none⟩)) := by rw [Lib.cell_of_heap h]; rfl
theorem LogOn.below {l d : Nat} {w w' : World} (h : LogOn l d w) (hb : Below w.heap.size w w') : LogOn l d w' := by
  unfold LogOn
  rw [hb.block l h.lt]; exact h
theorem LogOn.kept {S : Nat → Prop} {l d : Nat} {w w' : World} (h : LogOn l d w) (hk : Kept S w w') (hl : ¬ S l) : LogOn l d w' := by
  unfold LogOn
  rw [hk.block l h.lt hl]; exact h

theorem str_toArray (l : List UInt8) : (⟨l.toArray⟩ : ByteArray).data.toList = l := by simp
theorem str_size (l : List UInt8) : (⟨l.toArray⟩ : ByteArray).size = l.length := by simp [ByteArray.size]

/-- What '[]byte(s)' lays, read as bytes. -/
theorem bytesOf_reads (w : World) (s : ByteArray) :
    ∃ c W, (convert 9 74 (.string s)).run Tryz.prog w = .ok (.slice (some ⟨w.heap.size, 0, none⟩) s.size c) W ∧ s.size ≤ c ∧ ReadsB W (some ⟨w.heap.size, 0, none⟩) s.data.toList ∧ Below w.heap.size w W := by
  have h := run_bytes_of_string (P := Tryz.prog) w 9 74 5 s Tryz.underlying9 Tryz.underlying74 Tryz.underlying5
  refine ⟨_, _, h, grownCap_ge _ _ _ _, .inr ⟨w.heap.size, 0, rfl, by simp, ?_⟩, (Below.refl _ w).drew.alloc (Nat.le_refl _) _⟩
  intro j hj
  have hj' : j < s.data.size := by simpa using hj
  rw [Nat.zero_add]
  have e := World.cell?_alloc_mark w.drew (bytesRow s (grownCap w s.size 0 5)) 5 ((bytesRow s (grownCap w s.size 0 5)).size, (bytesRow s (grownCap w s.size 0 5)).size + 1) j
  rw [bytesRow_at s _ j hj'] at e
  rw [show w.drew.heap.size = w.heap.size from rfl] at e
  rw [e]
  simp

set_option maxHeartbeats 1600000 in
theorem open_ok (S : Nat → Prop) (d : Nat) (ops : List RawOp) (rs : List ByteArray) (w : World) (h : DiskAt S d ops w) (hp : play ops 0 = logB rs) (hrs : Recs rs) :
    Calls Tryz.prog 21 #[.pointer (some ⟨d, 0, none⟩)] w fun e w' => ∃ v, e = .returned (.tuple #[.pointer (some ⟨w.heap.size, 0, none⟩), v, .int .i64 0]) ∧ LogOn w.heap.size d w' ∧ Strs w.heap.size w' v rs ∧ Below w.heap.size w w' := by
  have HD := Lib.hid h; clear h
  have hlen : (logB rs).length ≤ 4194304 := by rw [← hp]; exact play_length HD.out.1 0
  obtain ⟨s, hs⟩ : ∃ s : ByteArray, s = ⟨(logB rs).toArray⟩ := ⟨_, rfl⟩
  have hsl : s.data.toList = logB rs := by rw [hs]
  have hsz : (logB rs).length = s.size := by rw [← hsl]; rfl
  have HRD : Hid (Calls Tryz.prog 42 #[.pointer (some ⟨d, 0, none⟩), .int .i64 0, .int .i64 0, .int .i64 s.size] w fun e w' => e = .returned (.tuple #[.string s, .int .i64 0]) ∧ w = w') := Lib.hid ((read_ok 0 0 s.size S d ops w HD.out (by omega) (by rw [hp]; omega)).mono fun e w' ⟨h1, h2⟩ => ⟨by rw [h1, hp, List.drop_zero, List.take_of_length_le (by omega), ← hs], h2.symm⟩)
  have HSZ : Hid (Calls Tryz.prog 43 #[.pointer (some ⟨d, 0, none⟩), .int .i64 0] w fun e w' => e = .returned (.int .i64 s.size) ∧ w = w') := Lib.hid ((size_ok 0 S d ops w HD.out (by omega)).mono fun e w' ⟨h1, h2⟩ => ⟨by rw [h1, hp, hsz], h2.symm⟩)
  obtain ⟨c, W, hcv, hc, hR, hbW⟩ := bytesOf_reads (w.alloc (.cells #[.pointer (some ⟨w.heap.size, 0, none⟩), .pointer (some ⟨d, 0, none⟩)] 95)) s
  have HOF := Lib.hid (recordsOf_any rs (some ⟨w.heap.size + 1, 0, none⟩) c s.size W hsz (by omega) hrs hc (by rw [← hsl]; simpa using hR))
  have HON : Hid (LogOn w.heap.size d W) := Lib.hid (LogOn.below (w := w.alloc (.cells #[.pointer (some ⟨w.heap.size, 0, none⟩), .pointer (some ⟨d, 0, none⟩)] 95)) (heap_alloc_new w _) hbW)
  have HBW : Hid (Below w.heap.size w W) := Lib.hid (((Below.refl _ w).alloc (Nat.le_refl _) _).trans (hbW.mono (by simp)))
  clear hp hrs hs hsl hsz hlen hc hR hbW
  go_enter Tryz.func21, Tryz.ntmps21
  go_wp2_with fail
  refine HSZ.out.mono ?_
  rintro e w1 ⟨rfl, rfl⟩
  go_wp2_with fail
  refine HRD.out.mono ?_
  rintro e w2 ⟨rfl, rfl⟩
  go_wp2_with fail
  refine HOF.out.mono ?_
  rintro e w3 ⟨v, rfl, hS, hb⟩
  have hz := HBW.out.size
  have HS := Lib.hid hS; have HB := Lib.hid hb; clear hS hb
  go_wp2
  go_ret3
  exact ⟨v, rfl, HON.out.below HB.out, HS.out.mono hz, HBW.out.trans (HB.out.mono hz)⟩

set_option maxHeartbeats 1600000 in
theorem open_nobody (p : Value) (w : World) (hp : NoDisk p w) :
    Calls Tryz.prog 21 #[p] w fun e w' => e = .returned (.tuple #[.pointer none, .slice none 0 0, .int .i64 1]) ∧ w' = w := by
  have HS := Lib.hid (size_nobody p 0 w hp)
  have HR := Lib.hid (read_nobody p 0 0 0 w hp)
  clear hp
  go_enter Tryz.func21, Tryz.ntmps21
  go_wp2_with fail
  refine HS.out.mono ?_
  rintro e w1 ⟨rfl, rfl⟩
  go_wp2_with fail
  refine HR.out.mono ?_
  rintro e w2 ⟨rfl, rfl⟩
  go_wp2
  go_ret3
  exact ⟨rfl, rfl⟩

set_option maxHeartbeats 1600000 in
theorem len_ok (S : Nat → Prop) (l d : Nat) (ops : List RawOp) (rs : List ByteArray) (w : World) (h : DiskAt S d ops w) (hl : LogOn l d w) (hp : play ops 0 = logB rs) (hrs : Recs rs) :
    Calls Tryz.prog 81 #[.pointer (some ⟨l, 0, none⟩)] w fun e w' => e = .returned (.int .i64 rs.length) ∧ Below w.heap.size w w' := by
  have hself := hl.self
  have hdisk := hl.disk
  have HG := Lib.hid (fun W (hW : W.cell? ⟨l, 0, none⟩ = some (.pointer (some ⟨l, 0, none⟩))) => lgiven_self l W hW)
  have hlen : (logB rs).length ≤ 4194304 := by rw [← hp]; exact play_length h.1 0
  have HD : ∀ n, DiskAt S d ops (w.drewN n) := fun n => h.below (below_drewN w n)
  by_cases hrn : rs = []
  · subst hrn
    have HSZ : Hid (∀ n, Calls Tryz.prog 43 #[.pointer (some ⟨d, 0, none⟩), .int .i64 0] (w.drewN n) fun e w' => e = .returned (.int .i64 0) ∧ w' = w.drewN n) := Lib.hid (fun n => (size_ok 0 S d ops _ (HD n) (by omega)).mono fun e w' ⟨h1, h2⟩ => ⟨by rw [h1, hp]; rfl, h2⟩)
    have HRD : Hid (∀ n, Calls Tryz.prog 42 #[.pointer (some ⟨d, 0, none⟩), .int .i64 0, .int .i64 (-4), .int .i64 4] (w.drewN n) fun e w' => e = .returned (.tuple #[.string ⟨#[]⟩, .int .i64 1]) ∧ w' = w.drewN n) := Lib.hid (fun n => read_no 0 (-4) 4 S d ops _ (HD n) (by omega) (by omega))
    clear hp hrs hlen HD h hl
    go_enter Tryz.func81, Tryz.ntmps81
    go_wp2_with fail
    refine (HG.out _ hself).mono ?_
    rintro e w1 ⟨rfl, hw⟩
    subst w1
    go_wp2_with fail
    go_quiet ((first | (go_at_call 43; exact Calls.quiet_of_same (HSZ.out _)) | (go_at_call 42; exact Calls.quiet_of_same (HRD.out _))))
    go_wp2
    go_ret
    exact ⟨rfl, below_drewN _ _⟩
  · obtain ⟨h4, hv⟩ := logB_last hrn hlen hrs
    obtain ⟨L, hL⟩ : ∃ L, L = (logB rs).length := ⟨_, rfl⟩
    rw [← hL] at h4 hv hlen
    obtain ⟨s, hs⟩ : ∃ s : ByteArray, s = ⟨((logB rs).drop (L - 4)).toArray⟩ := ⟨_, rfl⟩
    have hsl : s.data.toList = (logB rs).drop (L - 4) := by rw [hs]
    have hs4 : s.size = 4 := by
      have : s.data.toList.length = s.size := rfl
      rw [← this, hsl, List.length_drop]; omega
    rw [← hsl] at hv
    have hi4 : ((L - 4 : Nat) : Int) = (L : Int) - 4 := by omega
    have HSZ : Hid (∀ n, Calls Tryz.prog 43 #[.pointer (some ⟨d, 0, none⟩), .int .i64 0] (w.drewN n) fun e w' => e = .returned (.int .i64 L) ∧ w' = w.drewN n) := Lib.hid (fun n => (size_ok 0 S d ops _ (HD n) (by omega)).mono fun e w' ⟨h1, h2⟩ => ⟨by rw [h1, hp, hL], h2⟩)
    have HRD : Hid (∀ n, Calls Tryz.prog 42 #[.pointer (some ⟨d, 0, none⟩), .int .i64 0, .int .i64 ((L : Int) - 4), .int .i64 4] (w.drewN n) fun e w' => e = .returned (.tuple #[.string s, .int .i64 0]) ∧ w' = w.drewN n) := Lib.hid (fun n => by
      rw [← hi4]
      refine (read_ok 0 (L - 4) 4 S d ops _ (HD n) (by omega) (by rw [hp]; omega)).mono fun e w' ⟨h1, h2⟩ => ⟨?_, h2⟩
      rw [h1, hp, hs, List.take_of_length_le (by rw [List.length_drop]; omega)])
    have HWO : Hid (∀ W c b, ReadsB W (some ⟨b, 0, none⟩) s.data.toList → Calls Tryz.prog 89 #[.slice (some ⟨b, 0, none⟩) s.size c] W fun e w' => e = .returned (.int .i64 rs.length) ∧ W = w') := Lib.hid (fun W c b hR => (wordOf_at _ s.data.toList s.size c W rfl (by omega) hR).mono fun e w' ⟨h1, h2⟩ => ⟨by rw [h1, hv], h2⟩)
    have hw1 : IntKind.i64.wrap ((L : Int) - 4) = (L : Int) - 4 := IntWalk.i64_in _ (by omega)
    have hs4' : s.size ≤ 4 := by omega
    have hL0 : ¬ ((L : Int) - 4 < 0) := by omega
    clear hp hrs HD h hl hL hs hsl hs4 hv hi4 hrn
    go_enter Tryz.func81, Tryz.ntmps81
    go_wp2_with fail
    refine (HG.out _ hself).mono ?_
    rintro e w1 ⟨rfl, hw⟩
    subst w1
    go_wp2_with fail
    go_quiet ((first | (go_at_call 43; exact Calls.quiet_of_same (HSZ.out _)) | (go_at_call 42; exact Calls.quiet_of_same (HRD.out _))))
    obtain ⟨c, W, hcv, hc, hR, hbW⟩ := bytesOf_reads (w.drewN nq) s
    have HR := Lib.hid hR; have HBW := Lib.hid ((below_drewN w nq).trans hbW); clear hc hR hbW
    go_wp2_with fail
    refine (HWO.out _ _ _ HR.out).mono ?_
    rintro e w3 ⟨rfl, rfl⟩
    go_wp2
    go_ret
    exact ⟨rfl, HBW.out⟩

set_option maxHeartbeats 400000 in
theorem len_nobody (p : Value) (w : World) (hp : Calls Tryz.prog 79 #[p] w fun e w' => e = .returned (.bool false) ∧ w' = w) :
    Calls Tryz.prog 81 #[p] w fun e w' => e = .returned (.int .i64 0) ∧ w' = w := by
  have HP := Lib.hid hp; clear hp
  go_enter Tryz.func81, Tryz.ntmps81
  go_wp2_with fail
  refine HP.out.mono ?_
  rintro e w' ⟨rfl, hw⟩
  subst w'
  go_wp2
  go_ret
  exact ⟨rfl, rfl⟩

set_option maxHeartbeats 400000 in
theorem reset_nobody (p : Value) (w : World) (hp : Calls Tryz.prog 79 #[p] w fun e w' => e = .returned (.bool false) ∧ w' = w) :
    Calls Tryz.prog 62 #[p] w fun e w' => e = .returned (.int .i64 1) ∧ w' = w := by
  have HP := Lib.hid hp; clear hp
  go_enter Tryz.func62, Tryz.ntmps62
  go_wp2_with fail
  refine HP.out.mono ?_
  rintro e w' ⟨rfl, hw⟩
  subst w'
  go_wp2
  go_ret
  exact ⟨rfl, rfl⟩

set_option maxHeartbeats 400000 in
theorem append_nobody (p : Value) (s : ByteArray) (w : World) (hp : Calls Tryz.prog 79 #[p] w fun e w' => e = .returned (.bool false) ∧ w' = w) :
    Calls Tryz.prog 57 #[p, .string s] w fun e w' => e = .returned (.int .i64 1) ∧ w' = w := by
  have HP := Lib.hid hp; clear hp
  go_enter Tryz.func57, Tryz.ntmps57
  go_wp2_with fail
  refine HP.out.mono ?_
  rintro e w' ⟨rfl, hw⟩
  subst w'
  go_wp2
  go_ret
  exact ⟨rfl, rfl⟩

set_option maxHeartbeats 800000 in
theorem reset_ok (S : Nat → Prop) (l d : Nat) (ops : List RawOp) (w : World) (h : DiskAt S d ops w) (hl : LogOn l d w) (hlen : ops.length ≤ 4398046511104) :
    Calls Tryz.prog 62 #[.pointer (some ⟨l, 0, none⟩)] w fun e w' => e = .returned (.int .i64 0) ∧ DiskAt (More S w.heap.size) d (ops ++ [.trim 0 0]) w' ∧ Kept S w w' := by
  have hdisk := hl.disk
  have HG := Lib.hid (lgiven_self l w hl.self)
  have HT := Lib.hid (trim_ok 0 0 S d ops w h hlen (by omega) (by omega))
  clear h hl hlen
  go_enter Tryz.func62, Tryz.ntmps62
  go_wp2_with fail
  refine HG.out.mono ?_
  rintro e w1 ⟨rfl, hw⟩
  subst w1
  go_wp2_with fail
  refine HT.out.mono ?_
  rintro e w2 ⟨rfl, h1, h2⟩
  have H1 := Lib.hid h1; have H2 := Lib.hid h2; clear h1 h2
  go_wp2
  go_ret
  exact ⟨rfl, H1.out, H2.out⟩
end Go.Proofs.YtgboeolnojpehaaGreatDoor

/- The contract of a log's Append: for every text, on whatever log. -/
set_option maxRecDepth 100000
namespace Go.Proofs.YtgboeolnojpehaaGreatDoor
open Go.RowKit

/-- Behind each of these raw writes file 0 holds as many records. -/
def IsLog (ops : List RawOp) (rs : List ByteArray) : Prop := ops.length = rs.length ∧ ∀ n, n ≤ rs.length → play (ops.take n) 0 = logB (rs.take n)
theorem IsLog.nil : IsLog [] [] := ⟨rfl, fun n hn => by
  have : n = 0 := by simpa using hn
  subst this
  rfl⟩
theorem IsLog.now {ops : List RawOp} {rs : List ByteArray} (h : IsLog ops rs) : play ops 0 = logB rs := by
  have := h.2 rs.length (Nat.le_refl _)
  rwa [List.take_length, ← h.1, List.take_length] at this
theorem IsLog.take {ops : List RawOp} {rs : List ByteArray} (h : IsLog ops rs) {n : Nat} (hn : n ≤ rs.length) : IsLog (ops.take n) (rs.take n) := by
  refine ⟨by rw [List.length_take, List.length_take, h.1], fun m hm => ?_⟩
  rw [List.length_take, Nat.min_eq_left hn] at hm
  rw [List.take_take, List.take_take, Nat.min_eq_left hm]
  exact h.2 m (by omega)
theorem IsLog.snoc {ops : List RawOp} {rs : List ByteArray} (h : IsLog ops rs) (s : ByteArray) : IsLog (ops ++ [.put 0 (logB rs).length ⟨(frm s (rs.length + 1)).toArray⟩]) (rs ++ [s]) := by
  refine ⟨by simp [h.1], fun n hn => ?_⟩
  rw [List.length_append, List.length_singleton] at hn
  by_cases hlt : n ≤ rs.length
  · rw [List.take_append_of_le_length (by rw [h.1]; exact hlt), List.take_append_of_le_length hlt]
    exact h.2 n hlt
  · obtain rfl : n = rs.length + 1 := by omega
    rw [List.take_of_length_le (by simp [h.1]), List.take_of_length_le (by simp), play_snoc, logB_snoc]
    simp only [RawOp.run, upd_same, h.now, putL_end]

/-- What Append answers. -/
def appCode (rs : List ByteArray) (s : ByteArray) : Int := if s.size = 0 ∨ 1048576 < s.size then 30 else if 4194304 < (logB rs).length + s.size + 8 then 2 else 0
/-- The records behind Append. -/
def appRecs (rs : List ByteArray) (s : ByteArray) : List ByteArray := if appCode rs s = 0 then rs ++ [s] else rs

/-- A disk on whose file 0 a log's records stand; all its blocks are of S. -/
structure DiskLog (B d : Nat) (S : Nat → Prop) (ops : List RawOp) (rs : List ByteArray) (w : World) : Prop where
  disk : DiskAt S d ops w
  low : ∀ k, S k → B ≤ k ∧ k < w.heap.size
  hist : IsLog ops rs
  recs : Recs rs
theorem DiskLog.len {B d : Nat} {S : Nat → Prop} {ops : List RawOp} {rs : List ByteArray} {w : World} (h : DiskLog B d S ops rs w) : (logB rs).length ≤ 4194304 ∧ 9 * rs.length ≤ 4194304 := by
  have h1 := play_length h.disk.1 0
  rw [h.hist.now] at h1
  have := logB_length h.recs
  omega
theorem DiskLog.below {B d : Nat} {S : Nat → Prop} {ops : List RawOp} {rs : List ByteArray} {w w' : World} (h : DiskLog B d S ops rs w) (hb : Below w.heap.size w w') : DiskLog B d S ops rs w' :=
  ⟨h.disk.below hb, fun k hk => ⟨(h.low k hk).1, Nat.lt_of_lt_of_le (h.low k hk).2 hb.size⟩, h.hist, h.recs⟩
theorem DiskLog.kept {B d : Nat} {S T : Nat → Prop} {ops : List RawOp} {rs : List ByteArray} {w w' : World} (h : DiskLog B d S ops rs w) (hk : Kept T w w') (hd : ∀ k, k < w.heap.size → S k → ¬ T k) : DiskLog B d S ops rs w' :=
  ⟨h.disk.kept hk hd, fun k hk' => ⟨(h.low k hk').1, Nat.lt_of_lt_of_le (h.low k hk').2 hk.size⟩, h.hist, h.recs⟩

/-- What Append leaves. -/
def AppPost (B d : Nat) (S : Nat → Prop) (rs : List ByteArray) (s : ByteArray) (w : World) (e : Ending) (w' : World) : Prop :=
  e = .returned (.int .i64 (appCode rs s)) ∧ ∃ S' ops', DiskLog B d S' ops' (appRecs rs s) w' ∧ Kept S w w' ∧ ∀ k, k < w.heap.size → S' k → S k

theorem app_same {B d : Nat} {S : Nat → Prop} {ops : List RawOp} {rs : List ByteArray} {s : ByteArray} {w w' : World} (h : DiskLog B d S ops rs w) (hb : Below w.heap.size w w') (hc : appCode rs s ≠ 0) :
    ∃ S' ops', DiskLog B d S' ops' (appRecs rs s) w' ∧ Kept S w w' ∧ ∀ k, k < w.heap.size → S' k → S k :=
  ⟨S, ops, by rw [appRecs, if_neg hc]; exact h.below hb, Kept.ofBelow hb, fun _ _ hk => hk⟩

set_option maxHeartbeats 400000 in
theorem append_bad (B l d : Nat) (S : Nat → Prop) (ops : List RawOp) (rs : List ByteArray) (s : ByteArray) (w : World) (h : DiskLog B d S ops rs w) (hl : LogOn l d w) (hs : s.size = 0 ∨ 1048576 < s.size) :
    Calls Tryz.prog 57 #[.pointer (some ⟨l, 0, none⟩), .string s] w (AppPost B d S rs s w) := by
  have HG := Lib.hid (lgiven_self l w hl.self)
  have hc : appCode rs s = 30 := by rw [appCode, if_pos hs]
  have HP := Lib.hid (show AppPost B d S rs s w (.returned (.int .i64 30)) w from ⟨by rw [hc], app_same h (Below.refl _ _) (by rw [hc]; decide)⟩)
  have hcase : s.toList.isEmpty = true ∨ s.toList.isEmpty = false ∧ (1048576 : Int) < s.size := by
    cases he : s.toList.isEmpty
    · refine .inr ⟨rfl, ?_⟩
      rcases hs with h0 | h0
      · exfalso
        have : s.data.toList = [] := List.eq_nil_of_length_eq_zero (show s.size = 0 from h0)
        rw [ByteArray.toList_eq, this] at he
        cases he
      · omega
    · exact .inl rfl
  clear h hl hs hc
  rcases hcase with he | ⟨he, hgt⟩
  all_goals
    go_enter Tryz.func57, Tryz.ntmps57
    go_wp2_with fail
    refine HG.out.mono ?_
    rintro e w' ⟨rfl, hw⟩
    subst w'
    go_wp2
    go_ret
    exact HP.out

set_option maxHeartbeats 3200000 in
theorem append_good (B l d : Nat) (S : Nat → Prop) (ops : List RawOp) (rs : List ByteArray) (s : ByteArray) (w : World) (h : DiskLog B d S ops rs w) (hl : LogOn l d w) (ho : ¬ S l) (hs : ¬ (s.size = 0 ∨ 1048576 < s.size)) :
    Calls Tryz.prog 57 #[.pointer (some ⟨l, 0, none⟩), .string s] w (AppPost B d S rs s w) := by
  have HG := Lib.hid (lgiven_self l w hl.self)
  have hdisk := hl.disk
  have hlw := hl.lt
  obtain ⟨hlen, hn9⟩ := h.len
  have hll := h.hist.1
  obtain ⟨L, hL⟩ : ∃ L, L = (logB rs).length := ⟨_, rfl⟩
  obtain ⟨n, hn⟩ : ∃ n, n = rs.length := ⟨_, rfl⟩
  obtain ⟨F, hF⟩ : ∃ F : ByteArray, F = ⟨(frm s (n + 1)).toArray⟩ := ⟨_, rfl⟩
  have hFs : F.size = s.size + 8 := by rw [hF, str_size, frm_length]
  have he : s.toList.isEmpty = false := by
    rw [ByteArray.toList_eq]
    cases e : s.data.toList with
    | nil => exact absurd (Or.inl (show s.size = 0 from by have : s.data.toList.length = s.size := rfl; rw [e] at this; exact this.symm)) hs
    | cons c r => rfl
  have hgt : ¬ (1048576 : Int) < s.size := by omega
  have HH := Lib.hid h
  rw [← hn] at hn9
  rw [← hL] at hlen
  have hn1 : ((n : Int) + 1) = ((n + 1 : Nat) : Int) := by omega
  obtain ⟨c, hc⟩ : ∃ c, c = appCode rs s := ⟨_, rfl⟩
  have HSZ : Hid (∀ W, Below w.heap.size w W → Calls Tryz.prog 43 #[.pointer (some ⟨d, 0, none⟩), .int .i64 0] W fun e w' => e = .returned (.int .i64 L) ∧ W = w') := Lib.hid (fun W hb => (size_ok 0 S d ops W (HH.out.disk.below hb) (by omega)).mono fun e w' ⟨h1, h2⟩ => ⟨by rw [h1, HH.out.hist.now, hL], h2.symm⟩)
  have HLN : Hid (∀ W, Below w.heap.size w W → Calls Tryz.prog 81 #[.pointer (some ⟨l, 0, none⟩)] W fun e w' => e = .returned (.int .i64 n) ∧ Below w.heap.size w w') := Lib.hid (fun W hb => (len_ok S l d ops rs W (HH.out.disk.below hb) (hl.below hb) HH.out.hist.now HH.out.recs).mono fun e w' ⟨h1, h2⟩ => ⟨by rw [h1, hn], hb.trans (h2.mono hb.size)⟩)
  have HFR : Hid (∀ W, Below w.heap.size w W → Calls Tryz.prog 80 #[.string s, .int .i64 ((n : Int) + 1)] W fun e w' => e = .returned (.string F) ∧ Below w.heap.size w w') := Lib.hid (fun W hb => by
    rw [hn1]
    exact (framed_any s (n + 1) W (by omega) (by omega)).mono fun e w' ⟨h1, h2⟩ => ⟨by rw [h1, hF], hb.trans (h2.mono hb.size)⟩)
  have HK : Hid (∀ W, Below w.heap.size w W → W.cell? ⟨l, 1, none⟩ = some (.pointer (some ⟨d, 0, none⟩))) := Lib.hid (fun W hb => (hl.below hb).disk)
  have hb0 := (Below.refl w.heap.size w).drew
  have HWR : Hid (∀ W, Below w.heap.size w W → Calls Tryz.prog 60 #[.pointer (some ⟨d, 0, none⟩), .int .i64 0, .int .i64 L, .string F] W fun e w' => e = .returned (.int .i64 (if c = 0 then 0 else 1)) ∧ w'.cell? ⟨l, 1, none⟩ = some (.pointer (some ⟨d, 0, none⟩)) ∧ Hid (AppPost B d S rs s w (.returned (.int .i64 c)) w')) := Lib.hid (fun W hb => by
    by_cases hfit : L + F.size ≤ 4194304
    · have hc0 : c = 0 := by rw [hc, appCode, if_neg hs, if_neg (by omega)]
      refine (write_ok 0 L F S d ops W (HH.out.disk.below hb) (by omega) (by omega) (by omega) hfit).mono ?_
      rintro e w' ⟨h1, h2, h3⟩
      refine ⟨by rw [h1, hc0]; rfl, ((hl.below hb).kept h3 ho).disk, Lib.hid ⟨by rw [hc], ?_⟩⟩
      have hW := hb.size
      refine ⟨fun k => More S W.heap.size k ∧ k < w'.heap.size, ops ++ [.put 0 L F], ⟨h2.bound, ?_, ?_, ?_⟩, (Kept.ofBelow hb).trans h3 (fun _ hi => .inl hi), ?_⟩
      · rintro k ⟨hk, hk2⟩
        refine ⟨?_, hk2⟩
        rcases hk with hk | hk
        · exact (HH.out.low k hk).1
        · have := HH.out.low d HH.out.disk.at
          omega
      · rw [appRecs, if_pos (by rw [← hc, hc0]), hL, hF, hn]
        exact HH.out.hist.snoc s
      · rw [appRecs, if_pos (by rw [← hc, hc0])]
        exact HH.out.recs.snoc (by omega) (by omega)
      · rintro k hk ⟨h4, _⟩
        exact h4.elim id (fun h => by omega)
    · have hc2 : c = 2 := by rw [hc, appCode, if_neg hs, if_pos (by omega)]
      refine (write_no 0 L F S d ops W (HH.out.disk.below hb) (by omega) (by omega)).mono ?_
      rintro e w' ⟨h1, h2⟩
      subst h2
      exact ⟨by rw [h1, hc2]; rfl, (hl.below hb).disk, Lib.hid ⟨by rw [hc], app_same HH.out hb (by rw [← hc, hc2]; decide)⟩⟩)
  have hc3 : c = 0 ∨ c = 2 := by
    rw [hc, appCode, if_neg hs]
    split <;> simp
  have hw1 : IntKind.i64.wrap ((n : Int) + 1) = (n : Int) + 1 := IntWalk.i64_in _ (by omega)
  clear h hl hs hL hn hF hc hll hn1 hFs
  obtain ⟨k, hk, HW⟩ : ∃ k : Int, (k = 0 ∧ c = 0 ∨ k = 1 ∧ c = 2) ∧ Hid (∀ W, Below w.heap.size w W → Calls Tryz.prog 60 #[.pointer (some ⟨d, 0, none⟩), .int .i64 0, .int .i64 L, .string F] W fun e w' => e = .returned (.int .i64 k) ∧ w'.cell? ⟨l, 1, none⟩ = some (.pointer (some ⟨d, 0, none⟩)) ∧ Hid (AppPost B d S rs s w (.returned (.int .i64 c)) w')) := by
    rcases hc3 with rfl | rfl
    · exact ⟨0, .inl ⟨rfl, rfl⟩, HWR⟩
    · exact ⟨1, .inr ⟨rfl, rfl⟩, HWR⟩
  clear HWR hc3
  rcases hk with ⟨rfl, rfl⟩ | ⟨rfl, rfl⟩
  all_goals
    go_enter Tryz.func57, Tryz.ntmps57
    go_wp2_with fail
    refine HG.out.mono ?_
    rintro e w' ⟨rfl, hw⟩
    subst w'
    go_wp2_with fail
    go_region_held3 (fun w' => w'.cell? ⟨l, 1, none⟩ = some (.pointer (some ⟨d, 0, none⟩))) (first | assumption | exact HK.out _ (by assumption))
      (first
        | (go_at_call 43; refine (HSZ.out _ (by assumption)).mono ?_; rintro e w' ⟨rfl, rfl⟩)
        | (go_at_call 81; refine (HLN.out _ (by assumption)).mono ?_; rintro e w' ⟨rfl, hb'⟩)
        | (go_at_call 80; refine (HFR.out _ (by assumption)).mono ?_; rintro e w' ⟨rfl, hb'⟩)
        | (go_at_call 60; refine (HW.out _ (by assumption)).mono ?_; rintro e w' ⟨rfl, hcl, hpost⟩))
    all_goals go_wp2
    all_goals go_ret
    all_goals exact Hid.out (by assumption)
end Go.Proofs.YtgboeolnojpehaaGreatDoor

/- Append at whatever text; the law's same and awake. -/
set_option maxRecDepth 100000
namespace Go.Proofs.YtgboeolnojpehaaGreatDoor
open Go.RowKit

theorem append_any (B l d : Nat) (S : Nat → Prop) (ops : List RawOp) (rs : List ByteArray) (s : ByteArray) (w : World) (h : DiskLog B d S ops rs w) (hl : LogOn l d w) (ho : ¬ S l) :
    Calls Tryz.prog 57 #[.pointer (some ⟨l, 0, none⟩), .string s] w (AppPost B d S rs s w) := by
  by_cases hs : s.size = 0 ∨ 1048576 < s.size
  · exact append_bad B l d S ops rs s w h hl hs
  · exact append_good B l d S ops rs s w h hl ho hs

/-- Texts that can be read from a slice. -/
def Texts (w : World) (v : Value) (rs : List ByteArray) : Prop :=
  ∃ a c, v = .slice a rs.length c ∧ (rs = [] ∨ ∃ b off, a = some ⟨b, off, none⟩ ∧ b < w.heap.size ∧ ∀ j (h : j < rs.length), w.cell? ⟨b, off + j, none⟩ = some (.string rs[j]))
theorem Strs.texts {B : Nat} {w : World} {v : Value} {rs : List ByteArray} (h : Strs B w v rs) : Texts w v rs := by
  obtain ⟨a, c, rfl⟩ := h.shape
  refine ⟨a, c, rfl, ?_⟩
  rcases h.2 with ⟨_, h0⟩ | ⟨g, cap, cur, hv, hB, hg, _⟩
  · exact .inl (List.eq_nil_of_length_eq_zero h0)
  · injection hv with hv _ _
    subst hv
    refine .inr ⟨g, 0, rfl, (Array.getElem?_eq_some_iff.1 hg).1, fun j hj => ?_⟩
    have := h.cells (g := g) rfl j (.string rs[j]) (by simp [hj])
    rw [Addr.add_lit] at this
    exact this
theorem Texts.below {w w' : World} {v : Value} {rs : List ByteArray} (h : Texts w v rs) (hb : Below w.heap.size w w') : Texts w' v rs := by
  obtain ⟨a, c, rfl, h⟩ := h
  refine ⟨a, c, rfl, h.imp id ?_⟩
  rintro ⟨b, off, h1, h2, h3⟩
  exact ⟨b, off, h1, Nat.lt_of_lt_of_le h2 hb.size, fun j hj => (hb.cell (p := ⟨b, off + j, none⟩) h2).trans (h3 j hj)⟩

end Go.Proofs.YtgboeolnojpehaaGreatDoor

/- The law's awake is true. -/
set_option maxRecDepth 100000
namespace Go.Proofs.YtgboeolnojpehaaGreatDoor
open Go.RowKit

/-- A disk with a log on it: Open's log lies at block l. -/
structure Two (B l d : Nat) (S : Nat → Prop) (ops : List RawOp) (rs : List ByteArray) (w : World) : Prop where
  dl : DiskLog B d S ops rs w
  on : LogOn l d w
  out : ¬ S l
  ge : B ≤ l

theorem new_log (w : World) :
    Calls Tryz.prog 6 #[] w fun e w' => e = .returned (.pointer (some ⟨w.heap.size, 0, none⟩)) ∧ DiskLog w.heap.size w.heap.size (fun k => From w.heap.size k ∧ k < w'.heap.size) [] [] w' ∧ Below w.heap.size w w' := by
  refine (new_disk w).mono ?_
  rintro e w' ⟨rfl, h, hb⟩
  exact ⟨rfl, ⟨h.bound, fun k hk => hk, IsLog.nil, Recs.nil⟩, hb⟩

theorem open_log (B d : Nat) (S : Nat → Prop) (ops : List RawOp) (rs : List ByteArray) (w : World) (h : DiskLog B d S ops rs w) :
    Calls Tryz.prog 21 #[.pointer (some ⟨d, 0, none⟩)] w fun e w' => ∃ v, e = .returned (.tuple #[.pointer (some ⟨w.heap.size, 0, none⟩), v, .int .i64 0]) ∧ Two B w.heap.size d S ops rs w' ∧ Strs w.heap.size w' v rs ∧ Below w.heap.size w w' := by
  refine (open_ok S d ops rs w h.disk h.hist.now h.recs).mono ?_
  rintro e w' ⟨v, rfl, h1, h2, h3⟩
  refine ⟨v, rfl, ⟨h.below h3, h1, fun hS => Nat.lt_irrefl _ (h.low _ hS).2, ?_⟩, h2, h3⟩
  have := h.low d h.disk.at
  omega

/-- What Append leaves of a log and its disk. -/
def TwoPost (B l d : Nat) (rs : List ByteArray) (s : ByteArray) (S : Nat → Prop) (w : World) (e : Ending) (w' : World) : Prop :=
  e = .returned (.int .i64 (appCode rs s)) ∧ ∃ S' ops', Two B l d S' ops' (appRecs rs s) w' ∧ Kept S w w' ∧ ∀ k, k < w.heap.size → S' k → S k
theorem append_log (B l d : Nat) (S : Nat → Prop) (ops : List RawOp) (rs : List ByteArray) (s : ByteArray) (w : World) (h : Two B l d S ops rs w) :
    Calls Tryz.prog 57 #[.pointer (some ⟨l, 0, none⟩), .string s] w (TwoPost B l d rs s S w) := by
  refine (append_any B l d S ops rs s w h.dl h.on h.out).mono ?_
  rintro e w' ⟨h1, S', ops', h2, h3, h4⟩
  exact ⟨h1, S', ops', ⟨h2, h.on.kept h3 h.out, fun hS => h.out (h4 l h.on.lt hS), h.ge⟩, h3, h4⟩
theorem Two.toBelow {B l d : Nat} {S : Nat → Prop} {ops : List RawOp} {rs : List ByteArray} {w w' : World} (h : Two B l d S ops rs w) (hk : Kept S w w') : Below B w w' :=
  hk.toBelow (by have := h.dl.low d h.dl.disk.at; omega) (fun k hk => (h.dl.low k hk).1)

def sA : ByteArray := ⟨#[97]⟩
def sB : ByteArray := ⟨#[98]⟩
theorem app1 : appCode [] sA = 0 ∧ appRecs [] sA = [sA] := by
  have h : appCode [] sA = 0 := by rfl
  exact ⟨h, by rw [appRecs, if_pos h]; rfl⟩
theorem app2 : appCode [sA] sB = 0 ∧ appRecs [sA] sB = [sA, sB] := by
  have h : appCode [sA] sB = 0 := by rfl
  exact ⟨h, by rw [appRecs, if_pos h]; rfl⟩

theorem texts_ab (w : World) : Texts (w.alloc (.cells #[.string sA, .string sB] 9)) (.slice (some ⟨w.heap.size, 0, none⟩) 2 2) [sA, sB] := by
  refine ⟨_, 2, rfl, .inr ⟨w.heap.size, 0, rfl, by simp, fun j hj => ?_⟩⟩
  have hj' : j < 2 := hj
  rw [Nat.zero_add, Lib.cell_of_heap (heap_alloc_new w _)]
  have : j = 0 ∨ j = 1 := by omega
  rcases this with rfl | rfl <;> rfl

end Go.Proofs.YtgboeolnojpehaaGreatDoor
