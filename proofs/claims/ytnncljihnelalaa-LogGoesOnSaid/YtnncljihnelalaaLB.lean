/- The contracts of a log's wordOf, word, framed: for every argument. -/
import Derived.Test.YtnncljihnelalaaKH
import Derived.Test.YtnncljihnelalaaLA
import Derived.Laws.BitsAllLaws
import Derived.Deep.QuietTactic
import Derived.BigQuiet
import Derived.IntWalk
set_option maxRecDepth 100000
namespace Go.Proofs.Ytnncljihnelalaa
open Go.RowKit

/-- A slice's cells, read as bytes. -/
def ReadsB (w : World) (a : Option Addr) (l : List UInt8) : Prop :=
  l = [] ∨ ∃ b off, a = some ⟨b, off, none⟩ ∧ b < w.heap.size ∧ ∀ j (h : j < l.length), w.cell? ⟨b, off + j, none⟩ = some (.int .u8 (l[j].toNat : Int))

theorem ReadsB.at {w : World} {a : Option Addr} {l : List UInt8} (h : ReadsB w a l) (hl : 0 < l.length) : ∃ b off, a = some ⟨b, off, none⟩ ∧ b < w.heap.size ∧ ∀ j (h : j < l.length), w.cell? ⟨b, off + j, none⟩ = some (.int .u8 (l[j].toNat : Int)) := by
  rcases h with rfl | h
  · simp at hl
  · exact h
theorem ReadsB.below {w w' : World} {a : Option Addr} {l : List UInt8} (h : ReadsB w a l) (hb : Below w.heap.size w w') : ReadsB w' a l := by
  rcases h with h | ⟨b, off, h1, h2, h3⟩
  · exact .inl h
  · exact .inr ⟨b, off, h1, Nat.lt_of_lt_of_le h2 hb.size, fun j hj => (hb.cell (p := ⟨b, off + j, none⟩) h2).trans (h3 j hj)⟩

theorem or_i64 (N : Nat) (b : Nat) (hN : N < 36028797018963968) (hb : b < 256) : bits BinOp.or IntKind.i64 ((N : Int) * 256) (b : Int) = ((N * 256 + b : Nat) : Int) := by
  have h1 : (BitVec.ofInt 64 ((N : Int) * 256)).toNat = N * 256 := by rw [BitVec.toNat_ofInt]; omega
  have h2 : (BitVec.ofInt 64 (b : Int)).toNat = b := by rw [BitVec.toNat_ofInt]; omega
  show IntKind.i64.wrap ((BitVec.ofInt 64 ((N : Int) * 256) ||| BitVec.ofInt 64 (b : Int)).toNat : Int) = _
  rw [BitVec.toNat_or, h1, h2, nat_join 8 (N * 256) b (by omega) hb, IntKind.wrap_i64]
  omega

set_option maxHeartbeats 1600000 in
theorem wordOf_any (a : Option Addr) (l : List UInt8) (c : Nat) (w : World) (hl : l.length ≤ 6) (hR : ReadsB w a l) :
    Calls Try.prog 23 #[.slice a l.length c] w fun e w' => e = .returned (.int .i64 (v4 l)) ∧ w' = w := by
  have HR := Lib.hid hR; clear hR
  go_enter Try.func23, Try.ntmps23
  go_wp2
  go_loop [3, 5, 8] (fun n _ i => ∃ k : Nat, k ≤ l.length ∧ i = .int .i64 k ∧ n = .int .i64 (v4 (l.take k))) (fun _ _ i => l.length - (intOf i).toNat)
  case atStart => exact ⟨0, by omega, rfl, rfl⟩
  case round =>
    obtain ⟨k, hk, rfl, rfl⟩ := hrel
    by_cases hlt : k < l.length
    · obtain ⟨b, off, rfl, _, hc⟩ := HR.out.at (by omega)
      have hck := hc k hlt
      clear hc
      have hN : v4 (l.take k) < 36028797018963968 := by
        refine Nat.lt_of_lt_of_le (v4_lt _ 6 ?_) (by decide)
        have := List.length_take_le k l
        omega
      have hcb := l[k].toNat_lt
      have hor := or_i64 (v4 (l.take k)) l[k].toNat hN hcb
      have HS : Hid (v4 (l.take (k + 1)) = v4 (l.take k) * 256 + l[k].toNat) := Lib.hid (by rw [List.take_succ_eq_append_getElem hlt, v4_snoc])
      have HOR := Lib.hid hor; clear hor
      go_wp2_with fail
      go_round
      case rel => exact ⟨k + 1, by omega, by go_num, by rw [HS.out, HOR.out]⟩
      case measure => simp [intOf]; omega
    · obtain rfl : k = l.length := by omega
      go_wp2
      go_ret
      exact ⟨rfl, rfl⟩

theorem w4_cells (w : World) (n : Nat) (hn : n < 4294967296) :
    (convert 42 9 (.slice (some ⟨w.heap.size, 0, none⟩) 4 4)).run Try.prog (w.alloc (.cells #[.int .u8 ((n : Int) / 16777216), .int .u8 ((n : Int) / 65536 % 256), .int .u8 ((n : Int) / 256 % 256), .int .u8 ((n : Int) % 256)] 5)) =
      .ok (.string ⟨(w4 n).toArray⟩) (w.alloc (.cells #[.int .u8 ((n : Int) / 16777216), .int .u8 ((n : Int) / 65536 % 256), .int .u8 ((n : Int) / 256 % 256), .int .u8 ((n : Int) % 256)] 5)) := by
  refine run_convert_bytes_back (P := Try.prog) _ 42 9 5 ⟨w.heap.size, 0, none⟩ 4 (w4 n) Try.underlying42 Try.underlying5 Try.underlying9 ?_
  intro j hj
  have hj' : j < 4 := hj
  have hc : j = 0 ∨ j = 1 ∨ j = 2 ∨ j = 3 := by omega
  rw [show (⟨w.heap.size, 0, none⟩ : Addr).add j = ⟨w.heap.size, j, none⟩ by rw [Addr.add_lit, Nat.zero_add], Lib.cell_of_heap (b := w.heap.size) (cs := #[.int .u8 ((n : Int) / 16777216), .int .u8 ((n : Int) / 65536 % 256), .int .u8 ((n : Int) / 256 % 256), .int .u8 ((n : Int) % 256)]) (heap_alloc_new w _)]
  rcases hc with rfl | rfl | rfl | rfl <;> simp [w4] <;> omega

set_option maxHeartbeats 400000 in
theorem word_any (n : Nat) (w : World) (hn : n < 4294967296) :
    Calls Try.prog 28 #[.int .i64 n] w fun e w' => e = .returned (.string ⟨(w4 n).toArray⟩) ∧ Below w.heap.size w w' := by
  have hcv := w4_cells w n hn
  go_enter Try.func28, Try.ntmps28
  go_wp2
  go_ret
  exact ⟨rfl, (Below.refl _ _).alloc (Nat.le_refl _) _⟩

theorem bytes_app (a b : List UInt8) : (⟨a.toArray⟩ : ByteArray) ++ ⟨b.toArray⟩ = ⟨(a ++ b).toArray⟩ := ByteArray.ext (by simp)
theorem bytes_self (s : ByteArray) : s = ⟨s.data.toList.toArray⟩ := ByteArray.ext (by simp)

set_option maxHeartbeats 800000 in
theorem framed_any (r : ByteArray) (k : Nat) (w : World) (hr : r.size ≤ 1048576) (hk : k < 4294967296) :
    Calls Try.prog 20 #[.string r, .int .i64 k] w fun e w' => e = .returned (.string ⟨(frm r k).toArray⟩) ∧ Below w.heap.size w w' := by
  have hlen : ¬ 9223372036854775807 < (w4 r.size).length + r.size := by rw [w4_length]; omega
  have hlen2 : ¬ 9223372036854775807 < (w4 r.size).length + r.size + (w4 k).length := by rw [w4_length, w4_length]; omega
  go_enter Try.func20, Try.ntmps20
  go_wp2_with fail
  refine (word_any _ _ (by omega)).mono ?_
  rintro e w1 ⟨rfl, hb1⟩
  go_wp2_with fail
  refine (word_any _ _ hk).mono ?_
  rintro e w2 ⟨rfl, hb2⟩
  go_wp2
  go_ret
  refine ⟨?_, hb1.trans (hb2.mono hb1.size)⟩
  have e : (⟨(w4 r.size).toArray⟩ : ByteArray) ++ r ++ ⟨(w4 k).toArray⟩ = ⟨(frm r k).toArray⟩ := by
    conv => lhs; rw [bytes_self r, bytes_app, bytes_app]
    rfl
  rw [← e]
  rfl
end Go.Proofs.Ytnncljihnelalaa
