/- The contracts of the functions that hand the bytes of a datum to a function value. -/
import Derived.Test.YtnnmigglcpkomaaEB
import Derived.Test.YtnnmigglcpkomaaEA
set_option maxRecDepth 100000
namespace Go.Proofs.Ytnnmigglcpkomaa.Dm
open Go.RowKit

/-- A function value that takes bytes one by one: what it has taken so far is told by I. -/
structure Putter (F : Nat) (p : Value) (b B : Nat) (I : List UInt8 → World → Prop) : Prop where
  enters : ∀ args w, (callFunc F args).run Try.prog w = .ok (.enter F args) w
  put : ∀ (l : List UInt8) (w : World) (c : Int) (u : UInt8), c = (u.toNat : Int) → I l w → l.length ≤ 100000 → B ≤ w.heap.size →
    Calls Try.prog F #[.int .u8 c, p] w fun e w' => e = .returned (.tuple #[]) ∧ I (l ++ [u]) w' ∧ Below B w w' ∧ Lib.OthersKept 5 (some b) w w'
  alloc : ∀ l w o, I l w → I l (w.alloc o)
  low : ∀ l w, I l w → b < w.heap.size

/-- What a function that hands bytes on leaves behind. -/
def Fed (I : List UInt8 → World → Prop) (b B : Nat) (l : List UInt8) (w w' : World) : Prop :=
  I l w' ∧ Below B w w' ∧ Lib.OthersKept 5 (some b) w w'

theorem Fed.trans {I : List UInt8 → World → Prop} {b B : Nat} {l l' : List UInt8} {a c d : World} (h : Fed I b B l a c) (k : Fed I b B l' c d) : Fed I b B l' a d :=
  ⟨k.1, h.2.1.trans k.2.1, h.2.2.trans k.2.2⟩

set_option maxHeartbeats 400000 in
theorem eachOfInt_any {F : Nat} {p : Value} {b B : Nat} {I : List UInt8 → World → Prop} (P : Hid (Putter F p b B I)) (l : List UInt8) (n : Int) (w : World) (hI : Hid (I l w)) (hM : l.length ≤ 50000) (hB : B ≤ w.heap.size) :
    Calls Try.prog 79 #[.int .i64 n, .func (.func F) #[] #[p]] w fun e w' => e = .returned (.tuple #[]) ∧ Fed I b B (l ++ intB n) w w' := by
  have hen := P.out.enters
  go_enter Try.func79, Try.ntmps79
  go_wp2
  go_loopw [5] (fun i wr => ∃ m : Int, -1 ≤ m ∧ m ≤ 7 ∧ i = .int .i64 m ∧ Fed I b B (l ++ intTo n (7 - m).toNat) w wr) (fun i _ => (intOf i + 1).toNat)
  case atStart => exact ⟨7, by omega, by omega, rfl, by simpa [intTo] using hI.out, Below.refl _ _, Lib.OthersKept.refl _ _ _⟩
  case round =>
    obtain ⟨m, h1, h2, rfl, hb⟩ := hrel
    have HB := Lib.hid hb; clear hb
    by_cases hlt : 0 ≤ m
    · go_wp2_with fail
      refine (P.out.put _ _ _ (byt (uOf n / 2 ^ (8 * m).toNat)) (byt_nat _).symm HB.out.1 (by simp [intTo_length]; omega) (by have := HB.out.2.1.size; omega)).mono ?_
      rintro e w1 ⟨rfl, hf⟩
      have HF := Lib.hid (show Fed I b B _ _ _ from hf); clear hf
      go_wp2
      go_roundw
      case rel =>
        refine ⟨m - 1, by omega, by omega, rfl, ?_⟩
        have e1 : (7 - (m - 1)).toNat = (7 - m).toNat + 1 := by omega
        have e2 : (7 : Int) - ((7 - m).toNat : Nat) = m := by omega
        rw [e1, intTo_succ, e2, ← List.append_assoc]
        exact HB.out.trans HF.out
      case measure => simp [intOf]; omega
    · go_wp2
      go_end0
      refine ⟨rfl, ?_⟩
      have e1 : (7 - m).toNat = 8 := by omega
      have := HB.out
      rwa [e1] at this

set_option maxHeartbeats 800000 in
theorem eachOfText_any {F : Nat} {p : Value} {b B : Nat} {I : List UInt8 → World → Prop} (P : Hid (Putter F p b B I)) (l : List UInt8) (s : ByteArray) (w : World) (hI : Hid (I l w)) (hM : l.length ≤ 50000) (hs : s.size ≤ 10000) (hB : B ≤ w.heap.size) :
    Calls Try.prog 80 #[.string s, .func (.func F) #[] #[p]] w fun e w' => e = .returned (.tuple #[]) ∧ Fed I b B (l ++ textB s.data.toList) w w' := by
  have hen := P.out.enters
  have hlen : s.data.toList.length = s.size := rfl
  have HLEN := Lib.hid hlen; clear hlen
  go_enter Try.func80, Try.ntmps80
  go_wp2
  go_loopw [7] (fun i wr => ∃ j : Nat, j ≤ s.size ∧ i = .int .i64 j ∧ Fed I b B (l ++ textTo (s.data.toList.take j)) w wr) (fun i _ => s.size - (intOf i).toNat)
  case atStart => exact ⟨0, by omega, rfl, by simpa [textTo] using hI.out, Below.refl _ _, Lib.OthersKept.refl _ _ _⟩
  case round =>
    obtain ⟨j, h1, rfl, hb⟩ := hrel
    have HB := Lib.hid hb; clear hb
    have hl : (textTo (s.data.toList.take j)).length ≤ 2 * j := by
      have := textTo_length (s.data.toList.take j)
      have := List.length_take_le j s.data.toList
      omega
    by_cases hlt : j < s.size
    · have HT := Lib.hid (take_snoc s j hlt)
      go_wp2_with fail
      refine (P.out.put _ _ _ s[j] rfl HB.out.1 (by simp; omega) (by have := HB.out.2.1.size; omega)).mono ?_
      rintro e w1 ⟨rfl, hf⟩
      have HF := Lib.hid (show Fed I b B _ _ _ from hf); clear hf
      by_cases hz : s[j] = 0
      · have hz1 : ((s[j].toNat : Int) == 0) = true := by rw [hz]; rfl
        have HZ := Lib.hid hz; clear hz
        go_wp2_with fail
        refine (P.out.put _ _ _ 255 rfl HF.out.1 (by simp; omega) (by have := HB.out.2.1.size; have := HF.out.2.1.size; omega)).mono ?_
        rintro e w2 ⟨rfl, hf2⟩
        have HF2 := Lib.hid (show Fed I b B _ _ _ from hf2); clear hf2
        go_wp2
        go_roundw
        case rel =>
          refine ⟨j + 1, by omega, by go_num, ?_⟩
          rw [HT.out, textTo_snoc, if_pos HZ.out, ← List.append_assoc]
          have := HB.out.trans (HF.out.trans HF2.out)
          rw [HZ.out] at this
          simpa using this
        case measure => simp [intOf]; omega
      · have hz1 : ((s[j].toNat : Int) == 0) = false := by
          rw [beq_eq_false_iff_ne]
          intro h
          exact hz (UInt8.toNat_inj.1 (by simpa using h))
        have HZ := Lib.hid hz; clear hz
        go_wp2_with fail
        go_roundw
        case rel =>
          refine ⟨j + 1, by omega, by go_num, ?_⟩
          rw [HT.out, textTo_snoc, if_neg HZ.out, ← List.append_assoc]
          exact HB.out.trans HF.out
        case measure => simp [intOf]; omega
    · go_wp2_with fail
      refine (P.out.put _ _ _ 0 rfl HB.out.1 (by simp; omega) (by have := HB.out.2.1.size; omega)).mono ?_
      rintro e w1 ⟨rfl, hf⟩
      have HF := Lib.hid (show Fed I b B _ _ _ from hf); clear hf
      go_wp2_with fail
      refine (P.out.put _ _ _ 0 rfl HF.out.1 (by simp; omega) (by have := HB.out.2.1.size; have := HF.out.2.1.size; omega)).mono ?_
      rintro e w2 ⟨rfl, hf2⟩
      have HF2 := Lib.hid (show Fed I b B _ _ _ from hf2); clear hf2
      go_wp2
      go_end0
      refine ⟨rfl, ?_⟩
      have := HB.out.trans (HF.out.trans HF2.out)
      rw [List.take_of_length_le (by have := HLEN.out; omega)] at this
      simpa [textB] using this
end Go.Proofs.Ytnnmigglcpkomaa.Dm
