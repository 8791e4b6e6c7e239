/- The contracts of a disk's Write, Trim, Size, Writes, Read: for every disk that New or Cut gave and every argument, and for what is no disk. -/
import Derived.Test.YtnmeobbbcccgjaaKE
import Derived.Laws.IdiomStrings
set_option maxRecDepth 100000
namespace Go.Proofs.Ytnmeobbbcccgjaa
open Go.RowKit

def NoDisk (p : Value) (w : World) : Prop := Calls Try.prog 35 #[p] w fun e w' => e = .returned (.bool false) ∧ w' = w

theorem noDisk_nil (w : World) : NoDisk (.pointer none) w := given_nil w
theorem noDisk_zero (d : Nat) (w : World) (h : w.cell? ⟨d, 0, none⟩ = some (.pointer none)) : NoDisk (.pointer (some ⟨d, 0, none⟩)) w := given_zero d w h

set_option maxHeartbeats 1000000 in
theorem write_ok (f at' : Nat) (s : ByteArray) (S : Nat → Prop) (d : Nat) (ops : List RawOp) (w : World) (h : DiskAt S d ops w) (hlen : ops.length ≤ 4398046511104) (hs : s.size ≤ 9223372036854775807) (hf : f < 4) (hat : at' + s.size ≤ 4194304) :
    Calls Try.prog 22 #[.pointer (some ⟨d, 0, none⟩), .int .i64 f, .int .i64 at', .string s] w fun e w' => e = .returned (.int .i64 0) ∧ DiskAt (More S w.heap.size) d (ops ++ [.put f at' s]) w' ∧ Kept S w w' := by
  have hself := h.self
  have h1 : (f : Int) < 4 := by omega
  have h2 : ¬ ((at' : Int) < 0) := by omega
  have h3 : ¬ ((4194304 : Int) - s.size < at') := by omega
  have hD : decide (0 ≤ (f : Int) ∧ (f : Int) < 4) = true := by simp; omega
  have HH := Lib.hid h; clear h
  go_enter Try.func22, Try.ntmps22
  go_wp2_with (first
    | (go_at_call 35; refine (given_self d _ hself).mono ?_; rintro e w' ⟨rfl, hw⟩; subst w')
    | (go_at_call 36; refine (isFile_any _ _).mono ?_; rintro e w' ⟨rfl, hw⟩; subst w'; rw [hD])
    | (go_at_call 38; refine (clone_any s _ (by omega)).mono ?_))
  rintro e w1 ⟨rfl, hb1⟩
  have hd1 := HH.out.below hb1
  have HD1 := Lib.hid hd1; clear hd1
  go_wp2_with (go_at_call 37; refine (do_any (.put f at' s) S d ops _ HD1.out ⟨hf, hat⟩ hlen).mono ?_)
  rintro e w2 ⟨rfl, hd2, hk2⟩
  have HD2 := Lib.hid hd2; clear hd2
  have HK2 := Lib.hid hk2; clear hk2
  go_wp2
  go_ret
  have hsz := hb1.size
  exact ⟨rfl, HD2.out.mono (fun i hi => hi.imp id (fun h => by omega)), (Kept.ofBelow hb1).trans HK2.out (fun _ hi => .inl hi)⟩

set_option maxHeartbeats 1000000 in
theorem write_no (f at' : Int) (s : ByteArray) (S : Nat → Prop) (d : Nat) (ops : List RawOp) (w : World) (h : DiskAt S d ops w) (hs : s.size ≤ 9223372036854775807) (hn : ¬ (0 ≤ f ∧ f < 4 ∧ 0 ≤ at' ∧ at' + s.size ≤ 4194304)) :
    Calls Try.prog 22 #[.pointer (some ⟨d, 0, none⟩), .int .i64 f, .int .i64 at', .string s] w fun e w' => e = .returned (.int .i64 1) ∧ w' = w := by
  have hself := h.self
  clear h
  obtain ⟨b, hD⟩ : ∃ b, decide (0 ≤ f ∧ f < 4) = b := ⟨_, rfl⟩
  have hb : b = true → ¬ (0 ≤ at' ∧ at' + s.size ≤ 4194304) := by
    intro hb; rw [hb] at hD; have := of_decide_eq_true hD; omega
  clear hn
  cases b
  · go_enter Try.func22, Try.ntmps22
    go_wp2_with (first
      | (go_at_call 35; refine (given_self d _ hself).mono ?_; rintro e w' ⟨rfl, hw⟩; subst w')
      | (go_at_call 36; refine (isFile_any _ _).mono ?_; rintro e w' ⟨rfl, hw⟩; subst w'; rw [hD]))
    all_goals
      go_ret
      exact ⟨rfl, rfl⟩
  · have hb' := hb rfl
    clear hb
    by_cases h0 : at' < 0
    · go_enter Try.func22, Try.ntmps22
      go_wp2_with (first
        | (go_at_call 35; refine (given_self d _ hself).mono ?_; rintro e w' ⟨rfl, hw⟩; subst w')
        | (go_at_call 36; refine (isFile_any _ _).mono ?_; rintro e w' ⟨rfl, hw⟩; subst w'; rw [hD]))
      all_goals
        go_ret
        exact ⟨rfl, rfl⟩
    · have h1 : (4194304 : Int) - s.size < at' := by omega
      clear hb'
      go_enter Try.func22, Try.ntmps22
      go_wp2_with (first
        | (go_at_call 35; refine (given_self d _ hself).mono ?_; rintro e w' ⟨rfl, hw⟩; subst w')
        | (go_at_call 36; refine (isFile_any _ _).mono ?_; rintro e w' ⟨rfl, hw⟩; subst w'; rw [hD]))
      all_goals
        go_ret
        exact ⟨rfl, rfl⟩

set_option maxHeartbeats 400000 in
theorem write_nobody (p : Value) (f at' : Int) (s : ByteArray) (w : World) (hp : NoDisk p w) :
    Calls Try.prog 22 #[p, .int .i64 f, .int .i64 at', .string s] w fun e w' => e = .returned (.int .i64 1) ∧ w' = w := by
  have HP := Lib.hid hp; clear hp
  go_enter Try.func22, Try.ntmps22
  go_wp2_with (go_at_call 35; refine Calls.mono (show Calls Try.prog 35 #[p] _ _ from HP.out) ?_; rintro e w' ⟨rfl, hw⟩; subst w')
  go_ret
  exact ⟨rfl, rfl⟩

set_option maxHeartbeats 1000000 in
theorem trim_ok (f n : Nat) (S : Nat → Prop) (d : Nat) (ops : List RawOp) (w : World) (h : DiskAt S d ops w) (hlen : ops.length ≤ 4398046511104) (hf : f < 4) (hn : n ≤ (play ops f).length) :
    Calls Try.prog 23 #[.pointer (some ⟨d, 0, none⟩), .int .i64 f, .int .i64 n] w fun e w' => e = .returned (.int .i64 0) ∧ DiskAt (More S w.heap.size) d (ops ++ [.trim f n]) w' ∧ Kept S w w' := by
  have hself := h.self
  obtain ⟨vs, hv⟩ := h.2
  obtain ⟨ao, ll, cap, hvs, hll, _, _, _⟩ := (hv.file f hf).shape
  have hcf : w.cell? ⟨d, 1 + f, none⟩ = some (.slice ao ll cap) := by rw [← hvs]; exact hv.cellV (by omega)
  have hnl : ¬ ((ll : Int) < n) := by omega
  clear hvs hv
  have h1 : (f : Int) < 4 := by omega
  have h2 : ¬ ((n : Int) < 0) := by omega
  have hD : decide (0 ≤ (f : Int) ∧ (f : Int) < 4) = true := by simp; omega
  have HH := Lib.hid h; clear h
  have HN := Lib.hid hn; clear hn
  have HLL := Lib.hid hll; clear hll
  go_enter Try.func23, Try.ntmps23
  go_wp2_with (first
    | (go_at_call 35; refine (given_self d _ hself).mono ?_; rintro e w' ⟨rfl, hw⟩; subst w')
    | (go_at_call 36; refine (isFile_any _ _).mono ?_; rintro e w' ⟨rfl, hw⟩; subst w'; rw [hD])
    | (go_at_call 37; refine (do_any (.trim f n) S d ops _ HH.out ⟨hf, HN.out⟩ hlen).mono ?_))
  rintro e w2 ⟨rfl, hd2, hk2⟩
  have HD2 := Lib.hid hd2; clear hd2
  have HK2 := Lib.hid hk2; clear hk2
  go_wp2
  go_ret
  exact ⟨rfl, HD2.out, HK2.out⟩
end Go.Proofs.Ytnmeobbbcccgjaa
