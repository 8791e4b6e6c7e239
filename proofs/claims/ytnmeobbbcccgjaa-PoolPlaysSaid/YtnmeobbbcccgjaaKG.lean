/- More contracts of a disk: Trim that is refused, Size, Writes, Read; and all of what is no disk. -/
import Derived.Test.YtnmeobbbcccgjaaKF
set_option maxRecDepth 100000
namespace Go.Proofs.Ytnmeobbbcccgjaa
open Go.RowKit

set_option maxHeartbeats 1000000 in
theorem trim_no (f n : Int) (S : Nat → Prop) (d : Nat) (ops : List RawOp) (w : World) (h : DiskAt S d ops w) (hn : ¬ (0 ≤ f ∧ f < 4 ∧ 0 ≤ n ∧ n ≤ (play ops f.toNat).length)) :
    Calls Try.prog 23 #[.pointer (some ⟨d, 0, none⟩), .int .i64 f, .int .i64 n] w fun e w' => e = .returned (.int .i64 1) ∧ w' = w := by
  have hself := h.self
  by_cases hf : 0 ≤ f ∧ f < 4
  · obtain ⟨j, rfl⟩ : ∃ j : Nat, f = (j : Int) := ⟨f.toNat, by omega⟩
    obtain ⟨vs, hv⟩ := h.2
    obtain ⟨ao, ll, cap, hvs, hll, _, _, _⟩ := (hv.file j (by omega)).shape
    have hcf : w.cell? ⟨d, 1 + j, none⟩ = some (.slice ao ll cap) := by rw [← hvs]; exact hv.cellV (by omega)
    have hD : decide (0 ≤ (j : Int) ∧ (j : Int) < 4) = true := by simp; omega
    have h1 : (j : Int) < 4 := by omega
    simp only [Int.toNat_natCast, ← hll] at hn
    clear hvs hv h hll
    by_cases h0 : n < 0
    · clear hn
      go_enter Try.func23, Try.ntmps23
      go_wp2_with (first
        | (go_at_call 35; refine (given_self d _ hself).mono ?_; rintro e w' ⟨rfl, hw⟩; subst w')
        | (go_at_call 36; refine (isFile_any _ _).mono ?_; rintro e w' ⟨rfl, hw⟩; subst w'; rw [hD]))
      all_goals
        go_ret
        exact ⟨rfl, rfl⟩
    · have h2 : (ll : Int) < n := by omega
      clear hn
      go_enter Try.func23, Try.ntmps23
      go_wp2_with (first
        | (go_at_call 35; refine (given_self d _ hself).mono ?_; rintro e w' ⟨rfl, hw⟩; subst w')
        | (go_at_call 36; refine (isFile_any _ _).mono ?_; rintro e w' ⟨rfl, hw⟩; subst w'; rw [hD]))
      all_goals
        go_ret
        exact ⟨rfl, rfl⟩
  · have hD : decide (0 ≤ f ∧ f < 4) = false := decide_eq_false hf
    clear hn hf h
    go_enter Try.func23, Try.ntmps23
    go_wp2_with (first
      | (go_at_call 35; refine (given_self d _ hself).mono ?_; rintro e w' ⟨rfl, hw⟩; subst w')
      | (go_at_call 36; refine (isFile_any _ _).mono ?_; rintro e w' ⟨rfl, hw⟩; subst w'; rw [hD]))
    all_goals
      go_ret
      exact ⟨rfl, rfl⟩

set_option maxHeartbeats 400000 in
theorem trim_nobody (p : Value) (f n : Int) (w : World) (hp : NoDisk p w) :
    Calls Try.prog 23 #[p, .int .i64 f, .int .i64 n] w fun e w' => e = .returned (.int .i64 1) ∧ w' = w := by
  have HP := Lib.hid hp; clear hp
  go_enter Try.func23, Try.ntmps23
  go_wp2_with (go_at_call 35; refine Calls.mono (show Calls Try.prog 35 #[p] _ _ from HP.out) ?_; rintro e w' ⟨rfl, hw⟩; subst w')
  go_ret
  exact ⟨rfl, rfl⟩

set_option maxHeartbeats 400000 in
theorem size_nobody (p : Value) (f : Int) (w : World) (hp : NoDisk p w) :
    Calls Try.prog 24 #[p, .int .i64 f] w fun e w' => e = .returned (.int .i64 0) ∧ w' = w := by
  have HP := Lib.hid hp; clear hp
  go_enter Try.func24, Try.ntmps24
  go_wp2_with (go_at_call 35; refine Calls.mono (show Calls Try.prog 35 #[p] _ _ from HP.out) ?_; rintro e w' ⟨rfl, hw⟩; subst w')
  go_ret
  exact ⟨rfl, rfl⟩

set_option maxHeartbeats 400000 in
theorem writes_nobody (p : Value) (w : World) (hp : NoDisk p w) :
    Calls Try.prog 25 #[p] w fun e w' => e = .returned (.int .i64 0) ∧ w' = w := by
  have HP := Lib.hid hp; clear hp
  go_enter Try.func25, Try.ntmps25
  go_wp2_with (go_at_call 35; refine Calls.mono (show Calls Try.prog 35 #[p] _ _ from HP.out) ?_; rintro e w' ⟨rfl, hw⟩; subst w')
  go_ret
  exact ⟨rfl, rfl⟩

set_option maxHeartbeats 400000 in
theorem read_nobody (p : Value) (f a n : Int) (w : World) (hp : NoDisk p w) :
    Calls Try.prog 20 #[p, .int .i64 f, .int .i64 a, .int .i64 n] w fun e w' => e = .returned (.tuple #[.string ⟨#[]⟩, .int .i64 1]) ∧ w' = w := by
  have HP := Lib.hid hp; clear hp
  go_enter Try.func20, Try.ntmps20
  go_wp2_with (go_at_call 35; refine Calls.mono (show Calls Try.prog 35 #[p] _ _ from HP.out) ?_; rintro e w' ⟨rfl, hw⟩; subst w')
  go_ret2
  exact ⟨rfl, rfl⟩

set_option maxHeartbeats 400000 in
theorem cut_nobody (p : Value) (n : Int) (w : World) (hp : NoDisk p w) :
    Calls Try.prog 21 #[p, .int .i64 n] w fun e w' => e = .returned (.tuple #[.pointer none, .int .i64 1]) ∧ w' = w := by
  have HP := Lib.hid hp; clear hp
  go_enter Try.func21, Try.ntmps21
  go_wp2_with (go_at_call 35; refine Calls.mono (show Calls Try.prog 35 #[p] _ _ from HP.out) ?_; rintro e w' ⟨rfl, hw⟩; subst w')
  go_ret2
  exact ⟨rfl, rfl⟩

set_option maxHeartbeats 400000 in
theorem size_ok (f : Nat) (S : Nat → Prop) (d : Nat) (ops : List RawOp) (w : World) (h : DiskAt S d ops w) (hf : f < 4) :
    Calls Try.prog 24 #[.pointer (some ⟨d, 0, none⟩), .int .i64 f] w fun e w' => e = .returned (.int .i64 (play ops f).length) ∧ w' = w := by
  have hself := h.self
  obtain ⟨vs, hv⟩ := h.2
  obtain ⟨ao, ll, cap, hvs, hll, _, _, _⟩ := (hv.file f hf).shape
  have hcf : w.cell? ⟨d, 1 + f, none⟩ = some (.slice ao ll cap) := by rw [← hvs]; exact hv.cellV (by omega)
  have hD : decide (0 ≤ (f : Int) ∧ (f : Int) < 4) = true := by simp; omega
  have h1 : (f : Int) < 4 := by omega
  rw [← hll]
  clear hvs hv h hll
  go_enter Try.func24, Try.ntmps24
  go_wp2_with (first
    | (go_at_call 35; refine (given_self d _ hself).mono ?_; rintro e w' ⟨rfl, hw⟩; subst w')
    | (go_at_call 36; refine (isFile_any _ _).mono ?_; rintro e w' ⟨rfl, hw⟩; subst w'; rw [hD]))
  go_ret
  exact ⟨rfl, rfl⟩

set_option maxHeartbeats 400000 in
theorem size_no (f : Int) (S : Nat → Prop) (d : Nat) (ops : List RawOp) (w : World) (h : DiskAt S d ops w) (hf : ¬ (0 ≤ f ∧ f < 4)) :
    Calls Try.prog 24 #[.pointer (some ⟨d, 0, none⟩), .int .i64 f] w fun e w' => e = .returned (.int .i64 0) ∧ w' = w := by
  have hself := h.self
  have hD : decide (0 ≤ f ∧ f < 4) = false := decide_eq_false hf
  clear h hf
  go_enter Try.func24, Try.ntmps24
  go_wp2_with (first
    | (go_at_call 35; refine (given_self d _ hself).mono ?_; rintro e w' ⟨rfl, hw⟩; subst w')
    | (go_at_call 36; refine (isFile_any _ _).mono ?_; rintro e w' ⟨rfl, hw⟩; subst w'; rw [hD]))
  go_ret
  exact ⟨rfl, rfl⟩

theorem DiskF.doneCell {S : Nat → Prop} {d : Nat} {F : Nat → List UInt8} {ops : List RawOp} {vs : Nat → Value} {w : World} (h : DiskF S d F ops vs w) : ∃ ao cap, vs 4 = .slice ao ops.length cap ∧ w.cell? ⟨d, 5, none⟩ = some (.slice ao ops.length cap) ∧ ops.length ≤ cap := by
  have hc : w.cell? ⟨d, 5, none⟩ = some (vs 4) := h.cellV (i := 4) (by omega)
  rcases h.done.2 with ⟨hv, h0⟩ | ⟨g, cap, cur, hv, _, _, hcap, _⟩
  · rw [hv] at hc; exact ⟨none, 0, by rw [h0]; exact hv, by rw [h0]; exact hc, by omega⟩
  · rw [hv] at hc; exact ⟨_, cap, hv, hc, hcap⟩

set_option maxHeartbeats 400000 in
theorem writes_ok (S : Nat → Prop) (d : Nat) (ops : List RawOp) (w : World) (h : DiskAt S d ops w) :
    Calls Try.prog 25 #[.pointer (some ⟨d, 0, none⟩)] w fun e w' => e = .returned (.int .i64 ops.length) ∧ w' = w := by
  have hself := h.self
  obtain ⟨vs, hv⟩ := h.2
  obtain ⟨ao, cap, _, hc, _⟩ := hv.doneCell
  clear hv h
  go_enter Try.func25, Try.ntmps25
  go_wp2_with (go_at_call 35; refine (given_self d _ hself).mono ?_; rintro e w' ⟨rfl, hw⟩; subst w')
  go_ret
  exact ⟨rfl, rfl⟩

theorem convert_bytes (w : World) (v : Value) (l : List UInt8) (hB : Bytes w v l) (at' n : Nat) (hfit : at' + n ≤ l.length) (ax : Option Addr) (c : Nat) (hax : 0 < n → ∃ g, v.ownBlock = some g ∧ ax = some ⟨g, at', none⟩) :
    (convert 44 9 (.slice ax n c)).run Try.prog w = .ok (.string ⟨((l.drop at').take n).toArray⟩) w := by
  by_cases h0 : n = 0
  · subst h0
    rw [List.take_zero]
    cases ax with
    | none =>
      rw [run_convert_bytes_string w 44 9 5 none 0 c Try.underlying44 Try.underlying5 Try.underlying9]
      simp [Conv.bytesToString]
      rfl
    | some a =>
      exact run_convert_bytes_back w 44 9 5 a c [] Try.underlying44 Try.underlying5 Try.underlying9 (fun j hj => by simp at hj)
  · obtain ⟨g, hg, rfl⟩ := hax (by omega)
    rcases hB.2 with ⟨rfl, _⟩ | ⟨g', cap, cur, rfl, _, hgb, hnc, hcm, hcs, ht⟩
    · simp [Value.ownBlock] at hg
    · obtain rfl : g' = g := by simpa [Value.ownBlock] using hg
      have hlen : ((l.drop at').take n).length = n := by rw [List.length_take, List.length_drop]; omega
      have := run_convert_bytes_back (P := Try.prog) w 44 9 5 ⟨g', at', none⟩ c ((l.drop at').take n) Try.underlying44 Try.underlying5 Try.underlying9 ?_
      · rw [hlen] at this; exact this
      · intro j hj
        rw [hlen] at hj
        have hx := World.ownsRow.cells (w := w) hB (g := g') rfl (at' + j) (.int .u8 ((l[at' + j]'(by omega)).toNat : Int)) (by simp only [Lib.byteCells, List.getElem?_map]; rw [List.getElem?_eq_getElem (by omega)]; rfl)
        have e1 : (⟨g', at', none⟩ : Addr).add j = (⟨g', 0, none⟩ : Addr).add (at' + j) := by
          simp only [Addr.add]
          split <;> split <;> simp_all
        rw [e1, hx]
        simp

set_option maxHeartbeats 1000000 in
theorem read_ok (f at' n : Nat) (S : Nat → Prop) (d : Nat) (ops : List RawOp) (w : World) (h : DiskAt S d ops w) (hf : f < 4) (hn : at' + n ≤ (play ops f).length) :
    Calls Try.prog 20 #[.pointer (some ⟨d, 0, none⟩), .int .i64 f, .int .i64 at', .int .i64 n] w fun e w' => e = .returned (.tuple #[.string ⟨(((play ops f).drop at').take n).toArray⟩, .int .i64 0]) ∧ w' = w := by
  have hself := h.self
  have hmax := play_length h.1 f
  obtain ⟨vs, hv⟩ := h.2
  have hB := hv.file f hf
  obtain ⟨ao, ll, cap, hvs, hll, hcap, hao, hno⟩ := hB.shape
  have hcf : w.cell? ⟨d, 1 + f, none⟩ = some (.slice ao ll cap) := by rw [← hvs]; exact hv.cellV (by omega)
  rw [hvs] at hao hB
  rw [← hll] at hmax
  have hn' : at' + n ≤ ll := by omega
  have hD : decide (0 ≤ (f : Int) ∧ (f : Int) < 4) = true := by simp; omega
  have h1 : (f : Int) < 4 := by omega
  have h2 : ¬ ((at' : Int) < 0) := by omega
  have h3 : ¬ ((n : Int) < 0) := by omega
  have h4 : ¬ ((ll : Int) - n < at') := by omega
  have h5 : at' ≤ at' + n := by omega
  have h6 : at' + n ≤ cap := by omega
  have h7 : at' + n - at' = n := by omega
  obtain ⟨ax, hax⟩ : ∃ ax, (if cap = at' then ao else Option.map (fun x => x.add at') ao) = ax := ⟨_, rfl⟩
  have hdp : 0 < n → ∃ g, (Value.slice ao ll cap).ownBlock = some g ∧ ax = some ⟨g, at', none⟩ := by
    intro h0
    rw [← hax]
    cases ao with
    | none => have := hno rfl; omega
    | some a =>
      obtain ⟨h1, h2, h3⟩ := hao a rfl
      refine ⟨_, h3, ?_⟩
      rw [if_neg (by omega)]
      cases a with
      | mk b o sp => simp at h1 h2; subst h1 h2; simp [Addr.add, eq_comm]
  have hcv := convert_bytes w (.slice ao ll cap) (play ops f) hB at' n hn ax (cap - at') hdp
  obtain ⟨T, hT⟩ : ∃ T, ((List.drop at' (play ops f)).take n).toArray = T := ⟨_, rfl⟩
  rw [hT] at hcv ⊢
  clear hdp hB hao hno hvs hv hll hn hT h
  go_enter Try.func20, Try.ntmps20
  go_wp2_with (first
    | (go_at_call 35; refine (given_self d _ hself).mono ?_; rintro e w' ⟨rfl, hw⟩; subst w')
    | (go_at_call 36; refine (isFile_any _ _).mono ?_; rintro e w' ⟨rfl, hw⟩; subst w'; rw [hD]))
  go_ret2
  exact ⟨rfl, rfl⟩

set_option maxHeartbeats 1000000 in
theorem read_no (f a n : Int) (S : Nat → Prop) (d : Nat) (ops : List RawOp) (w : World) (h : DiskAt S d ops w) (hn63 : n ≤ 9223372036854775807) (hn : ¬ (0 ≤ f ∧ f < 4 ∧ 0 ≤ a ∧ 0 ≤ n ∧ a + n ≤ (play ops f.toNat).length)) :
    Calls Try.prog 20 #[.pointer (some ⟨d, 0, none⟩), .int .i64 f, .int .i64 a, .int .i64 n] w fun e w' => e = .returned (.tuple #[.string ⟨#[]⟩, .int .i64 1]) ∧ w' = w := by
  have hself := h.self
  by_cases hf : 0 ≤ f ∧ f < 4
  · obtain ⟨j, rfl⟩ : ∃ j : Nat, f = (j : Int) := ⟨f.toNat, by omega⟩
    have hmax := play_length h.1 j
    obtain ⟨vs, hv⟩ := h.2
    obtain ⟨ao, ll, cap, hvs, hll, _, _, _⟩ := (hv.file j (by omega)).shape
    have hcf : w.cell? ⟨d, 1 + j, none⟩ = some (.slice ao ll cap) := by rw [← hvs]; exact hv.cellV (by omega)
    have hD : decide (0 ≤ (j : Int) ∧ (j : Int) < 4) = true := by simp; omega
    have h1 : (j : Int) < 4 := by omega
    simp only [Int.toNat_natCast, ← hll] at hn hmax
    clear hvs hv h hll
    by_cases ha : a < 0
    · clear hn
      go_enter Try.func20, Try.ntmps20
      go_wp2_with (first
        | (go_at_call 35; refine (given_self d _ hself).mono ?_; rintro e w' ⟨rfl, hw⟩; subst w')
        | (go_at_call 36; refine (isFile_any _ _).mono ?_; rintro e w' ⟨rfl, hw⟩; subst w'; rw [hD]))
      all_goals
        go_ret2
        exact ⟨rfl, rfl⟩
  
    by_cases h0 : n < 0
    · clear hn
      go_enter Try.func20, Try.ntmps20
      go_wp2_with (first
        | (go_at_call 35; refine (given_self d _ hself).mono ?_; rintro e w' ⟨rfl, hw⟩; subst w')
        | (go_at_call 36; refine (isFile_any _ _).mono ?_; rintro e w' ⟨rfl, hw⟩; subst w'; rw [hD]))
      all_goals
        go_ret2
        exact ⟨rfl, rfl⟩
  
    · have h2 : (ll : Int) - n < a := by omega
      have h3 : (0 : Int) ≤ n := by omega
      clear hn
      go_enter Try.func20, Try.ntmps20
      go_wp2_with (first
        | (go_at_call 35; refine (given_self d _ hself).mono ?_; rintro e w' ⟨rfl, hw⟩; subst w')
        | (go_at_call 36; refine (isFile_any _ _).mono ?_; rintro e w' ⟨rfl, hw⟩; subst w'; rw [hD]))
      all_goals
        go_ret2
        exact ⟨rfl, rfl⟩
  
  · have hD : decide (0 ≤ f ∧ f < 4) = false := decide_eq_false hf
    clear hn hf h
    go_enter Try.func20, Try.ntmps20
    go_wp2_with (first
      | (go_at_call 35; refine (given_self d _ hself).mono ?_; rintro e w' ⟨rfl, hw⟩; subst w')
      | (go_at_call 36; refine (isFile_any _ _).mono ?_; rintro e w' ⟨rfl, hw⟩; subst w'; rw [hD]))
    all_goals
      go_ret2
      exact ⟨rfl, rfl⟩

end Go.Proofs.Ytnmeobbbcccgjaa
