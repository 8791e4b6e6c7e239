/- The contract of a log's cut: for whatever bytes. -/
import Derived.Test.YtnncljihnelalaaLB
set_option maxRecDepth 100000
namespace Go.Proofs.Ytnncljihnelalaa
open Go.RowKit

theorem wordOf_at (a : Option Addr) (l : List UInt8) (n c : Nat) (w : World) (hn : l.length = n) (hl : n ≤ 6) (hR : ReadsB w a l) :
    Calls Try.prog 23 #[.slice a n c] w fun e w' => e = .returned (.int .i64 (v4 l)) ∧ w = w' := by
  subst hn
  exact (wordOf_any a l c w hl hR).mono fun _ _ h => ⟨h.1, h.2.symm⟩

theorem ReadsB.take {w : World} {a : Option Addr} {l : List UInt8} (h : ReadsB w a l) (n : Nat) : ReadsB w a (l.take n) := by
  rcases h with rfl | ⟨b, off, h1, h2, h3⟩
  · exact .inl (by simp)
  · refine .inr ⟨b, off, h1, h2, fun j hj => ?_⟩
    rw [List.length_take] at hj
    rw [h3 j (by omega), List.getElem_take]
theorem ReadsB.drop {w : World} {b off : Nat} {l : List UInt8} (h : ReadsB w (some ⟨b, off, none⟩) l) (n : Nat) : ReadsB w (some ⟨b, off + n, none⟩) (l.drop n) := by
  rcases h with rfl | ⟨b', off', h1, h2, h3⟩
  · exact .inl (by simp)
  · injection h1 with h1
    injection h1 with h1 h4
    subst h1; subst h4
    refine .inr ⟨b, off + n, rfl, h2, fun j hj => ?_⟩
    rw [List.length_drop] at hj
    rw [List.getElem_drop, Nat.add_assoc, h3 (n + j) (by omega)]

set_option maxHeartbeats 800000 in
theorem lcut_no (a : Option Addr) (l : List UInt8) (c : Nat) (w : World) (hc : l.length ≤ c) (hl : l.length ≤ 4194304) (hR : ReadsB w a l) (h : cutF l = none) :
    Calls Try.prog 26 #[.slice a l.length c] w fun e w' => e = .returned (.tuple #[.slice none 0 0, .slice none 0 0, .bool false]) ∧ w' = w := by
  by_cases h8 : l.length < 8
  · go_enter Try.func26, Try.ntmps26
    go_wp2
    go_ret3
    exact ⟨rfl, rfl⟩
  · have hv : l.length - 8 < v4 (l.take 4) := by
      unfold cutF at h
      rw [if_neg h8] at h
      split at h
      · assumption
      · cases h
    have hlt : ((l.length : Int) - 8 < (v4 (l.take 4) : Int)) := by omega
    obtain ⟨b, off, rfl, _, hcell⟩ := hR.at (by omega)
    have H4 := Lib.hid (hR.take 4); clear hR hcell h
    have h4 : (l.take 4).length = 4 := by rw [List.length_take]; omega
    have HL4 := Lib.hid h4; clear h4
    have hc4 : 4 ≤ c := by omega
    go_enter Try.func26, Try.ntmps26
    go_wp2_with fail
    refine (wordOf_at _ (l.take 4) _ _ _ HL4.out (by omega) H4.out).mono ?_
    rintro e w' ⟨rfl, rfl⟩
    go_wp2
    go_ret3
    exact ⟨rfl, rfl⟩

set_option maxHeartbeats 800000 in
theorem lcut_yes (a : Option Addr) (l r rest : List UInt8) (c : Nat) (w : World) (hc : l.length ≤ c) (hl : l.length ≤ 4194304) (hR : ReadsB w a l) (h : cutF l = some (r, rest)) (hr : r ≠ []) :
    Calls Try.prog 26 #[.slice a l.length c] w fun e w' => ∃ a1 c1 a2 c2, e = .returned (.tuple #[.slice a1 r.length c1, .slice a2 rest.length c2, .bool true]) ∧ (∀ W, ReadsB W a l → ReadsB W a1 r ∧ ReadsB W a2 rest) ∧ rest.length ≤ c2 ∧ ∃ n, w' = w.drewN n := by
  have hlen := cutF_length h
  have hr0 : 0 < r.length := List.length_pos_iff.2 hr
  have hlt : ¬ ((l.length : Int) - 8 < (v4 (l.take 4) : Int)) := by omega
  have h8 : ¬ l.length < 8 := by omega
  obtain ⟨b, off, rfl, _, hcell⟩ := hR.at (by omega)
  have H4 := Lib.hid (hR.take 4)
  have h4 : (l.take 4).length = 4 := by rw [List.length_take]; omega
  have HL4 := Lib.hid h4; clear h4
  have hc4 : 4 ≤ c := by omega
  obtain ⟨q, hq⟩ : ∃ q, q = v4 (l.take 4) := ⟨_, rfl⟩
  rw [← hq] at hlt hlen
  have hq0 : 0 < q := by omega
  have hql : q + 8 ≤ l.length := by omega
  have HQ := Lib.hid hq; clear hq
  have hpost : Hid ((∀ W, ReadsB W (some ⟨b, off, none⟩) l → ReadsB W (some ⟨b, off + 4, none⟩) r ∧ ReadsB W (some ⟨b, off + (q + 8), none⟩) rest) ∧ rest.length = l.length - (q + 8) ∧ r.length = q) := Lib.hid (by
    unfold cutF at h
    rw [if_neg h8, ← HQ.out, if_neg (by omega)] at h
    injection h with h
    injection h with h3 h4
    subst h3; subst h4
    exact ⟨fun W hW => ⟨(hW.drop 4).take q, hW.drop (q + 8)⟩, by rw [List.length_drop], by rw [List.length_take, List.length_drop]; omega⟩)
  clear hR hcell h hr hr0 hlen
  go_enter Try.func26, Try.ntmps26
  go_wp2_with fail
  refine (wordOf_at _ (l.take 4) _ _ _ HL4.out (by omega) H4.out).mono ?_
  rintro e w' ⟨rfl, rfl⟩
  rw [← HQ.out]
  have e1 : IntKind.i64.wrap (4 + (q : Int)) = 4 + (q : Int) := IntWalk.i64_in _ (by omega)
  have e2 : IntKind.i64.wrap (4 + (q : Int) + 4) = 4 + (q : Int) + 4 := IntWalk.i64_in _ (by omega)
  go_wp2
  go_quiet (fail)
  go_wp2
  all_goals
    go_ret3
    obtain ⟨p1, p3, p4⟩ := hpost.out
    subst p4
    have p5 : l.length - (4 + r.length + 4) = rest.length := by omega
    rw [show off + (r.length + 8) = off + (4 + r.length + 4) by omega] at p1
    refine ⟨_, _, _, _, (by rw [← p5] <;> rfl), ?_, ?_, _, by first | exact rfl | (symm; assumption) | assumption⟩
    · intro W hW
      refine ⟨(p1 W hW).1, ?_⟩
      first
        | exact (p1 W hW).2
        | (left; exact List.eq_nil_of_length_eq_zero (by omega))
    · omega
end Go.Proofs.Ytnncljihnelalaa
