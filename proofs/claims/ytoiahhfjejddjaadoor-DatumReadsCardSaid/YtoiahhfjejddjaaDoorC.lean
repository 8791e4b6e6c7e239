/- The contracts of the functions that compare data; other memory stands. -/
import Derived.Test.YtoiahhfjejddjaaDoorB
import Derived.Deep.RegionHeld3
import Derived.StillTailTactics
set_option maxRecDepth 100000
namespace Go.Proofs.YtoiahhfjejddjaaDoor
open Go.RowKit

def cmpI (a b : Int) : Int := if a < b then -1 else if b < a then 1 else 0
def cmpS (s t : ByteArray) : Int := if Op.bytesLess s.toList t.toList = true then -1 else if (s.toList == t.toList) = true then 0 else 1
def cmpK (a b : Int) : Int := if a = b then 0 else if a = 1 then -1 else 1
def or3 (x y z : Int) : Int := if x ≠ 0 then x else if y ≠ 0 then y else z

theorem ret_int {k : IntKind} {a b : Int} (h : a = b) : Ending.returned (.int k a) = .returned (.int k b) := by rw [h]
theorem ret_bool {a b : Bool} (h : a = b) : Ending.returned (.bool a) = .returned (.bool b) := by rw [h]

set_option maxHeartbeats 400000 in
theorem cmpK_any (a b : Int) (w : World) : Calls Tryd.prog 27 #[.int .i64 a, .int .i64 b] w fun e w' => e = .returned (.int .i64 (cmpK a b)) ∧ w' = w := by
  go_enter Tryd.func27, Tryd.ntmps27
  go_wp2
  all_goals (go_ret; refine ⟨ret_int ?_, rfl⟩; unfold cmpK; grind)

set_option maxHeartbeats 400000 in
theorem nanI (a : Int) (w : World) : Calls Tryd.prog 51 #[.int .i64 a] w fun e w' => e = .returned (.bool false) ∧ w' = w := by
  go_enter Tryd.func51, Tryd.ntmps51
  go_wp2
  all_goals (go_ret; simp)
set_option maxHeartbeats 400000 in
theorem nanS (a : ByteArray) (w : World) : Calls Tryd.prog 52 #[.string a] w fun e w' => e = .returned (.bool false) ∧ w' = w := by
  go_enter Tryd.func52, Tryd.ntmps52
  go_wp2
  all_goals (go_ret; simp)

set_option maxHeartbeats 400000 in
theorem cmpI_any (a b : Int) (w : World) : Calls Tryd.prog 28 #[.int .i64 a, .int .i64 b] w fun e w' => e = .returned (.int .i64 (cmpI a b)) ∧ w' = w := by
  go_enter Tryd.func28, Tryd.ntmps28
  go_wp2_with (go_at_call 51; refine (nanI _ _).mono ?_; rintro e w' ⟨rfl, hw⟩; rw [hw])
  all_goals (go_ret; refine ⟨ret_int ?_, rfl⟩; unfold cmpI; grind)

set_option maxHeartbeats 400000 in
theorem cmpS_any (a b : ByteArray) (w : World) : Calls Tryd.prog 29 #[.string a, .string b] w fun e w' => e = .returned (.int .i64 (cmpS a b)) ∧ w' = w := by
  go_enter Tryd.func29, Tryd.ntmps29
  go_wp2_with (go_at_call 52; refine (nanS _ _).mono ?_; rintro e w' ⟨rfl, hw⟩; rw [hw])
  all_goals (go_ret; refine ⟨ret_int ?_, rfl⟩; unfold cmpS; grind)

set_option maxHeartbeats 400000 in
theorem or_any (b : Nat) (x y z : Int) (w : World) (c0 : w.cell? ⟨b, 0, none⟩ = some (.int .i64 x)) (c1 : w.cell? ⟨b, 1, none⟩ = some (.int .i64 y)) (c2 : w.cell? ⟨b, 2, none⟩ = some (.int .i64 z)) :
    Calls Tryd.prog 26 #[.slice (some ⟨b, 0, none⟩) 3 3] w fun e w' => e = .returned (.int .i64 (or3 x y z)) ∧ w' = w := by
  go_enter Tryd.func26, Tryd.ntmps26
  go_wp2
  refine wp_loop_rounds 4 ?_
  rw [rounds_succ]
  go_wp2
  · go_ret
    refine ⟨ret_int ?_, rfl⟩; unfold or3; grind
  · rw [rounds_succ]
    go_wp2
    · go_ret
      refine ⟨ret_int ?_, rfl⟩; unfold or3; grind
    · rw [rounds_succ]
      go_wp2
      · go_ret
        refine ⟨ret_int ?_, rfl⟩; unfold or3; grind
      · rw [rounds_succ]
        go_wp2
        go_ret
        refine ⟨ret_int ?_, rfl⟩; unfold or3; grind

def ordR (k n : Int) (s : ByteArray) (k' n' : Int) (s' : ByteArray) : Int :=
  if k ≠ k' then (if k < k' then -1 else 1) else if n < n' ∨ n = n' ∧ Op.bytesLess s.toList s'.toList = true then -1 else if n = n' ∧ (s.toList == s'.toList) = true then 0 else 1

set_option maxHeartbeats 400000 in
theorem order_any (k n : Int) (s : ByteArray) (a : Option Addr) (ll lc : Nat) (k' n' : Int) (s' : ByteArray) (a' : Option Addr) (ll' lc' : Nat) (w : World) :
    Calls Tryd.prog 31 #[.agg #[.int .i64 k, .int .i64 n, .string s, .slice a ll lc], .agg #[.int .i64 k', .int .i64 n', .string s', .slice a' ll' lc']] w fun e w' => e = .returned (.int .i64 (ordR k n s k' n' s')) ∧ Below w.heap.size w w' := by
  go_enter Tryd.func31, Tryd.ntmps31
  go_wp2
  all_goals
    go_ret
    refine ⟨ret_int ?_, ((Below.refl _ _).alloc (Nat.le_refl _) _).alloc (by simp) _⟩
    unfold ordR
    grind

/-- What Compare gives. -/
def cmpD (k n : Int) (s : ByteArray) (xs : List It) (k' n' : Int) (s' : ByteArray) (xs' : List It) : Int × Int :=
  if dOk k n s xs = false ∨ dOk k' n' s' xs' = false then (0, 11) else if k = 3 ∨ k' = 3 then (0, 10) else (ordR k n s k' n' s', 0)

set_option maxHeartbeats 400000 in
theorem rcompare_any (k n : Int) (s : ByteArray) (a : Option Addr) (xs : List It) (lc : Nat) (k' n' : Int) (s' : ByteArray) (a' : Option Addr) (xs' : List It) (lc' : Nat) (w : World) (hS : Sl w a xs) (hS' : Sl w a' xs') :
    Calls Tryd.prog 11 #[.agg #[.int .i64 k, .int .i64 n, .string s, .slice a xs.length lc], .agg #[.int .i64 k', .int .i64 n', .string s', .slice a' xs'.length lc']] w fun e w' =>
      e = .returned (.tuple #[.int .i64 (cmpD k n s xs k' n' s' xs').1, .int .i64 (cmpD k n s xs k' n' s' xs').2]) ∧ Below w.heap.size w w' := by
  have b0 : ∀ o1 o2 : Obj, Below w.heap.size w ((w.alloc o1).alloc o2) := fun o1 o2 => ((Below.refl _ _).alloc (Nat.le_refl _) _).alloc (by simp) _
  have HS := fun o1 o2 => Lib.hid (hS.below (b0 o1 o2) (Nat.le_refl _)); have HS' := fun o1 o2 => Lib.hid (hS'.below (b0 o1 o2) (Nat.le_refl _)); clear hS hS'
  obtain ⟨v, hv⟩ : ∃ v, v = cmpD k n s xs k' n' s' xs' := ⟨_, rfl⟩
  rw [← hv]
  have HV := Lib.hid hv; clear hv
  cases h1 : dOk k n s xs
  · have H1 := Lib.hid h1; clear h1
    go_enter Tryd.func11, Tryd.ntmps11
    go_wp2_with fail
    refine (may_no _ _ _ _ _ _ _ (HS _ _).out H1.out).mono ?_
    rintro e w1 ⟨rfl, hb1⟩
    go_wp2
    go_ret2
    rw [HV.out]
    exact ⟨by simp [cmpD, H1.out], below_al2 _ _ hb1⟩
  · have H1 := Lib.hid h1; clear h1
    cases h2 : dOk k' n' s' xs'
    · have H2 := Lib.hid h2; clear h2
      go_enter Tryd.func11, Tryd.ntmps11
      go_wp2_with fail
      refine (may_ok _ _ _ _ _ _ _ (HS _ _).out H1.out).mono ?_
      rintro e w1 ⟨rfl, hb1⟩
      obtain ⟨⟨c0, c1, c2, c3⟩, d0, d1, d2, d3⟩ := box_cells2 (by simpa using hb1)
      have HS1 := Lib.hid (((HS' _ _).out).below hb1 (Nat.le_refl _))
      go_wp2_with fail
      refine (may_no _ _ _ _ _ _ _ HS1.out H2.out).mono ?_
      rintro e w2 ⟨rfl, hb2⟩
      go_wp2
      go_ret2
      rw [HV.out]
      exact ⟨by simp [cmpD, H1.out, H2.out], below_then (below_al2 _ _ hb1) (Nat.le_refl _) hb2⟩
    · have H2 := Lib.hid h2; clear h2
      by_cases hk : k = 3
      · subst hk
        go_enter Tryd.func11, Tryd.ntmps11
        go_wp2_with fail
        refine (may_ok _ _ _ _ _ _ _ (HS _ _).out H1.out).mono ?_
        rintro e w1 ⟨rfl, hb1⟩
        obtain ⟨⟨c0, c1, c2, c3⟩, d0, d1, d2, d3⟩ := box_cells2 (by simpa using hb1)
        have HS1 := Lib.hid (((HS' _ _).out).below hb1 (Nat.le_refl _))
        go_wp2_with fail
        refine (may_ok _ _ _ _ _ _ _ HS1.out H2.out).mono ?_
        rintro e w2 ⟨rfl, hb2⟩
        have hb := below_then hb1 (Nat.le_refl _) hb2
        obtain ⟨⟨c0', c1', c2', c3'⟩, d0', d1', d2', d3'⟩ := box_cells2 (by simpa using hb)
        go_wp2
        go_ret2
        rw [HV.out]
        exact ⟨by simp [cmpD, H1.out, H2.out], below_al2 _ _ hb⟩
      · by_cases hk' : k' = 3
        · subst hk'
          go_enter Tryd.func11, Tryd.ntmps11
          go_wp2_with fail
          refine (may_ok _ _ _ _ _ _ _ (HS _ _).out H1.out).mono ?_
          rintro e w1 ⟨rfl, hb1⟩
          obtain ⟨⟨c0, c1, c2, c3⟩, d0, d1, d2, d3⟩ := box_cells2 (by simpa using hb1)
          have HS1 := Lib.hid (((HS' _ _).out).below hb1 (Nat.le_refl _))
          go_wp2_with fail
          refine (may_ok _ _ _ _ _ _ _ HS1.out H2.out).mono ?_
          rintro e w2 ⟨rfl, hb2⟩
          have hb := below_then hb1 (Nat.le_refl _) hb2
          obtain ⟨⟨c0', c1', c2', c3'⟩, d0', d1', d2', d3'⟩ := box_cells2 (by simpa using hb)
          go_wp2
          go_ret2
          rw [HV.out]
          exact ⟨by simp [cmpD, H1.out, H2.out], below_al2 _ _ hb⟩
        · have hkb : (k == 3) = false := by simpa using hk
          have hkb' : (k' == 3) = false := by simpa using hk'
          go_enter Tryd.func11, Tryd.ntmps11
          go_wp2_with fail
          refine (may_ok _ _ _ _ _ _ _ (HS _ _).out H1.out).mono ?_
          rintro e w1 ⟨rfl, hb1⟩
          obtain ⟨⟨c0, c1, c2, c3⟩, d0, d1, d2, d3⟩ := box_cells2 (by simpa using hb1)
          have HS1 := Lib.hid (((HS' _ _).out).below hb1 (Nat.le_refl _))
          go_wp2_with fail
          refine (may_ok _ _ _ _ _ _ _ HS1.out H2.out).mono ?_
          rintro e w2 ⟨rfl, hb2⟩
          have hb := below_then hb1 (Nat.le_refl _) hb2
          obtain ⟨⟨c0', c1', c2', c3'⟩, d0', d1', d2', d3'⟩ := box_cells2 (by simpa using hb)
          go_wp2_with fail
          refine (order_any _ _ _ _ _ _ _ _ _ _ _ _ _).mono ?_
          rintro e w3 ⟨rfl, hb3⟩
          go_wp2
          go_ret2
          rw [HV.out]
          exact ⟨by simp [cmpD, H1.out, H2.out, hk, hk'], below_al2 _ _ (below_then hb (Nat.le_refl _) hb3)⟩

theorem ordP_eq {k n : Int} {s : ByteArray} {xs : List It} {k' n' : Int} {s' : ByteArray} {xs' : List It} (h1 : dOk k n s xs = true) (h2 : dOk k' n' s' xs' = true) (hk : k ≠ 3) (hk' : k' ≠ 3) :
    or3 (cmpK k k') (cmpI n n') (cmpS s s') = ordR k n s k' n' s' := by
  have a1 := itemOk_true (by simpa [dOk, hk] using h1)
  have a2 := itemOk_true (by simpa [dOk, hk'] using h2)
  unfold or3 cmpK cmpI cmpS ordR
  grind

set_option maxHeartbeats 800000 in
theorem compare_any (k n : Int) (s : ByteArray) (a : Option Addr) (xs : List It) (lc : Nat) (k' n' : Int) (s' : ByteArray) (a' : Option Addr) (xs' : List It) (lc' : Nat) (w : World) (hS : Sl w a xs) (hS' : Sl w a' xs') :
    Calls Tryd.prog 10 #[.agg #[.int .i64 k, .int .i64 n, .string s, .slice a xs.length lc], .agg #[.int .i64 k', .int .i64 n', .string s', .slice a' xs'.length lc']] w fun e w' =>
      e = .returned (.tuple #[.int .i64 (cmpD k n s xs k' n' s' xs').1, .int .i64 (cmpD k n s xs k' n' s' xs').2]) ∧ Below w.heap.size w w' := by
  have b0 : ∀ o1 o2 : Obj, Below w.heap.size w ((w.alloc o1).alloc o2) := fun o1 o2 => ((Below.refl _ _).alloc (Nat.le_refl _) _).alloc (by simp) _
  have HS := fun o1 o2 => Lib.hid (hS.below (b0 o1 o2) (Nat.le_refl _)); have HS' := fun o1 o2 => Lib.hid (hS'.below (b0 o1 o2) (Nat.le_refl _)); clear hS hS'
  obtain ⟨v, hv⟩ : ∃ v, v = cmpD k n s xs k' n' s' xs' := ⟨_, rfl⟩
  rw [← hv]
  have HV := Lib.hid hv; clear hv
  cases h1 : dOk k n s xs
  · have H1 := Lib.hid h1; clear h1
    go_enter Tryd.func10, Tryd.ntmps10
    go_wp2_with fail
    refine (check_no _ _ _ _ _ _ _ (HS _ _).out H1.out).mono ?_
    rintro e w1 ⟨rfl, hb1⟩
    go_wp2
    go_ret2
    rw [HV.out]
    exact ⟨by simp [cmpD, H1.out], below_al2 _ _ hb1⟩
  · have H1 := Lib.hid h1; clear h1
    cases h2 : dOk k' n' s' xs'
    · have H2 := Lib.hid h2; clear h2
      go_enter Tryd.func10, Tryd.ntmps10
      go_wp2_with fail
      refine (check_ok _ _ _ _ _ _ _ (HS _ _).out H1.out).mono ?_
      rintro e w1 ⟨rfl, hb1⟩
      obtain ⟨⟨c0, c1, c2, c3⟩, d0, d1, d2, d3⟩ := box_cells2 (by simpa using hb1)
      have HS1 := Lib.hid (((HS' _ _).out).below hb1 (Nat.le_refl _))
      go_wp2_with fail
      refine (check_no _ _ _ _ _ _ _ HS1.out H2.out).mono ?_
      rintro e w2 ⟨rfl, hb2⟩
      go_wp2
      go_ret2
      rw [HV.out]
      exact ⟨by simp [cmpD, H1.out, H2.out], below_then (below_al2 _ _ hb1) (Nat.le_refl _) hb2⟩
    · have H2 := Lib.hid h2; clear h2
      by_cases hk : k = 3
      · subst hk
        go_enter Tryd.func10, Tryd.ntmps10
        go_wp2_with fail
        refine (check_ok _ _ _ _ _ _ _ (HS _ _).out H1.out).mono ?_
        rintro e w1 ⟨rfl, hb1⟩
        obtain ⟨⟨c0, c1, c2, c3⟩, d0, d1, d2, d3⟩ := box_cells2 (by simpa using hb1)
        have HS1 := Lib.hid (((HS' _ _).out).below hb1 (Nat.le_refl _))
        go_wp2_with fail
        refine (check_ok _ _ _ _ _ _ _ HS1.out H2.out).mono ?_
        rintro e w2 ⟨rfl, hb2⟩
        have hb := below_then hb1 (Nat.le_refl _) hb2
        obtain ⟨⟨c0', c1', c2', c3'⟩, d0', d1', d2', d3'⟩ := box_cells2 (by simpa using hb)
        go_wp2
        go_ret2
        rw [HV.out]
        exact ⟨by simp [cmpD, H1.out, H2.out], below_al2 _ _ hb⟩
      · by_cases hk' : k' = 3
        · subst hk'
          go_enter Tryd.func10, Tryd.ntmps10
          go_wp2_with fail
          refine (check_ok _ _ _ _ _ _ _ (HS _ _).out H1.out).mono ?_
          rintro e w1 ⟨rfl, hb1⟩
          obtain ⟨⟨c0, c1, c2, c3⟩, d0, d1, d2, d3⟩ := box_cells2 (by simpa using hb1)
          have HS1 := Lib.hid (((HS' _ _).out).below hb1 (Nat.le_refl _))
          go_wp2_with fail
          refine (check_ok _ _ _ _ _ _ _ HS1.out H2.out).mono ?_
          rintro e w2 ⟨rfl, hb2⟩
          have hb := below_then hb1 (Nat.le_refl _) hb2
          obtain ⟨⟨c0', c1', c2', c3'⟩, d0', d1', d2', d3'⟩ := box_cells2 (by simpa using hb)
          go_wp2
          go_ret2
          rw [HV.out]
          exact ⟨by simp [cmpD, H1.out, H2.out], below_al2 _ _ hb⟩
        · have hkb : (k == 3) = false := by simpa using hk
          have hkb' : (k' == 3) = false := by simpa using hk'
          go_enter Tryd.func10, Tryd.ntmps10
          go_wp2_with fail
          refine (check_ok _ _ _ _ _ _ _ (HS _ _).out H1.out).mono ?_
          rintro e w1 ⟨rfl, hb1⟩
          obtain ⟨⟨c0, c1, c2, c3⟩, d0, d1, d2, d3⟩ := box_cells2 (by simpa using hb1)
          have HS1 := Lib.hid (((HS' _ _).out).below hb1 (Nat.le_refl _))
          go_wp2_with fail
          refine (check_ok _ _ _ _ _ _ _ HS1.out H2.out).mono ?_
          rintro e w2 ⟨rfl, hb2⟩
          have hb := below_then hb1 (Nat.le_refl _) hb2
          obtain ⟨⟨c0', c1', c2', c3'⟩, d0', d1', d2', d3'⟩ := box_cells2 (by simpa using hb)
          go_wp2_with fail
          go_region_held3 (fun w' => w'.cell? ⟨w.heap.size, 0, none⟩ = some (.int .i64 k) ∧ w'.cell? ⟨w.heap.size, 1, none⟩ = some (.int .i64 n) ∧ w'.cell? ⟨w.heap.size, 2, none⟩ = some (.string s) ∧ w'.cell? ⟨w.heap.size + 1, 0, none⟩ = some (.int .i64 k') ∧ w'.cell? ⟨w.heap.size + 1, 1, none⟩ = some (.int .i64 n') ∧ w'.cell? ⟨w.heap.size + 1, 2, none⟩ = some (.string s')) (go_keep)
            (first | (go_at_call 27; refine (cmpK_any _ _ _).mono ?_; rintro e w' ⟨rfl, rfl⟩) | (go_at_call 28; refine (cmpI_any _ _ _).mono ?_; rintro e w' ⟨rfl, rfl⟩) | (go_at_call 29; refine (cmpS_any _ _ _).mono ?_; rintro e w' ⟨rfl, rfl⟩) | (go_at_call 26; refine (or_any _ (cmpK k k') (cmpI n n') (cmpS s s') _ ?_ ?_ ?_).mono ?_; (simp [go_sem]); (simp [go_sem]); (simp [go_sem]); rintro e w' ⟨rfl, rfl⟩))
          go_wp2
          go_ret2
          rw [HV.out, ordP_eq H1.out H2.out hk hk']
          exact ⟨by simp [cmpD, H1.out, H2.out, hk, hk'], ((below_al2 _ _ hb).alloc (by have := hb.size; simp at this; omega) _).drew⟩

end Go.Proofs.YtoiahhfjejddjaaDoor
