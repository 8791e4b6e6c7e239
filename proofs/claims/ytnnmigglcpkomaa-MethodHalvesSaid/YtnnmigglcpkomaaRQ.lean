/- Find: the addresses of the entries with a key, rising. -/
import Derived.RangeFuncWrites
import Derived.Maps.AppendAt
import Derived.Test.YtnnmigglcpkomaaRP
import Derived.Test.YtnnmigglcpkomaaDL

set_option maxRecDepth 100000
namespace Go.Proofs.Ytnnmigglcpkomaa.Dm
open Go Go.RowKit Go.Shelf
attribute [local go_sem] Oper.semAt_some

set_option maxHeartbeats 800000 in
/-- A key that may not be. -/
theorem find_bad (P : Nat) (e : En) (w : World) (hP : w.cell? ⟨P, 0, none⟩ = some (.pointer (some ⟨P, 0, none⟩))) (hPl : P < w.heap.size) (hS : Sl w e.a e.xs) (h : e.ok = false) :
    Calls Try.prog 30 #[.pointer (some ⟨P, 0, none⟩), e.dv] w fun r w' => r = .returned (.tuple #[.slice none 0 0, .int .i64 1]) ∧ Below w.heap.size w w' := by
  obtain ⟨k, n, s, a, xs, lc, t⟩ := e
  have HK : Hid (∀ W, Below w.heap.size w W → Calls Try.prog 50 #[.pointer (some ⟨P, 0, none⟩), .agg #[.int .i64 k, .int .i64 n, .string s, .slice a xs.length lc]] W fun e w' => e = .returned (.tuple #[.string ⟨#[]⟩, .int .i64 1]) ∧ Below W.heap.size W w') :=
    Lib.hid (fun W hW => keyOf_bad P k n s a xs lc W ((hW.cell (p := ⟨P, 0, none⟩) hPl).trans hP) (Nat.lt_of_lt_of_le hPl hW.size) (hS.below hW (Nat.le_refl _)) h)
  unfold En.dv
  simp only []
  obtain ⟨ll, hll⟩ : ∃ ll, ll = xs.length := ⟨_, rfl⟩
  rw [← hll] at HK ⊢
  clear hS h hll hP
  go_enter Try.func30, Try.ntmps30
  go_wp2_with fail
  refine (HK.out _ ((Below.refl _ _).alloc (Nat.le_refl _) _)).mono ?_
  rintro e w1 ⟨rfl, hb1⟩
  have HB1 : Hid (Below w.heap.size w w1) := Lib.hid (below_al _ hb1)
  clear hb1
  go_wp2
  go_ret2
  exact ⟨rfl, HB1.out.alloc HB1.out.size _⟩

theorem Try.infoInt : (Try.prog.info? 3).map (fun i => (i.zero, i.size, i.bytes)) = some (some (.int .i64 0), 1, 8) := by kernel_rfl

theorem takeWhile_stop {α : Type} {p : α → Bool} {l r : List α} {x : α} (h : ∀ y, y ∈ l → p y = true) (hx : p x = false) : (l ++ ([x] ++ r)).takeWhile p = l := by
  induction l with
  | nil => simp [hx]
  | cons a l ih => simp [h a (by simp)]; exact ih (fun y hy => h y (by simp [hy]))
theorem takeWhile_all {α : Type} {p : α → Bool} {l : List α} (h : ∀ y, y ∈ l → p y = true) : l.takeWhile p = l := by
  induction l with
  | nil => rfl
  | cons a l ih => simp [h a (by simp)]; exact ih (fun y hy => h y (by simp [hy]))
theorem ownsRow_base {w : World} {B B' e z n : Nat} {v : Value} {xs : List Value} (h : w.ownsRow B e z v n xs) (hb : B' ≤ B) : w.ownsRow B' e z v n xs := ⟨h.1, h.2.imp id fun ⟨g, cap, cur, h1, h2, h3⟩ => ⟨g, cap, cur, h1, Nat.le_trans hb h2, h3⟩⟩
theorem grown_ne {W W' : World} {l k : Nat} (h : W.grownBy W' (some l)) (hk : k < W.heap.size ∧ k ≠ l) : W'.heap[k]? = W.heap[k]? := h.block k hk.1 (fun e => hk.2 (by cases e; rfl))

theorem seek_exists {ss : List Sh} {x : Hd} (hne : ∀ s, s ∈ ss → s.hs ≠ []) (hs : SrtH (Sh.lists ss).flatten) : ∃ i at' th, Seek (Sh.lists ss) x i at' th := by
  have hne' : ∀ l, l ∈ Sh.lists ss → l ≠ [] := by
    intro l hl
    obtain ⟨s, hss, rfl⟩ := List.mem_map.1 hl
    exact hne s hss
  obtain ⟨k, hk, h1, h2⟩ := cut_at x _ (firsts_rise _ hne' hs)
  rw [List.length_map] at hk
  by_cases h0 : ∃ h : k < (Sh.lists ss).length, cmpH (firstH (Sh.lists ss)[k]) x = 0
  · obtain ⟨h, h0⟩ := h0
    exact ⟨k, 0, true, seek_first hs h h0 hne'⟩
  · have hno : ∀ h : k < (Sh.lists ss).length, 0 < cmpH (firstH (Sh.lists ss)[k]) x := fun h => by
      have h3 := h2 k (by rw [List.length_map]; exact h) (Nat.le_refl _)
      rw [List.getElem_map] at h3
      have h4 : ¬ cmpH (firstH (Sh.lists ss)[k]) x = 0 := fun h5 => h0 ⟨h, h5⟩
      omega
    cases k with
    | zero => exact ⟨0, 0, false, seek_zero hs hne' hno⟩
    | succ j =>
      have hj : j < (Sh.lists ss).length := by omega
      have hsrt : SrtH (Sh.lists ss)[j] := by
        have := hs
        rw [flat_split _ j 0 hj] at this
        have h3 := (List.pairwise_append.1 (List.pairwise_append.1 this).2.1).1
        rw [List.drop_zero, show (Sh.lists ss).getD j [] = (Sh.lists ss)[j] by simp [hj]] at h3
        exact h3
      obtain ⟨m, hm, hm1, hm2⟩ := cut_at x _ hsrt
      have h5 := h1 j (by rw [List.length_map]; exact hj) (by omega)
      rw [List.getElem_map] at h5
      exact ⟨j, m, decide (∃ h : m < (Sh.lists ss)[j].length, cmpH ((Sh.lists ss)[j][m]) x = 0), seek_in hs hne' hj h5 hno hm hm1 hm2 decide_eq_true_iff⟩

set_option maxHeartbeats 1600000 in
theorem find_in (n : Nat) (hn : 4 ≤ n) (P : Nat) (v : Value) (ss : List Sh) (e : En) (w : World) (all : List Hd) (hPl : PlAt w P v ss) (hs : SrtH (Sh.lists ss).flatten) (hlen : (Sh.lists ss).flatten.length < 2199023255552) (hS : Sl w e.a e.xs) (hok : e.ok = true)
    (hall : ∀ i at' th, Seek (Sh.lists ss) (keyS e.k e.n e.s e.xs, 0) i at' th → ((Sh.lists ss).getD i []).drop at' ++ ((Sh.lists ss).drop (i + 1)).flatten = all) :
    CallsIn Fence.wide n Try.prog 30 #[.pointer (some ⟨P, 0, none⟩), e.dv] w fun r w' => ∃ v', r = .returned (.tuple #[v', .int .i64 0]) ∧ IRow w.heap.size w' v' ((all.takeWhile fun y => decide (y.1 = keyS e.k e.n e.s e.xs)).map (·.2)) ∧ Below w.heap.size w w' := by
  have h1 : 1 ≤ n := by omega
  obtain ⟨k, nn, s, a, xs, lc, t⟩ := e
  have hPt := hPl.rack.lt
  have HK : Hid (∀ W, Below w.heap.size w W → CallsIn Fence.wide (n - 1) Try.prog 50 #[.pointer (some ⟨P, 0, none⟩), .agg #[.int .i64 k, .int .i64 nn, .string s, .slice a xs.length lc]] W fun e w' => e = .returned (.tuple #[.string (keyS k nn s xs), .int .i64 0]) ∧ Below W.heap.size W w') :=
    Lib.hid (fun W hW => callsIn_wide.2 (keyOf_ok P k nn s a xs lc W ((hW.cell (p := ⟨P, 0, none⟩) hPt).trans hPl.self) (Nat.lt_of_lt_of_le hPt hW.size) (hS.below hW (Nat.le_refl _)) hok))
  obtain ⟨ky, hky⟩ : ∃ ky, ky = keyS k nn s xs := ⟨_, rfl⟩
  simp only [] at hall
  unfold En.dv
  simp only []
  rw [← hky] at HK hall ⊢
  obtain ⟨ll, hll⟩ : ∃ ll, ll = xs.length := ⟨_, rfl⟩
  rw [← hll] at HK ⊢
  have HALL := Lib.hid hall
  have HP := Lib.hid hPl
  have HSS := Lib.hid hs
  have HLL := Lib.hid hlen
  have HFR : Hid (∀ W, CallsIn Fence.wide (n - 1) Try.prog 28 #[.pointer (some ⟨P, 1, none⟩), .agg #[.string ky, .int .i64 0]] W fun e w' => e = .returned (.func (.func 47) #[] #[.pointer (some ⟨W.heap.size, 0, none⟩), .pointer (some ⟨W.heap.size + 1, 0, none⟩)]) ∧
    w' = (W.alloc (.cells #[.pointer (some ⟨P, 1, none⟩)] 99)).alloc (.cells #[.string ky, .int .i64 0] 80)) := Lib.hid (fun W => callsIn_wide.2 (from_any P (ky, 0) W))
  clear hall hPl hs hlen hS hok hky hll
  have hF1 : Fence.wide.fn 50 := trivial
  have hF2 : Fence.wide.fn 28 := trivial
  refine callsIn_of_wp_marks Try.func30 rfl trivial ?_ rfl
  simp only [Try.ntmps30, List.size_toArray, List.length_cons, List.length_nil, Nat.reduceAdd, Nat.reduceSub, Array.replicate_succ, Array.replicate_zero, List.push_toArray, List.append_toArray, List.nil_append, List.cons_append]
  gi_wp2_with fail
  refine (HK.out _ ((Below.refl _ _).alloc (Nat.le_refl _) _)).mono ?_
  rintro e w1 ⟨rfl, hb1⟩
  have HB1 : Hid (Below w.heap.size w w1) := Lib.hid (below_al _ hb1)
  have hP1 : P < w1.heap.size := by have := hb1.size; simp at this; omega
  clear hb1
  gi_wp2_with fail
  refine wpIn_wide.2 ?_
  refine wp_region_noPanic ?_
  go_region_law (go_simp; go_at_call 28; refine (callsIn_wide.1 (HFR.out _)).mono ?_; rintro e w' ⟨rfl, rfl⟩)
  refine NoPanic.normal ?_
  gi_wp2_with fail
  obtain ⟨W0, hW0⟩ : ∃ W0, W0 = ((((w1.alloc (.cells #[.string ky] 9)).alloc (.cells #[.slice none 0 0] 28)).alloc (.cells #[.pointer (some ⟨P, 1, none⟩)] 99)).alloc (.cells #[.string ky, .int .i64 0] 80)).drew := ⟨_, rfl⟩
  rw [← hW0]
  have hsz : W0.heap.size = w1.heap.size + 1 + 1 + 1 + 1 := by rw [hW0]; simp
  have hB0 : Below w1.heap.size w1 W0 := by rw [hW0]; exact (((((Below.refl _ _).alloc (Nat.le_refl _) _).alloc (by simp) _).alloc (by simp; omega) _).alloc (by simp; omega) _).drew
  have bK : Boxed W0 w1.heap.size 9 (.string ky) := by
    rw [hW0]; exact (((Boxed.new w1 9 (.string ky)).alloc _).alloc _).alloc _
  have bL : Boxed W0 (w1.heap.size + 1) 28 (.slice none 0 0) := by
    have := Boxed.new (w1.alloc (.cells #[.string ky] 9)) 28 (.slice none 0 0)
    rw [World.size_alloc] at this
    rw [hW0]; exact (this.alloc _).alloc _
  have hr0 : W0.cell? ⟨w1.heap.size + 1 + 1, 0, none⟩ = some (.pointer (some ⟨P, 1, none⟩)) := by
    have := Boxed.new ((w1.alloc (.cells #[.string ky] 9)).alloc (.cells #[.slice none 0 0] 28)) 99 (.pointer (some ⟨P, 1, none⟩))
    rw [World.size_alloc, World.size_alloc] at this
    rw [hW0]; exact (this.alloc _).cell
  have hh0 : W0.cell? ⟨w1.heap.size + 1 + 1 + 1, 0, none⟩ = some (.string ky) := by rw [hW0]; exact top0d (by simp)
  have hh1 : W0.cell? ⟨w1.heap.size + 1 + 1 + 1, 1, none⟩ = some (.int .i64 0) := by rw [hW0]; exact top1d (by simp)
  have hBw : Below w.heap.size w W0 := HB1.out.trans (hB0.mono HB1.out.size)
  have hRK : RackAt W0 P v ss := HP.out.rack.below hBw
  have hww : w.heap.size ≤ w1.heap.size := HB1.out.size
  have HLA : Hid (all.length < 2199023255552) := Lib.hid (by
    obtain ⟨i, at', th, hsk⟩ : ∃ i at' th, Seek (Sh.lists ss) (ky, 0) i at' th := seek_exists hRK.ne HSS.out
    have h2 := congrArg List.length hsk.split
    rw [HALL.out i at' th hsk, List.length_append] at h2
    have := HLL.out
    omega)
  obtain ⟨i0, hi, hz0, hz1, hz2⟩ := info_parts Try.infoInt
  have hKW : ∀ k, (bl P v ss k ∨ k = w1.heap.size + 1 + 1 ∨ k = w1.heap.size + 1 + 1 + 1) → k < W0.heap.size ∧ k ≠ w1.heap.size + 1 := fun k hk => by
    rcases hk with h | rfl | rfl
    · have := HP.out.rack.bl_lt k h
      omega
    · omega
    · omega
  have HKW := Lib.hid hKW
  have HBw := Lib.hid hBw
  have HI : ∃ I : List Hd → World → Prop, Hid (∀ pre W, I pre W ↔ ((∃ v', Boxed W (w1.heap.size + 1) 28 v' ∧ W.ownsRow W0.heap.size 3 1 v' pre.length ((pre.map (·.2)).map (Value.int .i64))) ∧ Boxed W w1.heap.size 9 (.string ky) ∧ Below w.heap.size w W ∧ W0.heap.size ≤ W.heap.size ∧ ∀ y, y ∈ pre → y.1 = ky)) := ⟨_, Lib.hid (fun _ _ => Iff.rfl)⟩
  obtain ⟨I, HI⟩ := HI
  have hIown : OwnFrom W0.heap.size I := fun pre A B row hi hg hrow => by
    obtain ⟨⟨v', hv, hr⟩, hk, hB, hN, hy⟩ := (HI.out _ _).1 hi
    have hne : ∀ (j : Nat) (cs : Array Value) (T : TypeId) (fz : Nat × Nat), A.heap[j]? = some (.cells cs T fz) → some j ≠ row := fun j cs T fz hj e => by
      obtain ⟨_, o, ho, hc⟩ := hrow j e.symm
      rw [hj] at ho
      cases ho
      cases hc
    refine (HI.out _ _).2 ⟨⟨v', hv.kept hg (hne _ _ _ _ hv), ?_⟩, hk.kept hg (hne _ _ _ _ hk), ?_, Nat.le_trans hN hg.size, hy⟩
    · refine ownsRow_of_block hr (fun k hk => hg.block k (hr.lt k hk).2 ?_)
      rcases hr.2 with ⟨rfl, _⟩ | ⟨g, cap, cur, rfl, _, hgb, _⟩
      · cases hk
      · cases hk
        exact hne _ _ _ _ hgb
    · refine hB.grown hg hB.size (fun k e => ?_)
      have := (hrow k e).1
      omega
  have HIX : ∃ Ix : Code → List Hd → World → Prop, Hid (∀ c pre W, Ix c pre W ↔ (c = .exit 0 ∧ ∃ pre' y, pre = pre' ++ [y] ∧ y.1 ≠ ky ∧ I pre' W)) := ⟨_, Lib.hid (fun _ _ _ => Iff.rfl)⟩
  obtain ⟨Ix, HIX⟩ := HIX
  have HSZ := Lib.hid hsz
  clear hsz hW0
  refine wpIn_rangeFunc_ownH (w0 := W0) rfl h1 (gf := 47) (lb := #[.pointer (some ⟨w1.heap.size + 1 + 1, 0, none⟩), .pointer (some ⟨w1.heap.size + 1 + 1 + 1, 0, none⟩)]) rfl trivial (enters_of Try.func47 (by kernel_rfl) rfl)
    (from_stops (n - 1) (by omega) P (w1.heap.size + 1 + 1) (w1.heap.size + 1 + 1 + 1) v ss (ky, 0) W0 all hRK HSS.out HLL.out HALL.out (fun k => bl P v ss k ∨ k = w1.heap.size + 1 + 1 ∨ k = w1.heap.size + 1 + 1 + 1) (fun k h => .inl h) (.inr (.inl rfl)) (.inr (.inr rfl)) (fun k h => (HKW.out k h).1) hr0 hh0 hh1)
    KpB.trans (fun W l o o' hl ho _ _ k hk => by
      have h5 := (HKW.out k hk).1
      have h6 := (Array.getElem?_eq_some_iff.1 ho).1
      exact grown_ne (grownBy_putObj' W l o') ⟨by omega, by omega⟩) (Below.refl _ _) (fun _ => rfl) I
    Ix hIown (fun c pre A B row hs hg hrow => by obtain ⟨h1, p', y, h2, h3, h4⟩ := (HIX.out _ _ _).1 hs; exact (HIX.out _ _ _).2 ⟨h1, p', y, h2, h3, hIown p' A B row h4 hg hrow⟩)
    ((HI.out _ _).2 ⟨⟨_, bL, World.ownsRow_nil _ _ _ _⟩, bK, hBw, Nat.le_refl _, fun y hy => (by cases hy)⟩)
    (fun y a' W => ∃ Bx, W0.heap.size ≤ Bx ∧ W.heap[Bx]? = some (.cells #[.string y.1, .int .i64 y.2] 80 (0, 0)) ∧ a' = { tmps := #[.pointer (some ⟨P, 0, none⟩), .agg #[.int .i64 k, .int .i64 nn, .string s, .slice a ll lc], undef, .pointer (some ⟨w.heap.size, 0, none⟩), .slice none 0 0, .int .i64 0, .pointer (some ⟨w1.heap.size, 0, none⟩), .int .i64 0, .pointer (some ⟨w1.heap.size + 1, 0, none⟩), .pointer (some ⟨Bx, 0, none⟩), .tuple #[.string ky, .int .i64 0], .pointer (some ⟨P, 0, none⟩), .agg #[.int .i64 k, .int .i64 nn, .string s, .slice a ll lc], .tuple #[.string ky, .int .i64 0], .string ky, .int .i64 0, .int .i64 0, .bool false, undef, .pointer (some ⟨P, 0, none⟩), .pointer (some ⟨P, 0, none⟩), .pointer (some ⟨P, 1, none⟩), .string ky, .agg #[.string ky, .int .i64 0], .func (.func 47) #[] #[.pointer (some ⟨w1.heap.size + 1 + 1, 0, none⟩), .pointer (some ⟨w1.heap.size + 1 + 1 + 1, 0, none⟩)], hdV y, undef, undef, undef, undef, undef, undef, undef, undef, undef, undef], defers := [] })
    (fun y a' _ A B row hs hg hrow => by
      obtain ⟨Bx, h1, h2, h3⟩ := hs
      refine ⟨Bx, h1, (hg.block Bx (Array.getElem?_eq_some_iff.1 h2).1 (fun e => ?_)).trans h2, h3⟩
      obtain ⟨_, o, ho, hc⟩ := hrow Bx e.symm
      rw [h2] at ho
      cases ho
      cases hc) ?assign ?body ?done ?stop
  case assign =>
    rintro l pre ⟨yk, yt⟩ W K hi hK
    have HKK := Lib.hid hK
    have HII := Lib.hid hi
    clear hK hi
    unfold hdV
    gi_wp2
    obtain ⟨_, _, _, hNW, _⟩ := (HI.out _ _).1 HII.out
    exact HKK.out _ _ ((KeepsOthers.alloc _ _).from _) (KpB.below ((Below.refl _ _).alloc (Nat.le_refl _) _) (fun k hk => by have := (HKW.out k hk).1; omega)) (hIown pre _ _ none HII.out (World.grownBy_alloc W _ none) (fun r h => by cases h)) ⟨W.heap.size, hNW, new_heap W _, rfl⟩
  case body =>
    rintro l pre ⟨yk, yt⟩ a' W hl ⟨r, hr⟩ hi ⟨Bx, hBx, bX, rfl⟩ hlt
    have hii := (HI.out _ _).1 hi
    obtain ⟨⟨v', hv, hrow⟩, hk, hB, hN, hy⟩ := hii
    have x0 : W.cell? ⟨Bx, 0, none⟩ = some (.string yk) := by rw [Lib.cell_of_heap bX]; rfl
    have x1 : W.cell? ⟨Bx, 1, none⟩ = some (.int .i64 yt) := by rw [Lib.cell_of_heap bX]; rfl
    have hc := hv.cell
    have hkc := hk.cell
    have HIi := Lib.hid hi
    have HY := Lib.hid hy
    have HBB := Lib.hid hB
    have HK' := Lib.hid hk
    have HV := Lib.hid hv
    have hla := HLA.out
    have hvne : ∀ g c nn2, v' = .slice (some ⟨g, 0, none⟩) nn2 c → W0.heap.size ≤ g := fun g c nn2 h => by have := (hrow.lt g (by rw [h]; rfl)).1; exact this
    have HVNE := Lib.hid hvne
    clear hi hy hB hk hv hvne
    have HBX : Hid (∀ w2, (W.alloc (.cells #[.int .i64 yt] 3)).grownBy w2 v'.ownBlock → Boxed w2 (w1.heap.size + 1) 28 v') := Lib.hid (fun w2 hg => (HV.out.alloc _).kept hg (fun e => by have := (hrow.lt _ e.symm).1; have := HSZ.out; omega))
    have HFINB : Hid (∀ w2 g' cap', (W.alloc (.cells #[.int .i64 yt] 3)).grownBy w2 v'.ownBlock → w2.ownsRow W0.heap.size 3 1 (.slice (some ⟨g', 0, none⟩) (pre.length + 1) cap') (pre.length + 1) ((pre.map (·.2)).map (Value.int .i64) ++ [.int .i64 yt]) → yk = ky →
        KeepsFrom W0.heap.size W (w2.setCell ⟨w1.heap.size + 1, 0, none⟩ (.slice (some ⟨g', 0, none⟩) (pre.length + 1) cap')) ∧ KpB (fun k => bl P v ss k ∨ k = w1.heap.size + 1 + 1 ∨ k = w1.heap.size + 1 + 1 + 1) W (w2.setCell ⟨w1.heap.size + 1, 0, none⟩ (.slice (some ⟨g', 0, none⟩) (pre.length + 1) cap')) ∧ I (pre ++ [(yk, yt)]) (w2.setCell ⟨w1.heap.size + 1, 0, none⟩ (.slice (some ⟨g', 0, none⟩) (pre.length + 1) cap'))) := Lib.hid (fun w2 g' cap' hg ho hyk => by
      have hsz := HSZ.out
      have hrl : ∀ j, v'.ownBlock = some j → W0.heap.size ≤ j := fun j h => (hrow.lt j h).1
      have hgl : W0.heap.size ≤ g' := (ho.lt g' rfl).1
      have hgne : g' ≠ w1.heap.size + 1 := by omega
      have hold : ∀ k, k < W0.heap.size → k ≠ w1.heap.size + 1 → (w2.setCell ⟨w1.heap.size + 1, 0, none⟩ (.slice (some ⟨g', 0, none⟩) (pre.length + 1) cap')).heap[k]? = W.heap[k]? := fun k h7 h8 => by
        rw [Below.heap_setCell _ _ _ _ h8, hg.block k (by simp; omega) (fun e => by have := hrl _ e.symm; omega)]
        exact Below.heap_alloc _ _ _ (by omega)
      refine ⟨?_, fun k hk => hold k (HKW.out k hk).1 (HKW.out k hk).2, (HI.out _ _).2 ⟨⟨_, (HBX.out w2 hg).set _, ?_⟩, (hold _ (by omega) (by omega)).trans HK'.out, ?_, ?_, ?_⟩⟩
      · refine (((KeepsOthers.alloc W _).trans (KeepsOthers.of_grownBy hg ?_)).trans (KeepsOthers.setCell _ _ _)).from _
        intro j o hj ho2
        rcases hrow.2 with ⟨rfl, _⟩ | ⟨g, cap, cur, rfl, _, hgb, _⟩
        · cases hj
        · cases hj
          rw [Below.heap_alloc _ _ _ (Array.getElem?_eq_some_iff.1 hgb).1, hgb] at ho2
          cases ho2
          rfl
      · have : ((pre ++ [(yk, yt)]).map (·.2)).map (Value.int .i64) = (pre.map (·.2)).map (Value.int .i64) ++ [.int .i64 yt] := by simp
        rw [this, List.length_append, List.length_singleton]
        exact ownsRow_of_block ho (fun k hk => by cases hk; exact Below.heap_setCell _ _ _ _ hgne)
      · exact ((HBB.out.alloc HBB.out.size _).grown hg (by have := HBB.out.size; simp; omega) (fun k e => by have := hrl k e; omega)).setCell (p := ⟨w1.heap.size + 1, 0, none⟩) (by show w.heap.size ≤ w1.heap.size + 1; omega) _
      · have := hg.size
        simp only [World.setCell, Array.size_modify, World.size_alloc] at this ⊢
        omega
      · intro y hy'
        rcases List.mem_append.1 hy' with h7 | h7
        · exact HY.out y h7
        · rw [List.mem_singleton.1 h7]; exact hyk)
    unfold hdV
    by_cases hyk : yk = ky
    · have hb : (yk.toList != ky.toList) = false := by rw [hyk]; simp
      have hb' : (yk.toList == ky.toList) = true := by rw [hyk]; simp
      have HYK := Lib.hid hyk
      clear hyk
      gi_wp2_with (gi_at_builtin; refine wpListIn_append_own _ rfl _ _ 28 rfl W0.heap.size 3 i0 (.int .i64 0) 1 8 Try.underlying28 hi hz0 hz1 hz2 rfl (by decide) _ _ _ rfl (hrow.alloc _) ⟨W.heap.size, 0, none⟩ 1 1 [.int .i64 yt] rfl rfl (cell_one_new _ _ _) (by simp [Value.oneCell']) (by unfold maxLen; omega) (by omega) (by simp; omega) ?_; intro v2 w2 hown' hgrow _; obtain ⟨g', cap', rfl⟩ := ownsRow_succ hown'; have b2 := HBX.out _ hgrow; have c2 := b2.cell; have f2 := b2.frozen)
      exact HFINB.out _ _ _ hgrow hown' HYK.out
    · have hb : (yk.toList != ky.toList) = true := by
        rw [bne_iff_ne]
        intro h
        rw [ByteArray.toList_eq, ByteArray.toList_eq] at h
        exact hyk (ba_eq h)
      have hb2 : (yk.toList == ky.toList) = false := by simpa using hb
      have HYK := Lib.hid hyk
      clear hyk
      gi_wp2
      exact ⟨KeepsFrom.refl _ _, (HIX.out _ _ _).2 ⟨rfl, pre, (yk, yt), rfl, HYK.out, HIi.out⟩⟩
  case done =>
    rintro D ys W hD rfl hi hK
    obtain ⟨⟨v', hv, hrow⟩, hk, hB, hN, hy⟩ := (HI.out _ _).1 hi
    have hc := hv.cell
    gi_wp2
    refine ⟨by simp, .inl ⟨_, _, rfl, run_takeDeferred hK, ?_⟩⟩
    have hall2 : ys.takeWhile (fun y => decide (y.1 = ky)) = ys := takeWhile_all (fun y h => decide_eq_true (hy y h))
    refine ⟨_, results_tmp2 rfl _ _ _, v', rfl, ?_, ?_⟩
    · rw [hall2]
      have h8 := ownsRow_putObj hrow (.deferred none) hK rfl
      unfold IRow
      rw [List.length_map]
      exact ownsRow_base h8 HBw.out.size
    · exact hB.trans (belowK_b (w := w) (Nat.le_refl _) W D _ _ (Nat.le_trans HBw.out.size hD) hK rfl rfl)
  case stop =>
    rintro D c pre W hD hpre hix hK
    obtain ⟨rfl, pre', y, hp, hyk, hi⟩ := (HIX.out _ _ _).1 hix
    obtain ⟨⟨v', hv, hrow⟩, hk, hB, hN, hy⟩ := (HI.out _ _).1 hi
    have hc := hv.cell
    gi_wp2
    refine ⟨by simp, .inl ⟨_, _, rfl, run_takeDeferred hK, ?_⟩⟩
    have hall2 : all.takeWhile (fun y => decide (y.1 = ky)) = pre' := by
      obtain ⟨tl, htl⟩ := hpre
      rw [← htl, hp, List.append_assoc]
      exact takeWhile_stop (fun y h => decide_eq_true (hy y h)) (decide_eq_false hyk)
    refine ⟨_, results_tmp2 rfl _ _ _, v', rfl, ?_, ?_⟩
    · rw [hall2]
      have h8 := ownsRow_putObj hrow (.deferred none) hK rfl
      unfold IRow
      rw [List.length_map]
      exact ownsRow_base h8 HBw.out.size
    · exact hB.trans (belowK_b (w := w) (Nat.le_refl _) W D _ _ (Nat.le_trans HBw.out.size hD) hK rfl rfl)
end Go.Proofs.Ytnnmigglcpkomaa.Dm
