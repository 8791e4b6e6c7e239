/- Texts of the same proof, one behind the other: FH, FI, HQ, FJ. -/
import Derived.Test.YtijggofelepaaaaGreatDoorMAO
/- Contract: the sheets on pages with at least a mark, handed over one by one. -/
set_option maxRecDepth 100000
namespace Go.Proofs.YtijggofelepaaaaGreatDoor
open Go Go.RowKit Go.Shelf
attribute [local go_sem] Oper.semAt_some

set_option maxHeartbeats 400000 in
theorem sheets_any (hb a : Nat) (w : World) : Calls Tryz.prog 154 #[.pointer (some ⟨hb, 0, none⟩), .int .i64 a] w fun e w' => e = .returned (.func (.func 189) #[] #[.pointer (some ⟨w.heap.size, 0, none⟩), .pointer (some ⟨w.heap.size + 1, 0, none⟩)]) ∧
    w' = (w.alloc (.cells #[.pointer (some ⟨hb, 0, none⟩)] 70)).alloc (.cells #[.int .i64 a] 3) := by
  go_enter Tryz.func154, Tryz.ntmps154
  go_wp2
  go_ret
  exact ⟨rfl, rfl⟩

theorem neq_sheet_nil (w : World) (a : Addr) : (binOp .neq 122 (.pointer (some a)) (.pointer none)).run Tryz.prog w = .ok (.bool true) w := by
  have h : ∀ d : Nat, (Op.equalIn (d + 1) 122 (.pointer (some a)) (.pointer none)).run Tryz.prog w = .ok false w := fun d => by
    simp [Op.equalIn, run_underlying Tryz.underlying122, sizeOf, typeInfo]
  simp only [binOp]
  simp [Op.equal, Op.maxDepth, h 9999]

set_option maxHeartbeats 3200000 in
theorem sheets1_in {J : List RawOp → Prop} {B : Nat} {c : Ac} {h : Hd} {G : Nat → List UInt8} {hb r a hx lx l n base : Nat} {L : Nat → List Pl} {ch : Nat → Nat} (hn : 4 ≤ n) (hr : r < 16) (ha : 0 < a) (hL : ∀ q, h.has q → (G q).length = 512) (hon : HpOn h G (h.root r) L ch)
    (C : Nat → Prop) (Js Jx : (Nat → Prop) → List Nat → World → Prop) (hC : ∀ k, C k → ¬ (base ≤ k ∧ k < base + 5)) (hb1 : 1 ≤ base)
    (hI : ∀ S s W, Js S s W → HeapAt W hb c.a r ∧ ¬ S hb ∧ W.cell? ⟨hx, 0, none⟩ = some (.pointer (some ⟨hb, 0, none⟩)) ∧ W.cell? ⟨lx, 0, none⟩ = some (.int .i64 a))
    (hJ : ∀ S A S' B' s, ActV J B S c h G A → Js S s A → Turn S A S' B' → ActV J B S' c h G B' → Js S' s B')
    (hcl : Cl base Js) (hcx : Cl base Jx)
    (hY : ∀ S pre q sb W1, ActV J B S c h G W1 → Js S pre W1 → base + 5 ≤ sb → SheetAt W1 sb q (L q) → ¬ S sb → L q ≠ [] → pre ++ [q] <+: pgs L a 5040 → YieldAt Fence.wide (n - 1 - 1 - 1) Tryz.prog l #[.pointer (some ⟨sb, 0, none⟩)] W1 (YPost J B c h G C Js Jx S (pre ++ [q]) W1))
    (S : Nat → Prop) (W : World) (hbW : base = W.heap.size) (x : ActV J B S c h G W) (h0 : Js S [] W) (hhx : hx < W.heap.size) (hlx : lx < W.heap.size) :
    CallsIn Fence.wide n Tryz.prog 189 #[.func (.yield l) #[] #[], .pointer (some ⟨hx, 0, none⟩), .pointer (some ⟨lx, 0, none⟩)] W (SeqEnd J B c h G Js Jx (pgs L a 5040)) := by
  have hup := hon.upq a
  obtain ⟨i1, i2, i3, i4⟩ := hI _ _ _ h0
  obtain ⟨vb, hvb⟩ : ∃ vb, vb = W.heap.size := ⟨_, rfl⟩
  obtain ⟨Wv, hWv⟩ : ∃ Wv, Wv = W.alloc (.cells #[.func (.yield l) #[] #[]] 252) := ⟨_, rfl⟩
  have hbv : Below W.heap.size W Wv := by rw [hWv]; exact (Below.refl _ _).alloc (Nat.le_refl _) _
  have i3' : Wv.cell? ⟨hx, 0, none⟩ = some (.pointer (some ⟨hb, 0, none⟩)) := (hbv.cell (p := ⟨hx, 0, none⟩) hhx).trans i3
  have i4' : Wv.cell? ⟨lx, 0, none⟩ = some (.int .i64 a) := (hbv.cell (p := ⟨lx, 0, none⟩) hlx).trans i4
  have HM := Lib.hid (callsIn_wide (n := n - 1).2 (marked_any hb a Wv))
  have HWV := Lib.hid hWv
  have HVB := Lib.hid hvb
  have HBV := Lib.hid hbv
  have HX := Lib.hid (And.intro x h0)
  have HI := Lib.hid hI
  have HJ := Lib.hid hJ
  have HCL := Lib.hid hcl
  have HCX := Lib.hid hcx
  have HY := Lib.hid hY
  have HC := Lib.hid hC
  have HUP := Lib.hid hup
  have HON := Lib.hid hon
  have HLN := Lib.hid hL
  have HBW := Lib.hid hbW
  clear hI hJ hcl hcx hY hC hup hon hL hbW x h0 hvb i1 i2 i3 i4 hbv
  refine callsIn_of_wp_marks Tryz.func189 rfl trivial ?_ rfl
  simp only [Tryz.ntmps189, List.size_toArray, List.length_cons, List.length_nil, Nat.reduceAdd, Nat.reduceSub, Array.replicate_succ, Array.replicate_zero, List.push_toArray, List.append_toArray, List.nil_append, List.cons_append]
  have hd1 : 1 ≤ n := by omega
  have hd2 : 1 ≤ n - 1 := by omega
  have hd3 : 1 ≤ n - 1 - 1 := by omega
  have hF1 : Fence.wide.fn 113 := trivial
  have hF2 : Fence.wide.fn 111 := trivial
  rw [hWv] at i3' i4'
  gi_wp2_with fail
  rw [← HWV.out, ← HVB.out]
  refine HM.out.mono ?_
  rintro e w1 ⟨rfl, hw1⟩
  have HW1 := Lib.hid hw1
  clear i3' i4' hw1 hWv
  gi_wp2_with fail
  have hw1 := HW1.out
  obtain ⟨hx2, hhx2⟩ : ∃ hx2, hx2 = Wv.heap.size := ⟨_, rfl⟩
  rw [← hhx2]
  refine range_outer (m := n - 1) (gf := 158) (lb := #[.pointer (some ⟨hx2, 0, none⟩), .pointer (some ⟨hx2 + 1, 0, none⟩)]) rfl (enters_of Tryz.func158 (by kernel_rfl) rfl) ?_
  intro fn rec hrec
  obtain ⟨D, hD⟩ : ∃ D, D = w1.heap.size := ⟨_, rfl⟩
  rw [← hD] at hrec ⊢
  obtain ⟨W0, hW0⟩ : ∃ W0, W0 = (w1.alloc (.deferred (some []))).alloc (.loop (rec .ready none)) := ⟨_, rfl⟩
  rw [← hW0]
  have z1 : hx2 = vb + 1 := by rw [hhx2, HWV.out, World.size_alloc, ← HVB.out]
  have z2 : D = vb + 3 := by rw [hD, hw1, World.size_alloc, World.size_alloc, ← hhx2, z1]
  have z3 : W0.heap.size = vb + 5 := by rw [hW0, World.size_alloc, World.size_alloc, ← hD, z2]
  have hB1 : Below W.heap.size W w1 := by
    rw [hw1]
    exact (HBV.out.alloc HBV.out.size _).alloc (by have := HBV.out.size; simp; omega) _
  have hB0 : Below W.heap.size W W0 := by
    rw [hW0]
    exact (hB1.alloc hB1.size _).alloc (by have := hB1.size; simp; omega) _
  have g4 : W0.heap[D + 1]? = some (.loop (rec .ready none)) := by
    have := World.alloc_heap_new (w1.alloc (.deferred (some []))) (.loop (rec .ready none))
    rw [World.size_alloc, ← hD] at this
    rw [hW0]; exact this
  have g3 : W0.heap[D]? = some (.deferred (some [])) := by
    rw [hW0, Below.heap_alloc _ _ _ (by simp; omega), hD]; exact World.alloc_heap_new w1 _
  have g2 : W0.heap[hx2 + 1]? = some (.cells #[.int .i64 a] 3 (0, 0)) := by
    rw [hW0, Below.heap_alloc _ _ _ (by simp; omega), Below.heap_alloc _ _ _ (by omega), hw1]
    have := heap_alloc_new (Wv.alloc (.cells #[.pointer (some ⟨hb, 0, none⟩)] 70)) (.cells #[.int .i64 a] 3)
    rw [World.size_alloc, ← hhx2] at this
    exact this
  have g1 : W0.heap[hx2]? = some (.cells #[.pointer (some ⟨hb, 0, none⟩)] 70 (0, 0)) := by
    rw [hW0, Below.heap_alloc _ _ _ (by simp; omega), Below.heap_alloc _ _ _ (by omega), hw1, Below.heap_alloc _ _ _ (by simp; omega), hhx2]
    exact heap_alloc_new Wv _
  have g0 : W0.heap[vb]? = some (.cells #[.func (.yield l) #[] #[]] 252 (0, 0)) := by
    rw [hW0, Below.heap_alloc _ _ _ (by simp; omega), Below.heap_alloc _ _ _ (by omega), hw1, Below.heap_alloc _ _ _ (by simp; omega), Below.heap_alloc _ _ _ (by omega), HWV.out, HVB.out]
    exact heap_alloc_new W _
  obtain ⟨X, hXd⟩ : ∃ X : Nat → Prop, Hid (∀ k, X k ↔ (vb ≤ k ∧ k < vb + 5)) := ⟨fun k => vb ≤ k ∧ k < vb + 5, Lib.hid (fun _ => Iff.rfl)⟩
  have hXl : ∀ k, X k → k < W0.heap.size := fun k hk => by have := (hXd.out k).1 hk; omega
  have hXC : ∀ k, X k → ¬ C k := fun k hk hc => by have := (hXd.out k).1 hk; have := HC.out k hc; have := HBW.out; have := HVB.out; omega
  have HG := Lib.hid (And.intro g0 (And.intro g1 (And.intro g2 (And.intro g3 g4))))
  have HXL := Lib.hid hXl
  have HXC := Lib.hid hXC
  have HZ := Lib.hid (And.intro z1 (And.intro z2 z3))
  have hact : ActV J B S c h G W0 := HX.out.1.below hB0
  have hjs : Js S [] W0 := HJ.out _ _ _ _ _ HX.out.1 HX.out.2 (Turn.ofBelow hB0) hact
  have hfix : Fix X W0 S W0 := fun k hk => ⟨rfl, fun hs => by have := (HX.out.1.low k hs).2; have := (hXd.out k).1 hk; have := HVB.out; omega⟩
  have hbase : base = vb := by rw [HBW.out, HVB.out]
  have HREC := Lib.hid hrec
  have HBS := Lib.hid hbase
  clear hXl hXC hw1 hD hW0 hhx2 g0 g1 g2 g3 g4 hB1 z1 z2 z3 hrec hbase
  refine CallsIn.mono (marked1_in (n := n - 1) (hb := hb) (hx := hx2) (lx := hx2 + 1) (r := r) hd2 hd3 hr ha HLN.out (fun k => C k ∨ k = D + 1) (fun S s W' => Js S s W' ∧ Fix X W0 S W')
    (fun S s W' => Jx S s W' ∧ ¬ S (D + 1) ∧ ¬ S D ∧ W'.heap[D + 1]? = some (.loop (rec .done (some .ret))) ∧ W'.heap[D]? = some (.deferred (some []))) ?hI ?hJ ?hY S W0 hact ⟨hjs, hfix⟩) ?fin
  case hI =>
    rintro S2 s W2 ⟨h1, h2⟩
    obtain ⟨a1, a2, _, _⟩ := HI.out _ _ _ h1
    obtain ⟨q1, q2, q3, q4, q5⟩ := HG.out
    obtain ⟨z1, z2, z3⟩ := HZ.out
    refine ⟨a1, a2, ?_, ?_⟩
    · rw [World.cell?_of_block (w := W0) (h2 hx2 ((hXd.out _).2 (by omega))).1, Lib.cell_of_heap q2]; rfl
    · rw [World.cell?_of_block (w := W0) (h2 (hx2 + 1) ((hXd.out _).2 (by omega))).1, Lib.cell_of_heap q3]; rfl
  case hJ =>
    rintro S2 A S3 A' s hA ⟨h1, h2⟩ hT hA'
    exact ⟨HJ.out _ _ _ _ _ hA h1 hT hA', h2.turn HXL.out (hT.toC C) HXC.out⟩
  case hY =>
    rintro S2 pre q W2 hA ⟨hjs2, hfx⟩ hq5 hpf
    obtain ⟨q0, q1, q2, q3, q4⟩ := HG.out
    obtain ⟨z1, z2, z3⟩ := HZ.out
    rw [HUP.out] at hpf
    obtain ⟨hq1, hq2, hq3⟩ := pgs_mem ha (hpf.subset (by simp) : q ∈ pgs L a 5040)
    obtain ⟨t1, t2, t3, t4, t5, t6, t7⟩ := HON.out.sheet q hq1
    have hbase := HBS.out
    obtain ⟨fl, nl⟩ := hfx (D + 1) ((hXd.out _).2 (by omega))
    have hlr : W2.heap[D + 1]? = some (.loop (rec .ready none)) := fl.trans q4
    refine YieldAt.mono' (yield_round (args := #[.int .i64 q]) HREC.out hlr rfl (fun b _ W' => ∃ S', TurnC (fun k => C k ∨ k = D + 1) S2 W2 S' W' ∧ (b = true → ActV J B S' c h G W' ∧ (Js S' (pre ++ [q]) W' ∧ Fix X W0 S' W')) ∧
      (b = false → Jx S' (pre ++ [q]) W' ∧ ¬ S' (D + 1) ∧ ¬ S' D ∧ W'.heap[D + 1]? = some (.loop (rec .done (some .ret))) ∧ W'.heap[D]? = some (.deferred (some [])))) ?_) ?_
    · obtain ⟨W3, hW3⟩ : ∃ W3, W3 = W2.putObj (D + 1) (.loop (rec .busy none)) := ⟨_, rfl⟩
      have hT3 : TurnC (fun k => C k ∨ k = D + 1) S2 W2 S2 W3 := by rw [hW3]; exact put_turnC _ (.inr rfl) _
      have hA3 : ActV J B S2 c h G W3 := by rw [hW3]; exact hA.put nl (by omega) _
      have hj3 : Js S2 pre W3 := by rw [hW3]; exact HCL.out _ _ _ _ _ _ hjs2 (by omega) nl hlr rfl
      have hf3 : Fix (fun k => X k ∧ k ≠ D + 1) W0 S2 W3 := by rw [hW3]; exact (hfx.mono (fun _ hk => hk.1)).put (fun hk => hk.2 rfl) _
      have hr3 : W3.heap[D + 1]? = some (.loop (rec .busy none)) := by rw [hW3]; exact World.putObj_heap_same (Array.getElem?_eq_some_iff.1 hlr).1
      obtain ⟨a1, a2, a3, a4⟩ := HI.out _ _ _ hj3
      have HLD : Hid (CallsIn Fence.wide (n - 1 - 1 - 1) Tryz.prog 111 #[.pointer (some ⟨hb, 0, none⟩), .int .i64 q] W3 fun e W4 => ∃ sb S4, e = .returned (.pointer (some ⟨sb, 0, none⟩)) ∧ W4.cell? ⟨vb, 0, none⟩ = some (.func (.yield l) #[] #[]) ∧
          Hid (TurnC (fun k => C k ∨ k = D + 1) S2 W2 S4 W4 ∧ Fix (fun k => X k ∧ k ≠ D + 1) W0 S4 W4 ∧ W4.heap[D + 1]? = some (.loop (rec .busy none)) ∧ ¬ S4 (D + 1)) ∧ YieldAt Fence.wide (n - 1 - 1 - 1) Tryz.prog l #[.pointer (some ⟨sb, 0, none⟩)] W4 (YPost J B c h G C Js Jx S4 (pre ++ [q]) W4)) := Lib.hid (callsIn_wide.2 ((hload_any hA3 a1 q t1 (HLN.out q t1)).mono (by
        rintro e W4 ⟨sb, S4, he, hT4, hA4, hsb, hsh, hns⟩
        have hl4 : D + 1 < W3.heap.size := (Array.getElem?_eq_some_iff.1 hr3).1
        have hf4 := hf3.turn (fun k hk => HXL.out k hk.1) (hT4.toC C) (fun k hk => HXC.out k hk.1)
        have hj4 := HJ.out _ _ _ _ _ hA3 hj3 hT4 hA4
        refine ⟨sb, S4, he, ?_, Lib.hid ⟨hT3.trans (hT4.toC _), hf4, (hT4.1.block _ hl4 nl).trans hr3, fun hs => nl (hT4.2 _ hl4 hs)⟩, HY.out S4 pre q sb W4 hA4 hj4 (by omega) ?_ hns hq1 hpf⟩
        · rw [World.cell?_of_block (w := W0) (hf4 vb ⟨(hXd.out _).2 (by omega), by omega⟩).1, Lib.cell_of_heap q0]; rfl
        · have := rdSh_shP t5
          rw [← t4] at this
          rw [← this]; exact hsh)))
      have hq := fun (sb : Nat) (W : World) => neq_sheet_nil W ⟨sb, 0, none⟩
      have HW3 := Lib.hid hW3
      have HLR := Lib.hid hlr
      have HSTAY := Lib.hid (And.intro hq5 hpf)
      clear hA3 hj3 hf3 hr3 hT3 hA hjs2 hfx fl nl hlr hq5 hpf hq1 hq2 hq3 t1 t2 t3 t4 t5 t6 t7 a1 a2 a4 q0 q1 q2 q3 q4 z1 z2 z3 hact hjs hfix hW3 hbase
      gi_wp2_with fail
      refine ⟨HLR.out, ?_⟩
      rw [← HW3.out]
      gi_wp2_with (gi_at_call 111; refine (CallsIn.inRound (D + 1) HLD.out).mono ?_; rintro e W4 ⟨sb, S4, rfl, v4, HR4, fn4, tm4, as4, bo4, hyy, hRR⟩)
      refine hRR.mono ?_
      rintro e W5 ⟨bb, S5, rfl, hT5, h1, h2⟩
      obtain ⟨hT4, hf4, hr4, nl4⟩ := HR4.out
      obtain ⟨q0, q1, q2, q3, q4⟩ := HG.out
      obtain ⟨z1, z2, z3⟩ := HZ.out
      have hbase := HBS.out
      have hl4 : D + 1 < W4.heap.size := (Array.getElem?_eq_some_iff.1 hr4).1
      have hCD : ∀ k, base ≤ k → k < base + 5 → ¬ C k := fun k hk hk5 hc => HC.out k hc ⟨hk, hk5⟩
      have hf5 := hf4.turn (fun k hk => HXL.out k hk.1) hT5 (fun k hk => HXC.out k hk.1)
      have hr5 : W5.heap[D + 1]? = some (.loop (rec .busy none)) := (hT5.1.block _ hl4 (fun e => e.elim nl4 (hCD _ (by omega) (by omega)))).trans hr4
      have nl5 : ¬ S5 (D + 1) := fun hs => nl4 (hT5.2 _ hl4 hs)
      have hl5 : D + 1 < W5.heap.size := (Array.getElem?_eq_some_iff.1 hr5).1
      have hT6 : ∀ o, TurnC (fun k => C k ∨ k = D + 1) S2 W2 S5 (W5.putObj (D + 1) o) := fun o => (hT4.trans (hT5.mono (fun _ h => .inl h))).trans (put_turnC _ (.inr rfl) _)
      cases bb with
      | true =>
        obtain ⟨hA5, hj5⟩ := h1 rfl
        have HP : Hid (W5.heap[D + 1]? = some (.loop (rec .busy none)) ∧ ∃ S', TurnC (fun k => C k ∨ k = D + 1) S2 W2 S' (W5.putObj (D + 1) (.loop (rec .ready none))) ∧ ActV J B S' c h G (W5.putObj (D + 1) (.loop (rec .ready none))) ∧ (Js S' (pre ++ [q]) (W5.putObj (D + 1) (.loop (rec .ready none))) ∧ Fix X W0 S' (W5.putObj (D + 1) (.loop (rec .ready none))))) := Lib.hid
          ⟨hr5, S5, hT6 _, hA5.put nl5 (by omega) _, HCL.out _ _ _ _ _ _ hj5 (by omega) nl5 hr5 rfl, fun k hk => by
            by_cases hkD : k = D + 1
            · subst hkD; exact ⟨(World.putObj_heap_same hl5).trans q4.symm, nl5⟩
            · exact ⟨(World.putObj_heap_other hkD).trans (hf5 k ⟨hk, hkD⟩).1, (hf5 k ⟨hk, hkD⟩).2⟩⟩
        clear h1 h2 hA5 hj5 hT6 hl5 nl5 hr5 hf5 hCD hl4 hbase z1 z2 z3 q0 q1 q2 q3 q4 hT4 hf4 hr4 nl4 hT5
        gi_wp2
        obtain ⟨p1, S', p2, p3, p4⟩ := HP.out
        exact ⟨p1, S', p2, fun _ => ⟨p3, p4⟩, fun e => by cases e⟩
      | false =>
        have hx5 := h2 rfl
        obtain ⟨e3, n3⟩ := hf5 D ⟨(hXd.out _).2 (by omega), by omega⟩
        have HP : Hid (W5.heap[D + 1]? = some (.loop (rec .busy none)) ∧ ∃ S', TurnC (fun k => C k ∨ k = D + 1) S2 W2 S' (W5.putObj (D + 1) (.loop (rec .done (some .ret)))) ∧
            Jx S' (pre ++ [q]) (W5.putObj (D + 1) (.loop (rec .done (some .ret)))) ∧ ¬ S' (D + 1) ∧ ¬ S' D ∧ (W5.putObj (D + 1) (.loop (rec .done (some .ret)))).heap[D + 1]? = some (.loop (rec .done (some .ret))) ∧ (W5.putObj (D + 1) (.loop (rec .done (some .ret)))).heap[D]? = some (.deferred (some []))) := Lib.hid
          ⟨hr5, S5, hT6 _, HCX.out _ _ _ _ _ _ hx5 (by omega) nl5 hr5 rfl, nl5, n3, World.putObj_heap_same hl5, (World.putObj_heap_other (by omega)).trans (e3.trans q3)⟩
        clear h1 h2 hx5 e3 n3 hT6 hl5 nl5 hr5 hf5 hCD hl4 hbase z1 z2 z3 q0 q1 q2 q3 q4 hT4 hf4 hr4 nl4 hT5
        gi_wp2
        obtain ⟨p1, S', p2, p3⟩ := HP.out
        exact ⟨p1, S', p2, (fun e => by cases e), fun _ => p3⟩
    · rintro e w' ⟨b, j, rfl, S', h1, h2, h3⟩
      exact ⟨b, S', rfl, h1, h2, h3⟩
  case fin =>
    rintro e W2 ⟨⟨v, rfl⟩, hh⟩
    obtain ⟨q0, q1, q2, q3, q4⟩ := HG.out
    obtain ⟨z1, z2, z3⟩ := HZ.out
    have hbase := HBS.out
    rw [HUP.out] at hh
    rcases hh with ⟨S2, hA, hjs2, hfx⟩ | ⟨S2, pre, hpre, hjx, n1, n2, r1, r2⟩
    · obtain ⟨e4, n4⟩ := hfx (D + 1) ((hXd.out _).2 (by omega))
      obtain ⟨e3, n3⟩ := hfx D ((hXd.out _).2 (by omega))
      refine ⟨⟨_, rfl⟩, .inl ⟨e4.trans q4, ?_⟩⟩
      obtain ⟨W3, hW3⟩ : ∃ W3, W3 = W2.putObj (D + 1) (.loop (rec .exhausted none)) := ⟨_, rfl⟩
      rw [← hW3]
      have hd3 : W3.heap[D]? = some (.deferred (some [])) := by rw [hW3]; exact (World.putObj_heap_other (by omega)).trans (e3.trans q3)
      have HF : Hid (SeqEnd J B c h G Js Jx (pgs L a 5040) (.returned (.tuple #[])) (W3.putObj D (.deferred none))) := Lib.hid (by
        have hA3 : ActV J B S2 c h G W3 := by rw [hW3]; exact hA.put n4 (by omega) _
        have hj3 : Js S2 (pgs L a 5040) W3 := by rw [hW3]; exact HCL.out _ _ _ _ _ _ hjs2 (by omega) n4 (e4.trans q4) rfl
        exact ⟨⟨_, rfl⟩, .inl ⟨S2, hA3.put n3 (by omega) _, HCL.out _ _ _ _ _ _ hj3 (by omega) n3 hd3 rfl⟩⟩)
      have HD3 := Lib.hid hd3
      clear hA hjs2 hfx e4 n4 e3 n3 hW3 hd3 q0 q1 q2 q3 q4 z1 z2 z3 hbase hact hjs hfix
      gi_wp2
      refine ⟨by simp, .inl ⟨_, _, rfl, run_takeDeferred HD3.out, ?_⟩⟩
      exact ⟨_, results_none rfl _ _ _, HF.out⟩
    · refine ⟨⟨_, rfl⟩, .inr ⟨.ret, r1, ?_⟩⟩
      obtain ⟨W3, hW3⟩ : ∃ W3, W3 = W2.putObj (D + 1) (.loop (rec .exhausted (some .ret))) := ⟨_, rfl⟩
      rw [← hW3]
      have hd3 : W3.heap[D]? = some (.deferred (some [])) := by rw [hW3]; exact (World.putObj_heap_other (by omega)).trans r2
      have HF : Hid (SeqEnd J B c h G Js Jx (pgs L a 5040) (.returned (.tuple #[])) (W3.putObj D (.deferred none))) := Lib.hid (by
        have hj3 : Jx S2 pre W3 := by rw [hW3]; exact HCX.out _ _ _ _ _ _ hjx (by omega) n1 r1 rfl
        exact ⟨⟨_, rfl⟩, .inr ⟨S2, pre, hpre, HCX.out _ _ _ _ _ _ hj3 (by omega) n2 hd3 rfl⟩⟩)
      have HD3 := Lib.hid hd3
      clear hjx n1 n2 r1 r2 hW3 hd3 q0 q1 q2 q3 q4 z1 z2 z3 hbase hact hjs hfix
      gi_wp2
      refine ⟨by simp, .inl ⟨_, _, rfl, run_takeDeferred HD3.out, ?_⟩⟩
      exact ⟨_, results_none rfl _ _ _, HF.out⟩
end Go.Proofs.YtijggofelepaaaaGreatDoor

/- Contract: the first sheet with room among some. -/
set_option maxRecDepth 100000
namespace Go.Proofs.YtijggofelepaaaaGreatDoor
open Go Go.RowKit Go.Shelf
attribute [local go_sem] Oper.semAt_some

theorem spareP_all : ∀ (l : List Pl) (k : Nat), (∀ p ∈ l, p.row ≠ []) → spareP k l = k + l.length
  | [], k, _ => rfl
  | p :: r, k, h => by
    unfold spareP
    rw [if_neg (h p (by simp)), spareP_all r (k + 1) (fun x hx => h x (List.mem_cons_of_mem _ hx)), List.length_cons]
    omega
theorem spareP_some : ∀ (l : List Pl) (k : Nat), ¬ (∀ p ∈ l, p.row ≠ []) → k ≤ spareP k l ∧ spareP k l < k + l.length ∧ ∃ p, l[spareP k l - k]? = some p ∧ p.row = []
  | [], k, h => absurd (fun p hp => by cases hp) h
  | p :: r, k, h => by
    unfold spareP
    by_cases h0 : p.row = []
    · rw [if_pos h0]
      exact ⟨Nat.le_refl _, by rw [List.length_cons]; omega, p, by simp, h0⟩
    · rw [if_neg h0]
      obtain ⟨h1, h2, x, h3, h4⟩ := spareP_some r (k + 1) (fun hh => h (fun x hx => by
        rcases List.mem_cons.1 hx with rfl | hx
        · exact h0
        · exact hh x hx))
      refine ⟨by omega, by rw [List.length_cons]; omega, x, ?_, h4⟩
      rw [show spareP (k + 1) r - k = (spareP (k + 1) r - (k + 1)) + 1 by omega, List.getElem?_cons_succ]
      exact h3
theorem roomP_eq {l : List Pl} (hl : l.length = 64) : (if spareP 0 l = 64 then 0 else 512 - (1 + szP l)) = roomP l := by
  unfold roomP
  by_cases h : ∀ p ∈ l, p.row ≠ []
  · rw [if_pos h, if_pos (by rw [spareP_all l 0 h, hl])]
  · obtain ⟨_, h2, _⟩ := spareP_some l 0 h
    rw [if_neg h, if_neg (by omega)]

/-- What a search leaves: nothing, or a sheet with room. -/
def FindPost (J : List RawOp → Prop) (B : Nat) (S : Nat → Prop) (c : Ac) (h : Hd) (G : Nat → List UInt8) (L : Nat → List Pl) (size : Nat) (w : World) (e : Ending) (w' : World) : Prop :=
  ∃ S' v, e = .returned v ∧ Turn S w S' w' ∧ ActV J B S' c h G w' ∧ (v = .pointer none ∨ ∃ sb q, v = .pointer (some ⟨sb, 0, none⟩) ∧ w.heap.size ≤ sb ∧ SheetAt w' sb q (L q) ∧ ¬ S' sb ∧ L q ≠ [] ∧ size ≤ roomP (L q))
theorem TurnC.toTurn {N : Nat} {S S' : Nat → Prop} {w w' : World} (h : TurnC (fun k => N ≤ k) S w S' w') (hN : N = w.heap.size) : Turn S w S' w' :=
  ⟨⟨h.1.os, h.1.tape, h.1.output, h.1.size, fun k hk hs => h.1.block k hk (fun e => e.elim hs (fun h => by omega))⟩, h.2⟩

/-- What stands while a search goes on; when it is left. -/
def FJs (N : Nat) (S : Nat → Prop) (w : World) (X : Nat → Prop) (W0 : World) (S' : Nat → Prop) (_ : List Nat) (W' : World) : Prop :=
  TurnC (fun k => N ≤ k) S w S' W' ∧ Fix X W0 S' W' ∧ ¬ S' (N + 1) ∧ ¬ S' (N + 2) ∧ (∃ t : Nat, 1 ≤ t ∧ t ≤ 4096 ∧ W'.heap[N + 1]? = some (.cells #[.int .i64 t] 3 (0, 0))) ∧ W'.heap[N + 2]? = some (.cells #[.pointer none] 122 (0, 0))
def FJx (J : List RawOp → Prop) (B : Nat) (c : Ac) (h : Hd) (G : Nat → List UInt8) (L : Nat → List Pl) (size : Nat) (rec : LpRec) (N : Nat) (S : Nat → Prop) (w : World) (S' : Nat → Prop) (_ : List Nat) (W' : World) : Prop :=
  TurnC (fun k => N ≤ k) S w S' W' ∧ ActV J B S' c h G W' ∧ (¬ S' (N + 5) ∧ ¬ S' (N + 6)) ∧ W'.heap[N + 6]? = some (.loop (rec .done (some .ret))) ∧ W'.heap[N + 5]? = some (.deferred (some [])) ∧
    ∃ v, W'.heap[N + 2]? = some (.cells #[v] 122 (0, 0)) ∧ (v = .pointer none ∨ ∃ sb q, v = .pointer (some ⟨sb, 0, none⟩) ∧ N ≤ sb ∧ SheetAt W' sb q (L q) ∧ ¬ S' sb ∧ L q ≠ [] ∧ size ≤ roomP (L q))

set_option maxHeartbeats 3200000 in
theorem find_in {J : List RawOp → Prop} {B : Nat} {S : Nat → Prop} {c : Ac} {h : Hd} {G : Nat → List UInt8} {w : World} {hb r n : Nat} {L : Nat → List Pl} {ch : Nat → Nat} (hn : 8 ≤ n) (x : ActV J B S c h G w) (ht : HeapAt w hb c.a r) (hS : ¬ S hb) (hr : r < 16) (hL : ∀ q, h.has q → (G q).length = 512) (hon : HpOn h G (h.root r) L ch)
    (a size tries : Nat) (ha : 0 < a) (htr : 1 ≤ tries ∧ tries ≤ 4096) :
    CallsIn Fence.wide n Tryz.prog 148 #[.pointer (some ⟨hb, 0, none⟩), .int .i64 a, .int .i64 size, .int .i64 tries] w (FindPost J B S c h G L size w) := by
  have hbl := ht.lt
  have hw0 : 1 ≤ w.heap.size := by omega
  obtain ⟨N, hN⟩ : ∃ N, N = w.heap.size := ⟨_, rfl⟩
  obtain ⟨w1, hw1⟩ : ∃ w1, w1 = ((w.alloc (.cells #[.int .i64 size] 3)).alloc (.cells #[.int .i64 tries] 3)).alloc (.cells #[.pointer none] 122) := ⟨_, rfl⟩
  have HSH := Lib.hid (callsIn_wide (n := n - 1).2 (sheets_any hb a w1))
  have HX := Lib.hid x
  have HT := Lib.hid ht
  have HS := Lib.hid hS
  have HL := Lib.hid hL
  have HON := Lib.hid hon
  have HW1 := Lib.hid hw1
  have HN := Lib.hid hN
  clear x ht hS hL hon
  refine callsIn_of_wp_marks Tryz.func148 rfl trivial ?_ rfl
  simp only [Tryz.ntmps148, List.size_toArray, List.length_cons, List.length_nil, Nat.reduceAdd, Nat.reduceSub, Array.replicate_succ, Array.replicate_zero, List.push_toArray, List.append_toArray, List.nil_append, List.cons_append]
  have hd1 : 1 ≤ n := by omega
  have hd2 : 1 ≤ n - 1 := by omega
  have hF1 : Fence.wide.fn 154 := trivial
  have hF2 : Fence.wide.fn 153 := trivial
  clear hw1 hN
  gi_wp2_with fail
  rw [← HW1.out]
  refine HSH.out.mono ?_
  rintro e w2 ⟨rfl, hw2⟩
  have HW2 := Lib.hid hw2
  clear hw2
  gi_wp2_with fail
  have hw1 := HW1.out
  have hw2 := HW2.out
  have z1 : w1.heap.size = N + 3 := by rw [hw1]; simp [← HN.out]
  have z2 : w2.heap.size = N + 5 := by rw [hw2]; simp [z1]
  rw [z1, ← HN.out]
  refine range_outer (m := n - 1) (gf := 189) (lb := #[.pointer (some ⟨N + 3, 0, none⟩), .pointer (some ⟨N + 3 + 1, 0, none⟩)]) rfl (enters_of Tryz.func189 (by kernel_rfl) rfl) ?_
  intro fn rec hrec
  rw [z2] at hrec ⊢
  obtain ⟨W0, hW0⟩ : ∃ W0, W0 = (w2.alloc (.deferred (some []))).alloc (.loop (rec .ready none)) := ⟨_, rfl⟩
  rw [← hW0]
  have z3 : W0.heap.size = N + 7 := by rw [hW0, World.size_alloc, World.size_alloc, z2]
  have hNw := HN.out
  have hB1 : Below N w w1 := by
    rw [hw1]
    exact ((((Below.refl _ w).alloc (by omega) _).alloc (by simp; omega) _).alloc (by simp; omega) _)
  have hB2 : Below N w w2 := by
    rw [hw2]
    exact (hB1.alloc (by omega) _).alloc (by simp; omega) _
  have hB0 : Below N w W0 := by
    rw [hW0]
    exact (hB2.alloc (by omega) _).alloc (by simp; omega) _
  have up1 : ∀ k, k < N + 3 → W0.heap[k]? = w1.heap[k]? := fun k hk => by
    rw [hW0, Below.heap_alloc _ _ _ (by simp; omega), Below.heap_alloc _ _ _ (by omega), hw2, Below.heap_alloc _ _ _ (by simp; omega), Below.heap_alloc _ _ _ (by omega)]
  have hB3 : ∀ k, k < N + 5 → W0.heap[k]? = w2.heap[k]? := fun k hk => by
    rw [hW0, Below.heap_alloc _ _ _ (by simp; omega), Below.heap_alloc _ _ _ (by omega)]
  have g6 : W0.heap[N + 6]? = some (.loop (rec .ready none)) := by
    have := World.alloc_heap_new (w2.alloc (.deferred (some []))) (.loop (rec .ready none))
    rw [World.size_alloc, z2] at this
    rw [hW0]; exact this
  have g5 : W0.heap[N + 5]? = some (.deferred (some [])) := by
    rw [hW0, Below.heap_alloc _ _ _ (by simp; omega), ← z2]; exact World.alloc_heap_new w2 _
  have g4 : W0.heap[N + 3 + 1]? = some (.cells #[.int .i64 a] 3 (0, 0)) := by
    rw [hB3 _ (by omega), hw2]
    have := heap_alloc_new (w1.alloc (.cells #[.pointer (some ⟨hb, 0, none⟩)] 70)) (.cells #[.int .i64 a] 3)
    rw [World.size_alloc, z1] at this
    exact this
  have g3 : W0.heap[N + 3]? = some (.cells #[.pointer (some ⟨hb, 0, none⟩)] 70 (0, 0)) := by
    rw [hB3 _ (by omega), hw2, Below.heap_alloc _ _ _ (by simp; omega), ← z1]
    exact heap_alloc_new w1 _
  have g2 : W0.heap[N + 2]? = some (.cells #[.pointer none] 122 (0, 0)) := by
    rw [up1 _ (by omega), hw1]
    have := heap_alloc_new ((w.alloc (.cells #[.int .i64 size] 3)).alloc (.cells #[.int .i64 tries] 3)) (.cells #[.pointer none] 122)
    rw [World.size_alloc, World.size_alloc, ← HN.out] at this
    exact this
  have g1 : W0.heap[N + 1]? = some (.cells #[.int .i64 tries] 3 (0, 0)) := by
    rw [up1 _ (by omega), hw1, Below.heap_alloc _ _ _ (by simp; omega)]
    have := heap_alloc_new (w.alloc (.cells #[.int .i64 size] 3)) (.cells #[.int .i64 tries] 3)
    rw [World.size_alloc, ← HN.out] at this
    exact this
  have g0 : W0.heap[N]? = some (.cells #[.int .i64 size] 3 (0, 0)) := by
    rw [up1 _ (by omega), hw1, Below.heap_alloc _ _ _ (by simp; omega), Below.heap_alloc _ _ _ (by simp; omega), HN.out]
    exact heap_alloc_new w _
  have hbN : hb < N := by rw [HN.out]; exact hbl
  have gh : W0.heap[hb]? = w.heap[hb]? := hB0.block _ hbN
  have hB0' : Below w.heap.size w W0 := by rw [← HN.out]; exact hB0
  obtain ⟨X, hXd⟩ : ∃ X : Nat → Prop, Hid (∀ k, X k ↔ (k = hb ∨ k = N ∨ (N + 3 ≤ k ∧ k < N + 7))) := ⟨fun k => k = hb ∨ k = N ∨ (N + 3 ≤ k ∧ k < N + 7), Lib.hid (fun _ => Iff.rfl)⟩
  have hact : ActV J B S c h G W0 := HX.out.below hB0'
  have hlow : ∀ k, N ≤ k → ¬ S k := fun k hk hs => by have := (HX.out.low k hs).2; have := HN.out; omega
  have hfix : Fix X W0 S W0 := fun k hk => ⟨rfl, by
    rcases (hXd.out k).1 hk with rfl | rfl | hk
    · exact HS.out
    · exact hlow _ (Nat.le_refl _)
    · exact hlow _ (by omega)⟩
  have htc : TurnC (fun k => N ≤ k) S w S W0 := (Turn.ofBelow hB0').toC _
  have HXL : Hid (∀ k, X k → k < W0.heap.size) := Lib.hid fun k hk => by rcases (hXd.out k).1 hk with rfl | rfl | hk <;> omega
  have HG := Lib.hid (And.intro g0 (And.intro g1 (And.intro g2 (And.intro g3 (And.intro g4 (And.intro g5 (And.intro g6 gh)))))))
  have HREC := Lib.hid hrec
  have HST := Lib.hid (And.intro hact (And.intro htc (And.intro hfix hlow)))
  have HZ := Lib.hid z3
  have HBN := Lib.hid (And.intro hbN hw0)
  clear hNw hact htc hfix hlow hrec g0 g1 g2 g3 g4 g5 g6 gh hB0 hB0' hB1 hB2 hB3 up1 z1 z2 hW0 hbl hw1 hw2 z3 hbN hw0
  have HIF : Hid (∀ S' W', Fix X W0 S' W' → HeapAt W' hb c.a r ∧ ¬ S' hb ∧ W'.cell? ⟨N + 3, 0, none⟩ = some (.pointer (some ⟨hb, 0, none⟩)) ∧ W'.cell? ⟨N + 3 + 1, 0, none⟩ = some (.int .i64 a) ∧ W'.cell? ⟨N, 0, none⟩ = some (.int .i64 size)) := Lib.hid fun S' W' hf => by
    obtain ⟨g0, g1, g2, g3, g4, g5, g6, gh⟩ := HG.out
    obtain ⟨e1, e2⟩ := hf hb ((hXd.out _).2 (.inl rfl))
    refine ⟨?_, e2, ?_, ?_, ?_⟩
    · have := HT.out
      unfold HeapAt at this ⊢
      rw [e1, gh]; exact this
    · rw [World.cell?_of_block (w := W0) (hf (N + 3) ((hXd.out _).2 (by omega))).1, Lib.cell_of_heap g3]; rfl
    · rw [World.cell?_of_block (w := W0) (hf (N + 3 + 1) ((hXd.out _).2 (by omega))).1, Lib.cell_of_heap g4]; rfl
    · rw [World.cell?_of_block (w := W0) (hf N ((hXd.out _).2 (by omega))).1, Lib.cell_of_heap g0]; rfl
  refine CallsIn.mono (sheets1_in (n := n - 1) (hb := hb) (hx := N + 3) (lx := N + 3 + 1) (r := r) (base := N + 7) (by omega) hr ha HL.out HON.out (fun k => k = N + 1 ∨ k = N + 2 ∨ k = N + 6)
    (FJs N S w X W0) (FJx J B c h G L size rec N S w)
    (by rintro k (rfl | rfl | rfl) <;> omega) (by omega) ?hI ?hJ ?hcl ?hcx ?hY S W0 HZ.out.symm HST.out.1 ⟨HST.out.2.1, HST.out.2.2.1, HST.out.2.2.2 _ (by omega), HST.out.2.2.2 _ (by omega), ⟨tries, htr.1, htr.2, HG.out.2.1⟩, HG.out.2.2.1⟩ (by rw [HZ.out]; omega) (by rw [HZ.out]; omega)) ?fin
  case hI =>
    rintro S2 s W2 ⟨_, h2, _⟩
    obtain ⟨a1, a2, a3, a4, _⟩ := HIF.out _ _ h2
    exact ⟨a1, a2, a3, a4⟩
  case hJ =>
    rintro S2 A S3 A' s hA ⟨h1, h2, h3, h4, ⟨t, ht1, ht2, ht3⟩, h5⟩ hT hA'
    have l1 := (Array.getElem?_eq_some_iff.1 ht3).1
    have l2 := (Array.getElem?_eq_some_iff.1 h5).1
    exact ⟨h1.trans (hT.toC _), h2.turn HXL.out (hT.toC (fun _ => False)) (fun _ _ e => e), fun hs => h3 (hT.2 _ l1 hs), fun hs => h4 (hT.2 _ l2 hs), ⟨t, ht1, ht2, (hT.1.block _ l1 h3).trans ht3⟩, (hT.1.block _ l2 h4).trans h5⟩
  case hcl =>
    rintro S2 s A rr o o' ⟨h1, h2, h3, h4, ⟨t, ht1, ht2, ht3⟩, h5⟩ hr1 hr2 ho1 ho2
    exact ⟨h1.trans (put_turnC _ (by omega) _), h2.put (fun hk => by have := HXL.out _ hk; have := HZ.out; omega) _, h3, h4, ⟨t, ht1, ht2, (World.putObj_heap_other (by omega)).trans ht3⟩, (World.putObj_heap_other (by omega)).trans h5⟩
  case hcx =>
    rintro S2 s A rr o o' ⟨h1, h2, h3, h4, h5, v, h6, h7⟩ hr1 hr2 ho1 ho2
    refine ⟨h1.trans (put_turnC _ (by omega) _), h2.put hr2 (by omega) _, h3, (World.putObj_heap_other (by omega)).trans h4, (World.putObj_heap_other (by omega)).trans h5, v, (World.putObj_heap_other (by omega)).trans h6, h7.imp id ?_⟩
    rintro ⟨sb, q, e1, e2, e3, e4, e5, e6⟩
    refine ⟨sb, q, e1, e2, ?_, e4, e5, e6⟩
    unfold SheetAt at e3 ⊢
    exact (World.putObj_heap_other (fun e => by rw [e, ho1] at e3; cases e3; cases ho2)).trans e3
  case hY =>
    rintro S2 pre q sb W2 hA ⟨k1, k2, k3, k4, ⟨t, ht1, ht2, ht3⟩, k5⟩ hsb hsh hns hq hpf
    obtain ⟨g0, g1, g2, g3, g4, g5, g6, gh⟩ := HG.out
    have z3 := HZ.out
    obtain ⟨t1, t2, t3, t4, t5, t6, t7⟩ := HON.out.sheet q hq
    obtain ⟨f6, n6⟩ := k2 (N + 6) ((hXd.out _).2 (by omega))
    obtain ⟨f5, n5⟩ := k2 (N + 5) ((hXd.out _).2 (by omega))
    have hlr : W2.heap[N + 6]? = some (.loop (rec .ready none)) := f6.trans g6
    refine YieldAt.mono' (yield_round (args := #[.pointer (some ⟨sb, 0, none⟩)]) HREC.out hlr rfl (fun b _ W' => ∃ S', TurnC (fun k => k = N + 1 ∨ k = N + 2 ∨ k = N + 6) S2 W2 S' W' ∧ (b = true → ActV J B S' c h G W' ∧ FJs N S w X W0 S' (pre ++ [q]) W') ∧
      (b = false → FJx J B c h G L size rec N S w S' (pre ++ [q]) W')) ?_) ?_
    · obtain ⟨W3, hW3⟩ : ∃ W3, W3 = W2.putObj (N + 6) (.loop (rec .busy none)) := ⟨_, rfl⟩
      have hT3 : TurnC (fun k => k = N + 1 ∨ k = N + 2 ∨ k = N + 6) S2 W2 S2 W3 := by rw [hW3]; exact put_turnC _ (.inr (.inr rfl)) _
      have hA3 : ActV J B S2 c h G W3 := by rw [hW3]; exact hA.put n6 (by omega) _
      have hf3 : Fix (fun k => X k ∧ k ≠ N + 6) W0 S2 W3 := by rw [hW3]; exact (k2.mono (fun _ hk => hk.1)).put (fun hk => hk.2 rfl) _
      have hr3 : W3.heap[N + 6]? = some (.loop (rec .busy none)) := by rw [hW3]; exact World.putObj_heap_same (Array.getElem?_eq_some_iff.1 hlr).1
      have h13 : W3.heap[N + 1]? = some (.cells #[.int .i64 t] 3 (0, 0)) := by rw [hW3]; exact (World.putObj_heap_other (by omega)).trans ht3
      have h23 : W3.heap[N + 2]? = some (.cells #[.pointer none] 122 (0, 0)) := by rw [hW3]; exact (World.putObj_heap_other (by omega)).trans k5
      have hs3 : SheetAt W3 sb q (L q) := by rw [hW3]; unfold SheetAt at hsh ⊢; exact (World.putObj_heap_other (by omega)).trans hsh
      have h03 : W3.heap[N]? = some (.cells #[.int .i64 size] 3 (0, 0)) := (hf3 N ⟨(hXd.out _).2 (by omega), by omega⟩).1.trans g0
      obtain ⟨rm, hrm⟩ : ∃ rm, rm = roomP (L q) := ⟨_, rfl⟩
      have hrm5 : rm ≤ 511 := by rw [hrm]; exact roomP_le _
      have HRM : Hid (∀ W, Below W3.heap.size W3 W → CallsIn Fence.wide (n - 1 - 1 - 1 - 1 - 1) Tryz.prog 153 #[.pointer (some ⟨sb, 0, none⟩)] W fun e w' => e = .returned (.int .i64 rm) ∧ Below W3.heap.size W3 w') := Lib.hid fun W hW => callsIn_wide.2 ((room_sh (hs3.below hW) t5.n t5.row t5.fit).mono fun e w' ⟨he, hb'⟩ => ⟨by rw [he, roomP_eq t5.n, hrm], hW.trans (hb'.mono hW.size)⟩)
      have HKP : Hid (∀ W4, Below W3.heap.size W3 W4 → W4.cell? ⟨N, 0, none⟩ = some (.int .i64 size) ∧ W4.cell? ⟨N + 1, 0, none⟩ = some (.int .i64 t) ∧ W4.frozen? ⟨N + 1, 0, none⟩ = false ∧ W4.cell? ⟨N + 2, 0, none⟩ = some (.pointer none) ∧ W4.frozen? ⟨N + 2, 0, none⟩ = false) := Lib.hid fun W4 hb4 => by
        have l0 := (hb4.block _ (Array.getElem?_eq_some_iff.1 h03).1).trans h03
        have l1 := (hb4.block _ (Array.getElem?_eq_some_iff.1 h13).1).trans h13
        have l2 := (hb4.block _ (Array.getElem?_eq_some_iff.1 h23).1).trans h23
        exact ⟨by rw [Lib.cell_of_heap l0]; rfl, by rw [Lib.cell_of_heap l1]; rfl, Lib.frozen_of_heap l1 _, by rw [Lib.cell_of_heap l2]; rfl, Lib.frozen_of_heap l2 _⟩
      have HB4 : Hid (∀ W4, Below W3.heap.size W3 W4 → ∀ (i : Nat) (v : Value), i = N + 1 ∨ i = N + 2 → ActV J B S2 c h G (W4.setCell ⟨i, 0, none⟩ v) ∧ TurnC (fun k => k = N + 1 ∨ k = N + 2 ∨ k = N + 6) S2 W2 S2 (W4.setCell ⟨i, 0, none⟩ v) ∧ (∀ k, k < W3.heap.size → k ≠ i → (W4.setCell ⟨i, 0, none⟩ v).heap[k]? = W3.heap[k]?)) := Lib.hid fun W4 hb4 i v hi => by
        have hk := Kept.setCell (fun k => k = i) W4 (b := i) (i := 0) rfl v
        have hni : ¬ S2 i := by rcases hi with rfl | rfl; exact k3; exact k4
        refine ⟨(hA3.below hb4).kept hk (fun k e _ => by subst e; exact ⟨hni, by omega⟩), (hT3.trans ((Turn.ofBelow hb4).toC _)).trans ⟨hk.mono (fun k e => .inr (by subst e; omega)), fun _ _ hs => hs⟩, fun k hk3 hki => ?_⟩
        rw [hk.block k (Nat.lt_of_lt_of_le hk3 hb4.size) hki]
        exact hb4.block k hk3
      have l6 : N + 6 < W3.heap.size := (Array.getElem?_eq_some_iff.1 hr3).1
      have d3 : W3.heap[N + 5]? = some (.deferred (some [])) := (hf3 (N + 5) ⟨(hXd.out _).2 (by omega), by omega⟩).1.trans g5
      have hCN : ∀ k, k = N + 1 ∨ k = N + 2 ∨ k = N + 6 → N ≤ k := fun k hk => by omega
      have HYES : Hid (size ≤ rm → ∀ W4, Below W3.heap.size W3 W4 → (W4.setCell ⟨N + 2, 0, none⟩ (.pointer (some ⟨sb, 0, none⟩))).heap[N + 6]? = some (.loop (rec .busy none)) ∧ ∃ S', TurnC (fun k => k = N + 1 ∨ k = N + 2 ∨ k = N + 6) S2 W2 S' ((W4.setCell ⟨N + 2, 0, none⟩ (.pointer (some ⟨sb, 0, none⟩))).putObj (N + 6) (.loop (rec .done (some .ret)))) ∧
          FJx J B c h G L size rec N S w S' (pre ++ [q]) ((W4.setCell ⟨N + 2, 0, none⟩ (.pointer (some ⟨sb, 0, none⟩))).putObj (N + 6) (.loop (rec .done (some .ret))))) := Lib.hid fun hge W4 hb4 => by
        obtain ⟨b1, b2, b3⟩ := HB4.out W4 hb4 (N + 2) (.pointer (some ⟨sb, 0, none⟩)) (.inr rfl)
        have hr5 := (b3 (N + 6) l6 (by omega)).trans hr3
        have l2 := (hb4.block _ (Array.getElem?_eq_some_iff.1 h23).1).trans h23
        have hT6 := b2.trans (put_turnC (C := fun k => k = N + 1 ∨ k = N + 2 ∨ k = N + 6) (S := S2) (w := W4.setCell ⟨N + 2, 0, none⟩ (.pointer (some ⟨sb, 0, none⟩))) (r := N + 6) (.inr (.inr rfl)) (.loop (rec .done (some .ret))))
        refine ⟨hr5, S2, hT6, k1.trans (hT6.mono hCN), b1.put n6 (by omega) _, ⟨n5, n6⟩, World.putObj_heap_same (Array.getElem?_eq_some_iff.1 hr5).1, (World.putObj_heap_other (by omega)).trans ((b3 (N + 5) (by omega) (by omega)).trans d3), _, (World.putObj_heap_other (by omega)).trans (heap_set_at l2 0 _), .inr ⟨sb, q, rfl, by omega, ?_, hns, hq, by rw [← hrm]; exact hge⟩⟩
        unfold SheetAt at hs3 ⊢
        exact (World.putObj_heap_other (by omega)).trans ((b3 sb (Array.getElem?_eq_some_iff.1 hs3).1 (by omega)).trans hs3)
      have HNO1 : Hid (t ≠ 1 → ∀ W4, Below W3.heap.size W3 W4 → (W4.setCell ⟨N + 1, 0, none⟩ (.int .i64 ((t : Int) - 1))).heap[N + 6]? = some (.loop (rec .busy none)) ∧ ∃ S', TurnC (fun k => k = N + 1 ∨ k = N + 2 ∨ k = N + 6) S2 W2 S' ((W4.setCell ⟨N + 1, 0, none⟩ (.int .i64 ((t : Int) - 1))).putObj (N + 6) (.loop (rec .ready none))) ∧
          ActV J B S' c h G ((W4.setCell ⟨N + 1, 0, none⟩ (.int .i64 ((t : Int) - 1))).putObj (N + 6) (.loop (rec .ready none))) ∧ FJs N S w X W0 S' (pre ++ [q]) ((W4.setCell ⟨N + 1, 0, none⟩ (.int .i64 ((t : Int) - 1))).putObj (N + 6) (.loop (rec .ready none)))) := Lib.hid fun ht W4 hb4 => by
        obtain ⟨b1, b2, b3⟩ := HB4.out W4 hb4 (N + 1) (.int .i64 ((t : Int) - 1)) (.inl rfl)
        have hr5 := (b3 (N + 6) l6 (by omega)).trans hr3
        have l1 := (hb4.block _ (Array.getElem?_eq_some_iff.1 h13).1).trans h13
        have hT6 := b2.trans (put_turnC (C := fun k => k = N + 1 ∨ k = N + 2 ∨ k = N + 6) (S := S2) (w := W4.setCell ⟨N + 1, 0, none⟩ (.int .i64 ((t : Int) - 1))) (r := N + 6) (.inr (.inr rfl)) (.loop (rec .ready none)))
        refine ⟨hr5, S2, hT6, b1.put n6 (by omega) _, k1.trans (hT6.mono hCN), fun k hk => ?_, k3, k4, ⟨t - 1, by omega, by omega, ?_⟩, (World.putObj_heap_other (by omega)).trans ((b3 (N + 2) (Array.getElem?_eq_some_iff.1 h23).1 (by omega)).trans h23)⟩
        · by_cases hk6 : k = N + 6
          · subst hk6; exact ⟨(World.putObj_heap_same (Array.getElem?_eq_some_iff.1 hr5).1).trans g6.symm, n6⟩
          · obtain ⟨e1, e2⟩ := hf3 k ⟨hk, hk6⟩
            have hk1 : k ≠ N + 1 := fun e => by have h1 := (hXd.out k).1 hk; have := HBN.out.1; omega
            have hl : k < W3.heap.size := by
              have := HXL.out k hk
              rcases Nat.lt_or_ge k W3.heap.size with hl | hl
              · exact hl
              · rw [Array.getElem?_eq_none hl, Array.getElem?_eq_getElem this] at e1; cases e1
            exact ⟨(World.putObj_heap_other hk6).trans ((b3 k hl hk1).trans e1), e2⟩
        · rw [World.putObj_heap_other (by omega), heap_set_at l1 0 _, show ((t - 1 : Nat) : Int) = (t : Int) - 1 by omega]
          rfl
      have HNO2 : Hid (∀ W4, Below W3.heap.size W3 W4 → ((W4.setCell ⟨N + 1, 0, none⟩ (.int .i64 0)).setCell ⟨N + 2, 0, none⟩ (.pointer none)).heap[N + 6]? = some (.loop (rec .busy none)) ∧ ∃ S', TurnC (fun k => k = N + 1 ∨ k = N + 2 ∨ k = N + 6) S2 W2 S' (((W4.setCell ⟨N + 1, 0, none⟩ (.int .i64 0)).setCell ⟨N + 2, 0, none⟩ (.pointer none)).putObj (N + 6) (.loop (rec .done (some .ret)))) ∧
          FJx J B c h G L size rec N S w S' (pre ++ [q]) (((W4.setCell ⟨N + 1, 0, none⟩ (.int .i64 0)).setCell ⟨N + 2, 0, none⟩ (.pointer none)).putObj (N + 6) (.loop (rec .done (some .ret))))) := Lib.hid fun W4 hb4 => by
        obtain ⟨b1, b2, b3⟩ := HB4.out W4 hb4 (N + 1) (.int .i64 0) (.inl rfl)
        have hk := Kept.setCell (fun k => k = N + 2) (W4.setCell ⟨N + 1, 0, none⟩ (.int .i64 0)) (b := N + 2) (i := 0) rfl (.pointer none)
        have l2 := (b3 (N + 2) (Array.getElem?_eq_some_iff.1 h23).1 (by omega)).trans h23
        have hz : (W4.setCell ⟨N + 1, 0, none⟩ (.int .i64 0)).heap.size = W4.heap.size := by simp
        have hz4 := hb4.size
        have hr5 := (hk.block (N + 6) (by rw [hz]; omega) (by omega)).trans ((b3 (N + 6) l6 (by omega)).trans hr3)
        have d5 := (hk.block (N + 5) (by rw [hz]; omega) (by omega)).trans ((b3 (N + 5) (by omega) (by omega)).trans d3)
        have hT5 : TurnC (fun k => k = N + 1 ∨ k = N + 2 ∨ k = N + 6) S2 W2 S2 ((W4.setCell ⟨N + 1, 0, none⟩ (.int .i64 0)).setCell ⟨N + 2, 0, none⟩ (.pointer none)) := b2.trans ⟨hk.mono (fun k e => .inr (.inr (.inl e))), fun _ _ hs => hs⟩
        have hT6 := hT5.trans (put_turnC (C := fun k => k = N + 1 ∨ k = N + 2 ∨ k = N + 6) (S := S2) (r := N + 6) (.inr (.inr rfl)) (.loop (rec .done (some .ret))))
        exact ⟨hr5, S2, hT6, k1.trans (hT6.mono hCN), (b1.kept hk (fun k e _ => by subst e; exact ⟨k4, by omega⟩)).put n6 (by omega) _, ⟨n5, n6⟩, World.putObj_heap_same (Array.getElem?_eq_some_iff.1 hr5).1, (World.putObj_heap_other (by omega)).trans d5, _, (World.putObj_heap_other (by omega)).trans (heap_set_at l2 0 _), .inl rfl⟩
      have HW3 := Lib.hid hW3
      have HLR := Lib.hid hlr
      have hmx : Tryz.prog.follows .mixedOrders = true := by kernel_rfl
      have hd5 : 1 ≤ n - 1 - 1 - 1 - 1 := by omega
      obtain ⟨c6, c7, f7, c8, f8⟩ := HKP.out W3.drew ((Below.refl _ _).drew)
      clear hA k1 k2 k3 k4 ht3 k5 hsb hsh hns hq hpf g0 g1 g2 g3 g4 g5 g6 gh z3 t1 t2 t3 t4 t5 t6 t7 f6 n6 f5 n5 hlr hW3 hT3 hA3 hf3 hr3 h13 h23 hs3 h03 hrm l6 d3 hCN HB4
      gi_wp2_with fail
      refine ⟨HLR.out, ?_⟩
      rw [← HW3.out]
      by_cases hge : size ≤ rm
      · have hgc : (size : Int) ≤ (rm : Int) := by omega
        have HY := Lib.hid (HYES.out hge)
        clear HYES HNO1 HNO2
        gi_wp2
        gi_region_with_o (gi_at_call 153; refine (CallsIn.inRound (N + 6) (HRM.out _ ((Below.refl _ _).drew))).mono ?_; rintro e w4 ⟨rfl, hb4⟩; obtain ⟨c9, c10, f10, c11, f11⟩ := HKP.out w4 hb4)
        all_goals gi_wp2
        all_goals obtain ⟨p1, S', p2, p3⟩ := HY.out w4 hb4
        all_goals exact ⟨p1, S', p2, (fun e => by cases e), fun _ => p3⟩
      · have hgc : ¬ (size : Int) ≤ (rm : Int) := by omega
        have hgl : rm < size := by omega
        by_cases htt : t = 1
        · subst htt
          clear HYES HNO1
          gi_wp2
          gi_region_with_o (gi_at_call 153; refine (CallsIn.inRound (N + 6) (HRM.out _ ((Below.refl _ _).drew))).mono ?_; rintro e w4 ⟨rfl, hb4⟩; obtain ⟨c9, c10, f10, c11, f11⟩ := HKP.out w4 hb4)
          all_goals gi_wp2
          all_goals obtain ⟨p1, S', p2, p3⟩ := HNO2.out w4 hb4
          all_goals exact ⟨p1, S', p2, (fun e => by cases e), fun _ => p3⟩
        · have HY := Lib.hid (HNO1.out htt)
          have e1 : IntKind.i64.wrap ((t : Int) - 1) = (t : Int) - 1 := IntWalk.i64_in _ (by omega)
          have ht0 : ¬ (t : Int) - 1 = 0 := by omega
          have ht2 : (((t : Int) - 1) == 0) = false := beq_eq_false_iff_ne.2 ht0
          clear HYES HNO1 HNO2 htt
          gi_wp2
          gi_region_with_o (gi_at_call 153; refine (CallsIn.inRound (N + 6) (HRM.out _ ((Below.refl _ _).drew))).mono ?_; rintro e w4 ⟨rfl, hb4⟩; obtain ⟨c9, c10, f10, c11, f11⟩ := HKP.out w4 hb4)
          all_goals gi_wp2
          all_goals obtain ⟨p1, S', p2, p3, p4⟩ := HY.out w4 hb4
          all_goals exact ⟨p1, S', p2, fun _ => ⟨p3, p4⟩, fun e => by cases e⟩
    · rintro e w' ⟨b, j, rfl, S', h1, h2, h3⟩
      exact ⟨b, S', rfl, h1, h2, h3⟩
  case fin =>
    rintro e W2 ⟨⟨v, rfl⟩, hh⟩
    obtain ⟨g0, g1, g2, g3, g4, g5, g6, gh⟩ := HG.out
    have z3 := HZ.out
    obtain ⟨hbN, hw0⟩ := HBN.out
    rcases hh with ⟨S2, hA, k1, k2, k3, k4, k5, k6⟩ | ⟨S2, pre, hpre, k1, hA, ⟨n5, n6⟩, r6, r5, v, r2, k6⟩
    · obtain ⟨f6, n6⟩ := k2 (N + 6) ((hXd.out _).2 (by omega))
      obtain ⟨f5, n5⟩ := k2 (N + 5) ((hXd.out _).2 (by omega))
      refine ⟨⟨_, rfl⟩, .inl ⟨f6.trans g6, ?_⟩⟩
      obtain ⟨W3, hW3⟩ : ∃ W3, W3 = W2.putObj (N + 6) (.loop (rec .exhausted none)) := ⟨_, rfl⟩
      rw [← hW3]
      have hd3 : W3.heap[N + 5]? = some (.deferred (some [])) := by rw [hW3]; exact (World.putObj_heap_other (by omega)).trans (f5.trans g5)
      have h23 : W3.heap[N + 2]? = some (.cells #[.pointer none] 122 (0, 0)) := by rw [hW3]; exact (World.putObj_heap_other (by omega)).trans k6
      have c2 : W3.cell? ⟨N + 2, 0, none⟩ = some (.pointer none) := by rw [Lib.cell_of_heap h23]; rfl
      have f2 : W3.frozen? ⟨N + 2, 0, none⟩ = false := Lib.frozen_of_heap h23 _
      have hk := Kept.setCell (fun k => k = N + 2) W3 (b := N + 2) (i := 0) rfl (.pointer none)
      have l5 : N + 5 < W3.heap.size := (Array.getElem?_eq_some_iff.1 hd3).1
      have hd4 : (W3.setCell ⟨N + 2, 0, none⟩ (.pointer none)).heap[N + 5]? = some (.deferred (some [])) := (hk.block _ l5 (by omega)).trans hd3
      have h24 := heap_set_at h23 0 (.pointer none)
      have h25 : ((W3.setCell ⟨N + 2, 0, none⟩ (.pointer none)).putObj (N + 5) (.deferred none)).cell? ⟨N + 2, 0, none⟩ = some (.pointer none) := by
        rw [World.cell?_of_block (World.putObj_heap_other (show N + 2 ≠ N + 5 by omega)), Lib.cell_of_heap h24]; rfl
      have HF : Hid (FindPost J B S c h G L size w (.returned (.pointer none)) ((W3.setCell ⟨N + 2, 0, none⟩ (.pointer none)).putObj (N + 5) (.deferred none))) := Lib.hid (by
        have hT : TurnC (fun k => N ≤ k) S w S2 ((W3.setCell ⟨N + 2, 0, none⟩ (.pointer none)).putObj (N + 5) (.deferred none)) :=
          ((k1.trans (by rw [hW3]; exact put_turnC _ (by omega) _)).trans ⟨hk.mono (fun k e => .inr (by subst e; omega)), fun _ _ hs => hs⟩).trans (put_turnC _ (by omega) _)
        refine ⟨S2, _, rfl, hT.toTurn HN.out, ?_, .inl rfl⟩
        have hA3 : ActV J B S2 c h G W3 := by rw [hW3]; exact hA.put n6 (by omega) _
        exact (hA3.kept hk (fun k e _ => by subst e; exact ⟨k4, by omega⟩)).put n5 (by omega) _)
      have HD4 := Lib.hid hd4
      clear hA k1 k2 k3 k4 k5 k6 f6 n6 f5 n5 hW3 hd3 h23 hk l5 hd4 h24 g0 g1 g2 g3 g4 g5 g6 gh z3 hbN hw0
      gi_wp2
      refine ⟨by simp, .inl ⟨_, _, rfl, run_takeDeferred HD4.out, ?_⟩⟩
      exact ⟨_, by simp [results, Tryz.results148, go_sem, h25], HF.out⟩
    · refine ⟨⟨_, rfl⟩, .inr ⟨.ret, r6, ?_⟩⟩
      obtain ⟨W3, hW3⟩ : ∃ W3, W3 = W2.putObj (N + 6) (.loop (rec .exhausted (some .ret))) := ⟨_, rfl⟩
      rw [← hW3]
      have hd3 : W3.heap[N + 5]? = some (.deferred (some [])) := by rw [hW3]; exact (World.putObj_heap_other (by omega)).trans r5
      have h23 : W3.heap[N + 2]? = some (.cells #[v] 122 (0, 0)) := by rw [hW3]; exact (World.putObj_heap_other (by omega)).trans r2
      have h25 : (W3.putObj (N + 5) (.deferred none)).cell? ⟨N + 2, 0, none⟩ = some v := by
        rw [World.cell?_of_block (World.putObj_heap_other (show N + 2 ≠ N + 5 by omega)), Lib.cell_of_heap h23]; rfl
      have HF : Hid (FindPost J B S c h G L size w (.returned v) (W3.putObj (N + 5) (.deferred none))) := Lib.hid (by
        have hT : TurnC (fun k => N ≤ k) S w S2 (W3.putObj (N + 5) (.deferred none)) :=
          (k1.trans (by rw [hW3]; exact put_turnC _ (by omega) _)).trans (put_turnC _ (by omega) _)
        have hA3 : ActV J B S2 c h G W3 := by rw [hW3]; exact hA.put n6 (by omega) _
        refine ⟨S2, _, rfl, hT.toTurn HN.out, hA3.put n5 (by omega) _, k6.imp id ?_⟩
        rintro ⟨sb, q, e1, e2, e3, e4, e5, e6⟩
        refine ⟨sb, q, e1, by rw [← HN.out]; exact e2, ?_, e4, e5, e6⟩
        have hs6 : sb ≠ N + 6 := fun e => by unfold SheetAt at e3; rw [e, r6] at e3; cases e3
        have hs5 : sb ≠ N + 5 := fun e => by unfold SheetAt at e3; rw [e, r5] at e3; cases e3
        unfold SheetAt at e3 ⊢
        rw [World.putObj_heap_other hs5, hW3, World.putObj_heap_other hs6]
        exact e3)
      have HD3 := Lib.hid hd3
      clear hA k1 k6 r6 r5 r2 n5 n6 hW3 hd3 h23 g0 g1 g2 g3 g4 g5 g6 gh z3 hbN hw0
      gi_wp2
      refine ⟨by simp, .inl ⟨_, _, rfl, run_takeDeferred HD3.out, ?_⟩⟩
      exact ⟨_, by simp [results, Tryz.results148, go_sem, h25], HF.out⟩

theorem find_any {J : List RawOp → Prop} {B : Nat} {S : Nat → Prop} {c : Ac} {h : Hd} {G : Nat → List UInt8} {w : World} {hb r : Nat} {L : Nat → List Pl} {ch : Nat → Nat} (x : ActV J B S c h G w) (ht : HeapAt w hb c.a r) (hS : ¬ S hb) (hr : r < 16) (hL : ∀ q, h.has q → (G q).length = 512) (hon : HpOn h G (h.root r) L ch)
    (a size tries : Nat) (ha : 0 < a) (htr : 1 ≤ tries ∧ tries ≤ 4096) :
    Calls Tryz.prog 148 #[.pointer (some ⟨hb, 0, none⟩), .int .i64 a, .int .i64 size, .int .i64 tries] w (FindPost J B S c h G L size w) :=
  (callsIn_wide (n := 8)).1 (find_in (Nat.le_refl _) x ht hS hr hL hon a size tries ha htr)
end Go.Proofs.YtijggofelepaaaaGreatDoor

/- Contracts: a chart is laid: where it is there; the first one. -/
set_option maxRecDepth 100000
namespace Go.Proofs.YtijggofelepaaaaGreatDoor
open Go.RowKit

section
variable {J : List RawOp → Prop} {B : Nat} {S : Nat → Prop} {c : Ac} {h : Hd} {G : Nat → List UInt8} {w : World} {hb r : Nat}
set_option maxHeartbeats 800000 in
theorem lay_there (x : ActV J B S c h G w) (ht : HeapAt w hb c.a r) (hS : ¬ S hb) (hr : r < 16) (k : Nat) (hk : k ≤ 4) (hL : ∀ q, h.has q → (G q).length = 512) (h0 : chQ h G r k ≠ 0) :
    Calls Tryz.prog 187 #[.pointer (some ⟨hb, 0, none⟩), .int .i64 k] w fun e w' => e = .returned (.bool true) ∧ ActPost J B S c h G w w' := by
  have HC := Lib.hid (chart_any x ht hS hr k hk (hL _))
  unfold ChPost at HC
  rw [if_neg h0] at HC
  obtain ⟨s, hs⟩ : ∃ s : ByteArray, s = ⟨(G (chQ h G r k)).toArray⟩ := ⟨_, rfl⟩
  rw [← hs] at HC
  obtain ⟨p, hp⟩ : ∃ p, p = chQ h G r k := ⟨_, rfl⟩
  rw [← hp] at HC h0
  clear hp hs
  have hp0 : ¬ (p : Int) = 0 := fun e => h0 (Int.ofNat.inj e)
  have hp1 : ((p : Int) == 0) = false := beq_eq_false_iff_ne.2 hp0
  clear x ht hS hL h0
  go_enter Tryz.func187, Tryz.ntmps187
  go_wp2_with fail
  refine HC.out.mono ?_
  rintro e w1 ⟨rfl, hA⟩
  have HA := Lib.hid hA
  clear hA
  go_wp2
  go_ret
  exact ⟨rfl, HA.out⟩

/-- What laying the first chart leaves. -/
def Lay0 (J : List RawOp → Prop) (B : Nat) (S : Nat → Prop) (c : Ac) (h : Hd) (G : Nat → List UInt8) (r : Nat) (w : World) (e : Ending) (w' : World) : Prop :=
  (∃ q h', h.NextIs q h' ∧ e = .returned (.bool true) ∧ ActPost J B S c (h'.setRoot r q) (upd G q noughts) w w') ∨
  ((∀ j, h.isFree j = false) ∧ h.count = 4095 ∧ e = .returned (.bool false) ∧ ActPost J B S c h G w w')

set_option maxHeartbeats 1600000 in
theorem lay_first (x : ActV J B S c h G w) (ht : HeapAt w hb c.a r) (hS : ¬ S hb) (hr : r < 16) (hn : ¬ h.has (h.root r)) :
    Calls Tryz.prog 187 #[.pointer (some ⟨hb, 0, none⟩), .int .i64 0] w (Lay0 J B S c h G r w) := by
  have HC : Hid (Calls Tryz.prog 114 #[.pointer (some ⟨hb, 0, none⟩), .int .i64 0] w fun e w' => e = .returned (.tuple #[.int .i64 0, .string ⟨#[]⟩]) ∧ (ActPost J B S c h G w w' ∧ HeapAt w' hb c.a r)) := Lib.hid ((chart_none x ht hr 0 hn).mono fun e w' ⟨he, S', hT, hA⟩ => ⟨he, ⟨S', hT, hA⟩, ht.kept hT.1 hS⟩)
  have HAL : Hid (∀ W, ActPost J B S c h G w W → HeapAt W hb c.a r → Calls Tryz.prog 11 #[.pointer (some ⟨c.a, 0, none⟩)] W fun e w' =>
      (∃ q h', h.NextIs q h' ∧ q < 4096 ∧ e = .returned (.tuple #[.int .i64 q, .int .i64 0]) ∧ ActPost J B S c h' (upd G q noughts) w w' ∧ HeapAt w' hb c.a r) ∨
      ((∀ j, h.isFree j = false) ∧ h.count = 4095 ∧ e = .returned (.tuple #[.int .i64 0, .int .i64 2]) ∧ w' = W)) := Lib.hid fun W ⟨S1, hT1, hA1⟩ h1 => (alloc_v hA1).mono fun e w' hh => hh.imp (fun ⟨q, h', hn, he, S', hT, hA⟩ => ⟨q, h', hn, (hn.spec hA1.ok).2.2.1, he, ⟨S', hT1.trans hT, hA⟩, h1.kept hT.1 (fun hs1 => hS (hT1.2 hb ht.lt hs1))⟩) id
  have HSR : Hid (∀ W0 W h' G', ActPost J B S c h' G' w W0 → Below W0.heap.size W0 W → ∀ q : Nat, q < 4096 → Calls Tryz.prog 15 #[.pointer (some ⟨c.a, 0, none⟩), .int .i64 r, .int .i64 q] W fun e w' => e = .returned (.int .i64 0) ∧ ActPost J B S c (h'.setRoot r q) G' w w') := Lib.hid fun W0 W h' G' ⟨S1, hT1, hA1⟩ hb1 q hq => (setRoot_v (hA1.below hb1) r q hr (by omega)).mono fun e w' ⟨he, S', hT, hA⟩ => ⟨he, S', hT1.trans ((Turn.ofBelow hb1).trans hT), hA⟩
  clear x ht hS hn
  go_enter Tryz.func187, Tryz.ntmps187
  go_wp2_with fail
  refine HC.out.mono ?_
  rintro e w1 ⟨rfl, hA, hH⟩
  have d1 := hH.c1
  have HA := Lib.hid (And.intro hA hH)
  clear hA hH
  go_wp2_with fail
  refine (HAL.out _ HA.out.1 HA.out.2).mono ?_
  rintro e w2 (⟨q, h', hnx, hq4, rfl, hA2, hH2⟩ | ⟨hf, hc4, rfl, hw⟩)
  · have HNX := Lib.hid hnx
    have HA2 := Lib.hid hA2
    have f1 := hH2.c1
    have f2 := hH2.c2
    clear hnx hA2 hH2 d1
    go_wp2_with fail
    go_region_with (first | (go_at_call 15; refine (HSR.out w2 _ h' (upd G q noughts) HA2.out (Below.refl _ _).drew q hq4).mono ?_; rintro e w9 ⟨rfl, hA9⟩))
    all_goals go_wp2
    all_goals go_ret
    all_goals exact .inl ⟨q, h', HNX.out, rfl, hA9⟩
  · subst w2
    have HF := Lib.hid (And.intro hf hc4)
    clear hf hc4
    go_wp2
    go_ret
    exact .inr ⟨HF.out.1, HF.out.2, rfl, HA.out.1⟩
end
end Go.Proofs.YtijggofelepaaaaGreatDoor

/- Contracts: a sheet is written, or let go; a page is taken. -/
set_option maxRecDepth 100000
namespace Go.Proofs.YtijggofelepaaaaGreatDoor
open Go.RowKit

section
variable {J : List RawOp → Prop} {B : Nat} {S : Nat → Prop} {c : Ac} {h : Hd} {G : Nat → List UInt8} {w : World} {hb r : Nat}
theorem szP_cnt : ∀ l : List Pl, szP l = 0 ↔ cntP l = 0
  | [] => by simp [szP, cntP]
  | p :: r => by
    have h := szP_cnt r
    unfold szP cntP Pl.sz Pl.cnt
    by_cases h0 : p.row = []
    · rw [if_pos h0, if_pos h0]; omega
    · rw [if_neg h0, if_neg h0]; omega
theorem chQ_top {top : Nat} (hr0 : h.root r = top) (hh : h.has top) : chQ h G r 0 = top := by
  unfold chQ; rw [hr0, if_pos hh, if_pos rfl]

set_option maxHeartbeats 1600000 in
theorem put_some {top m e q sb : Nat} {L : Nat → List Pl} {l : List Pl} (x : ActV J B S c h G w) (ht : HeapAt w hb c.a r) (hS : ¬ S hb) (hr : r < 16) (hs : HpS h G top L m e) (hrt : h.root r = top) (htop : top ≠ 0)
    (hsh : SheetAt w sb q l) (hns : ¬ S sb) (hq : h.has q) (hqt : q ≠ top) (hl : ShOk l) (hn : 0 < cntP l) :
    Calls Tryz.prog 103 #[.pointer (some ⟨hb, 0, none⟩), .pointer (some ⟨sb, 0, none⟩)] w (MutPost J B S c h (upd (upd G q (shP l)) top (setB (G top) q (mkP l))) w) := by
  have h1001 := hs.le hq
  have htl := hs.root htop
  have hne : l ≠ [] := fun e => by rw [e] at hn; exact absurd hn (Nat.lt_irrefl 0)
  have hsz : szP l ≠ 0 := fun e => by have := (szP_cnt l).1 e; omega
  have HSZ := Lib.hid (size_sh hsh hl.n hl.row)
  have hmk : mkP l = 1 + roomP l / 36 := by unfold mkP mkR; rw [if_neg hne]
  have HTX : Hid (∀ W, Below w.heap.size w W → Calls Tryz.prog 152 #[.pointer (some ⟨sb, 0, none⟩)] W fun e w' => e = .returned (.string ⟨(shP l).toArray⟩) ∧ Below w.heap.size w w' ∧ HeapAt w' hb c.a r ∧ SheetAt w' sb q l) := Lib.hid fun W hW =>
    (text_sh (hsh.below hW) hl).mono fun e w' ⟨he, hb'⟩ => ⟨he, hW.trans (hb'.mono hW.size), ht.below (hW.trans (hb'.mono hW.size)), hsh.below (hW.trans (hb'.mono hW.size))⟩
  have HWR : Hid (∀ W, Below w.heap.size w W → Calls Tryz.prog 13 #[.pointer (some ⟨c.a, 0, none⟩), .int .i64 q, .int .i64 0, .string ⟨(shP l).toArray⟩] W fun e w' => e = .returned (.int .i64 0) ∧ (ActPost J B S c h (upd G q (shP l)) w w' ∧ HeapAt w' hb c.a r ∧ SheetAt w' sb q l)) := Lib.hid fun W hW =>
    (write_at_v (x.below hW) q hq 0 ⟨(shP l).toArray⟩ (by show 0 < (shP l).length; rw [shP_len hl.fit]; omega) (by show 0 + (shP l).length ≤ 512; rw [shP_len hl.fit]; omega) (hs.len q hq)).mono fun e w' ⟨he, S', hT, hA⟩ => by
      have e1 : splice (G q) 0 (⟨(shP l).toArray⟩ : ByteArray).data.toList = shP l := by
        show splice (G q) 0 (shP l) = shP l
        unfold splice
        rw [shP_len hl.fit]
        simp [hs.len q hq]
      rw [e1] at hA
      have hT' := (Turn.ofBelow hW).trans hT
      exact ⟨he, ⟨S', hT', hA⟩, ht.kept hT'.1 hS, hsh.kept hT'.1 hns⟩
  have HRM : Hid (∀ W, SheetAt W sb q l → Calls Tryz.prog 153 #[.pointer (some ⟨sb, 0, none⟩)] W fun e w' => e = .returned (.int .i64 (roomP l)) ∧ Below W.heap.size W w') := Lib.hid fun W hW => (room_sh hW hl.n hl.row hl.fit).mono fun e w' ⟨he, hb'⟩ => ⟨by rw [he, roomP_eq hl.n], hb'⟩
  have HMO : Hid (∀ W, Calls Tryz.prog 147 #[.int .i64 (roomP l)] W fun e w' => e = .returned (.int .i64 (mkP l)) ∧ w' = W) := Lib.hid fun W => (markOf_any (roomP l) W (by have := roomP_le l; omega)).mono fun e w' ⟨he, hw⟩ => ⟨by rw [he, hmk], hw⟩
  have HSM : Hid (∀ W W', (ActPost J B S c h (upd G q (shP l)) w W ∧ HeapAt W hb c.a r) → SheetAt W sb q l → Below W.heap.size W W' → Calls Tryz.prog 151 #[.pointer (some ⟨hb, 0, none⟩), .int .i64 q, .int .i64 (mkP l)] W' fun e w' => MutPost J B S c h (upd (upd G q (shP l)) top (setB (G top) q (mkP l))) w e w' ∧ SheetAt w' sb q l) := Lib.hid fun W W' ⟨⟨S1, hT1, hA1⟩, hh⟩ hs' hb' => by
    have hlen : ∀ j, h.has j → (upd G q (shP l) j).length = 512 := fun j hj => by
      by_cases hjq : j = q
      · subst hjq; rw [upd_same]; exact shP_len hl.fit
      · rw [upd_other _ _ hjq]; exact hs.len j hj
    refine (setMark_any (hA1.below hb') (hh.below hb') (fun h1 => hS (hT1.2 hb ht.lt h1)) hr q (mkP l) (by omega) (mkP_lt l) hlen).mono ?_
    rintro e w' ⟨he, S', hT, hA⟩
    have e1 : chQ h (upd G q (shP l)) r (q / 1008) = top := by rw [show q / 1008 = 0 by omega]; exact chQ_top hrt htl
    rw [e1, if_neg htop, show q % 1008 = q by omega, upd_other _ _ (fun e => hqt e.symm)] at hA
    exact ⟨⟨he, S', hT1.trans ((Turn.ofBelow hb').trans hT), hA⟩, (hs'.below hb').kept hT.1 (fun h1 => hns (hT1.2 sb hsh.lt h1))⟩
  have c1 := ht.c1
  have s0 := hsh.c0
  obtain ⟨z, hz⟩ : ∃ z, z = szP l := ⟨_, rfl⟩
  rw [← hz] at HSZ hsz
  obtain ⟨tx, htx⟩ : ∃ t : ByteArray, t = ⟨(shP l).toArray⟩ := ⟨_, rfl⟩
  rw [← htx] at HTX HWR
  obtain ⟨rm, hrm⟩ : ∃ rm, rm = roomP l := ⟨_, rfl⟩
  rw [← hrm] at HRM HMO
  obtain ⟨mk, hmk'⟩ : ∃ mk, mk = mkP l := ⟨_, rfl⟩
  rw [← hmk'] at HMO
  rw [← hmk'] at HSM ⊢
  have hz1 : ¬ ((1 + z : Nat) : Int) = 1 := by omega
  have hz2 : (((1 + z : Nat) : Int) == 1) = false := beq_eq_false_iff_ne.2 hz1
  have HTL := Lib.hid (And.intro ht hsh)
  clear x ht hS hs hrt htop hsh hns hq hqt hl hn hne hmk hz htx hrm hmk' htl h1001
  go_enter Tryz.func103, Tryz.ntmps103
  go_wp2_with fail
  refine HSZ.out.mono ?_
  rintro e w1 ⟨rfl, hb1⟩
  have d1 := (HTL.out.1.below hb1).c1
  have d2 := (HTL.out.2.below hb1).c0
  have HB1 := Lib.hid hb1
  clear hb1
  go_wp2
  have HQ : Hid (∀ W, (HeapAt W hb c.a r ∧ SheetAt W sb q l) → W.cell? ⟨hb, 1, none⟩ = some (.pointer (some ⟨c.a, 0, none⟩)) ∧ W.cell? ⟨sb, 0, none⟩ = some (.int .i64 q)) := Lib.hid fun W hW => ⟨hW.1.c1, hW.2.c0⟩
  have hS1 : HeapAt w1.drew hb c.a r ∧ SheetAt w1.drew sb q l := ⟨HTL.out.1.below HB1.out.drew, HTL.out.2.below HB1.out.drew⟩
  clear d1 d2
  refine wp_region_held_drew (S := fun W => HeapAt W hb c.a r ∧ SheetAt W sb q l) (by kernel_rfl) hS1 (fun hHeld => ?_)
  refine wpAnyH_take (i := 0) (v := .pointer (some ⟨hb, 0, none⟩)) rfl (by kernel_rfl) (by kernel_rfl) (by kernel_rfl) (fun _ _ _ h => h) (Or.inl ⟨by rfl, fun W hW => by clear hW; go_simp⟩) hHeld ?_
  refine wpAnyH_take (i := 1) (v := .pointer (some ⟨hb, 0, none⟩)) rfl (by kernel_rfl) (by kernel_rfl) (by kernel_rfl) (fun _ _ _ h => h) (Or.inl ⟨by rfl, fun W hW => by clear hW; go_simp⟩) hHeld ?_
  refine wpAnyH_take (i := 2) (v := .pointer (some ⟨hb, 1, none⟩)) rfl (by kernel_rfl) (by kernel_rfl) (by kernel_rfl) (fun _ _ _ h => h) (Or.inl ⟨by rfl, fun W hW => by clear hW; go_simp⟩) hHeld ?_
  refine wpAnyH_take (i := 3) (v := .pointer (some ⟨c.a, 0, none⟩)) rfl (by kernel_rfl) (by kernel_rfl) (by kernel_rfl) (fun _ _ _ h => h) (Or.inl ⟨by rfl, fun W hW => by obtain ⟨x0, x1⟩ := HQ.out W hW; clear hW; go_simp⟩) hHeld ?_
  refine wpAnyH_take (i := 4) (v := .pointer (some ⟨sb, 0, none⟩)) rfl (by kernel_rfl) (by kernel_rfl) (by kernel_rfl) (fun _ _ _ h => h) (Or.inl ⟨by rfl, fun W hW => by clear hW; go_simp⟩) hHeld ?_
  refine wpAnyH_take (i := 5) (v := .pointer (some ⟨sb, 0, none⟩)) rfl (by kernel_rfl) (by kernel_rfl) (by kernel_rfl) (fun _ _ _ h => h) (Or.inl ⟨by rfl, fun W hW => by clear hW; go_simp⟩) hHeld ?_
  refine wpAnyH_take (i := 6) (v := .pointer (some ⟨sb, 0, none⟩)) rfl (by kernel_rfl) (by kernel_rfl) (by kernel_rfl) (fun _ _ _ h => h) (Or.inl ⟨by rfl, fun W hW => by clear hW; go_simp⟩) hHeld ?_
  refine wpAnyH_take (i := 7) (v := .int .i64 q) rfl (by kernel_rfl) (by kernel_rfl) (by kernel_rfl) (fun _ _ _ h => h) (Or.inl ⟨by rfl, fun W hW => by obtain ⟨x0, x1⟩ := HQ.out W hW; clear hW; go_simp⟩) hHeld ?_
  refine wpAnyH_take (i := 8) (v := .pointer (some ⟨sb, 0, none⟩)) rfl (by kernel_rfl) (by kernel_rfl) (by kernel_rfl) (fun _ _ _ h => h) (Or.inl ⟨by rfl, fun W hW => by clear hW; go_simp⟩) hHeld ?_
  refine wpAnyH_ready (rs := [9]) (by kernel_rfl) (by simp) ?_
  refine AllReadyH.cons rfl (fun K hK => ?_) AllReadyH.nil
  go_simp
  go_at_call 152
  refine (HTX.out _ HB1.out.drew).mono ?_
  rintro e w2 ⟨rfl, hb2, hh2, hs2⟩
  refine hK _ _ ⟨hh2, hs2⟩ (fun _ => ?_)
  clear hK K
  refine wpAnyH_ready (rs := [10]) (by kernel_rfl) (by simp) ?_
  refine AllReadyH.cons rfl (fun K hK => ?_) AllReadyH.nil
  go_simp
  go_at_call 13
  refine (HWR.out _ hb2).mono ?_
  rintro e w3 ⟨rfl, hA3, hh3, hs3⟩
  refine hK _ _ ⟨hh3, hs3⟩ (fun _ => ?_)
  clear hK K
  refine wpAnyH_done (by kernel_rfl) ?_ _
  have HA3 := Lib.hid (And.intro hA3 hh3)
  clear hHeld hA3 hb2 hh2 hs2
  go_simp
  go_wp2_with fail
  have hS3 : HeapAt w3.drew hb c.a r ∧ SheetAt w3.drew sb q l := ⟨hh3, hs3⟩
  refine wp_region_held_drew (S := fun W => SheetAt W sb q l) (by kernel_rfl) hS3.2 (fun hHeld => ?_)
  refine wpAnyH_take (i := 0) (v := .pointer (some ⟨hb, 0, none⟩)) rfl (by kernel_rfl) (by kernel_rfl) (by kernel_rfl) (fun _ _ _ h => h) (Or.inl ⟨by rfl, fun W hW => by clear hW; go_simp⟩) hHeld ?_
  refine wpAnyH_take (i := 1) (v := .pointer (some ⟨sb, 0, none⟩)) rfl (by kernel_rfl) (by kernel_rfl) (by kernel_rfl) (fun _ _ _ h => h) (Or.inl ⟨by rfl, fun W hW => by clear hW; go_simp⟩) hHeld ?_
  refine wpAnyH_take (i := 2) (v := .pointer (some ⟨sb, 0, none⟩)) rfl (by kernel_rfl) (by kernel_rfl) (by kernel_rfl) (fun _ _ _ h => h) (Or.inl ⟨by rfl, fun W hW => by clear hW; go_simp⟩) hHeld ?_
  refine wpAnyH_take (i := 3) (v := .pointer (some ⟨sb, 0, none⟩)) rfl (by kernel_rfl) (by kernel_rfl) (by kernel_rfl) (fun _ _ _ h => h) (Or.inl ⟨by rfl, fun W hW => by clear hW; go_simp⟩) hHeld ?_
  refine wpAnyH_take (i := 4) (v := .int .i64 q) rfl (by kernel_rfl) (by kernel_rfl) (by kernel_rfl) (fun _ _ _ h => h) (Or.inl ⟨by rfl, fun W hW => by have x1 := hW.c0; clear hW; go_simp⟩) hHeld ?_
  refine wpAnyH_take (i := 5) (v := .pointer (some ⟨sb, 0, none⟩)) rfl (by kernel_rfl) (by kernel_rfl) (by kernel_rfl) (fun _ _ _ h => h) (Or.inl ⟨by rfl, fun W hW => by clear hW; go_simp⟩) hHeld ?_
  refine wpAnyH_ready (rs := [6]) (by kernel_rfl) (by simp) ?_
  refine AllReadyH.cons rfl (fun K hK => ?_) AllReadyH.nil
  go_simp
  go_at_call 153
  refine (HRM.out _ hHeld).mono ?_
  rintro e w4 ⟨rfl, hb4⟩
  have hs4 : SheetAt w4 sb q l := hHeld.below hb4
  refine hK _ _ hs4 (fun _ => ?_)
  clear hK K
  refine wpAnyH_ready (rs := [7]) (by kernel_rfl) (by simp) ?_
  refine AllReadyH.cons rfl (fun K hK => ?_) AllReadyH.nil
  go_simp
  go_at_call 147
  refine (HMO.out _).mono ?_
  rintro e w5 ⟨rfl, hw5⟩
  subst hw5
  refine hK _ _ hs4 (fun _ => ?_)
  clear hK K
  refine wpAnyH_ready (rs := [8]) (by kernel_rfl) (by simp) ?_
  refine AllReadyH.cons rfl (fun K hK => ?_) AllReadyH.nil
  go_simp
  go_at_call 151
  refine (HSM.out w3 w5 HA3.out hs3 (((Below.refl _ _).drew).trans hb4)).mono ?_
  rintro e w6 ⟨⟨rfl, hp6⟩, hs6⟩
  refine hK _ _ hs6 (fun _ => ?_)
  clear hK K
  refine wpAnyH_done (by kernel_rfl) ?_ _
  have HP6 := Lib.hid hp6
  clear hHeld hp6 hs6 hs4 hb4
  go_end0
  exact ⟨rfl, HP6.out⟩
end
end Go.Proofs.YtijggofelepaaaaGreatDoor
