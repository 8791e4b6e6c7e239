/- Texts of the same proof, one behind the other: FU, FV, SZM. -/
import Derived.Test.YtijggofelepaaaaGreatDoorMAR
import Derived.Test.YtijggofelepaaaaGreatDoorMAL
/- Contract: the addresses of the places that are chosen. -/
set_option maxRecDepth 100000
namespace Go.Proofs.YtijggofelepaaaaGreatDoor
open Go Go.RowKit Go.Shelf
attribute [local go_sem] Oper.semAt_some

/-- What tids leaves. -/
def TidsPost (J : List RawOp → Prop) (B : Nat) (S : Nat → Prop) (c : Ac) (h : Hd) (G : Nat → List UInt8) (xs : List Nat) (w : World) (e : Ending) (w' : World) : Prop :=
  ∃ S' v, e = .returned v ∧ Turn S w S' w' ∧ ActV J B S' c h G w' ∧ NumsI w' v xs ∧ ∀ g, v.ownBlock = some g → ¬ S' g ∧ w.heap.size ≤ g
/-- What stands between two sheets. -/
def TJs (f : Pl → Bool) (L : Nat → List Pl) (N : Nat) (S : Nat → Prop) (w : World) (X : Nat → Prop) (W0 : World) (S' : Nat → Prop) (s : List Nat) (W' : World) : Prop :=
  TurnC (fun k => N ≤ k) S w S' W' ∧ Fix X W0 S' W' ∧ ¬ S' (N + 1) ∧ ∃ v, W'.heap[N + 1]? = some (.cells #[v] 57 (0, 0)) ∧ NumsI W' v (tidsL f L s) ∧ ∀ g, v.ownBlock = some g → ¬ S' g ∧ N + 11 ≤ g

set_option maxHeartbeats 3200000 in
theorem tids_in {J : List RawOp → Prop} {B : Nat} {S : Nat → Prop} {c : Ac} {h : Hd} {G : Nat → List UInt8} {w : World} {hb r n : Nat} {L : Nat → List Pl} {ch : Nat → Nat} (hn : 8 ≤ n) (x : ActV J B S c h G w) (ht : HeapAt w hb c.a r) (hS : ¬ S hb) (hr : r < 16) (hL : ∀ q, h.has q → (G q).length = 512) (hon : HpOn h G (h.root r) L ch)
    (fn : Nat) (f : Pl → Bool) (heq : ∀ args W, (callFunc fn args).run Tryz.prog W = .ok (.enter fn args) W) (hch : ∀ p W, Calls Tryz.prog fn #[plV p] W fun e w' => e = .returned (.bool (f p)) ∧ Below W.heap.size W w') :
    CallsIn Fence.wide n Tryz.prog 106 #[.pointer (some ⟨hb, 0, none⟩), .func (.func fn) #[] #[]] w (TidsPost J B S c h G (tidsL f L (pgs L 1 5040)) w) := by
  have hbl := ht.lt
  have hw0 : 1 ≤ w.heap.size := by omega
  obtain ⟨N, hN⟩ : ∃ N, N = w.heap.size := ⟨_, rfl⟩
  obtain ⟨wa, hwa⟩ : ∃ wa, wa = w.alloc (.cells #[.func (.func fn) #[] #[]] 171) := ⟨_, rfl⟩
  have hbwa : Below w.heap.size w wa := by rw [hwa]; exact (Below.refl _ _).alloc (Nat.le_refl _) _
  have HRF := Lib.hid (callsIn_wide (n := n - 1).2 (hp_live (x.below hbwa) (ht.below hbwa) hr))
  have HSHA : Hid (∀ w1, CallsIn Fence.wide (n - 1) Tryz.prog 154 #[.pointer (some ⟨hb, 0, none⟩), .int .i64 (1 : Nat)] w1 _) := Lib.hid (fun w1 => callsIn_wide (n := n - 1).2 (sheets_any hb 1 w1))
  have HX := Lib.hid x
  have HT := Lib.hid ht
  have HS := Lib.hid hS
  have HL := Lib.hid hL
  have HON := Lib.hid hon
  have HWA := Lib.hid hwa
  have HN := Lib.hid hN
  have HCH := Lib.hid hch
  clear x ht hS hL hon hch hbwa
  refine callsIn_of_wp_marks Tryz.func106 rfl trivial ?_ rfl
  simp only [Tryz.ntmps106, List.size_toArray, List.length_cons, List.length_nil, Nat.reduceAdd, Nat.reduceSub, Array.replicate_succ, Array.replicate_zero, List.push_toArray, List.append_toArray, List.nil_append, List.cons_append]
  have hd1 : 1 ≤ n := by omega
  have hd2 : 1 ≤ n - 1 := by omega
  have hF1 : Fence.wide.fn 154 := trivial
  have hF2 : Fence.wide.fn 99 := trivial
  have hF3 : Fence.wide.fn 104 := trivial
  have hF4 : Fence.wide.fn fn := trivial
  clear hwa hN
  gi_wp2_with fail
  rw [← HWA.out]
  refine HRF.out.mono ?_
  rintro e wr ⟨rfl, kk, hwr⟩
  obtain ⟨w1, hw1⟩ : ∃ w1, w1 = wr.alloc (.cells #[.slice none 0 0] 57) := ⟨_, rfl⟩
  have HWR := Lib.hid hwr
  have HW1 := Lib.hid hw1
  clear hwr hw1
  gi_wp2_with fail
  rw [← HW1.out]
  refine (HSHA.out w1).mono ?_
  rintro e w2 ⟨rfl, hw2⟩
  have HW2 := Lib.hid hw2
  clear hw2
  gi_wp2_with fail
  have hw1 := HW1.out
  have hw2 := HW2.out
  have hNw := HN.out
  have hwra : wr.heap = wa.heap := by rw [HWR.out]; rfl
  have z0 : wr.heap.size = N + 1 := by rw [hwra, HWA.out]; simp [← HN.out]
  have z1 : w1.heap.size = N + 2 := by rw [hw1]; simp [z0]
  have z2 : w2.heap.size = N + 4 := by rw [hw2]; simp [z1]
  rw [z1, z0, ← HN.out]
  refine range_outer (m := n - 1) (gf := 189) (lb := #[.pointer (some ⟨N + 2, 0, none⟩), .pointer (some ⟨N + 2 + 1, 0, none⟩)]) rfl (enters_of Tryz.func189 (by kernel_rfl) rfl) ?_
  intro fnn rec hrec
  rw [z2] at hrec ⊢
  obtain ⟨W0, hW0⟩ : ∃ W0, W0 = (w2.alloc (.deferred (some []))).alloc (.loop (rec .ready none)) := ⟨_, rfl⟩
  rw [← hW0]
  have z3 : W0.heap.size = N + 6 := by rw [hW0, World.size_alloc, World.size_alloc, z2]
  have hBa : Below N w wr := by
    rw [HWR.out, HWA.out]
    exact ((Below.refl _ w).alloc (by omega) _).trans ((below_drewN _ kk).mono (by simp; omega))
  have hB1 : Below N w w1 := by
    rw [hw1]
    exact hBa.alloc (by omega) _
  have hB2 : Below N w w2 := by
    rw [hw2]
    exact (hB1.alloc (by omega) _).alloc (by simp; omega) _
  have hB0 : Below N w W0 := by
    rw [hW0]
    exact (hB2.alloc (by omega) _).alloc (by simp; omega) _
  have up1 : ∀ k, k < N + 2 → W0.heap[k]? = w1.heap[k]? := fun k hk => by
    rw [hW0, Below.heap_alloc _ _ _ (by simp; omega), Below.heap_alloc _ _ _ (by omega), hw2, Below.heap_alloc _ _ _ (by simp; omega), Below.heap_alloc _ _ _ (by omega)]
  have hB3 : ∀ k, k < N + 4 → W0.heap[k]? = w2.heap[k]? := fun k hk => by
    rw [hW0, Below.heap_alloc _ _ _ (by simp; omega), Below.heap_alloc _ _ _ (by omega)]
  have g5 : W0.heap[N + 5]? = some (.loop (rec .ready none)) := by
    have := World.alloc_heap_new (w2.alloc (.deferred (some []))) (.loop (rec .ready none))
    rw [World.size_alloc, z2] at this
    rw [hW0]; exact this
  have g4 : W0.heap[N + 4]? = some (.deferred (some [])) := by
    rw [hW0, Below.heap_alloc _ _ _ (by simp; omega), ← z2]; exact World.alloc_heap_new w2 _
  have g3 : W0.heap[N + 2 + 1]? = some (.cells #[.int .i64 (1 : Nat)] 3 (0, 0)) := by
    rw [hB3 _ (by omega), hw2]
    have := heap_alloc_new (w1.alloc (.cells #[.pointer (some ⟨hb, 0, none⟩)] 70)) (.cells #[.int .i64 (1 : Nat)] 3)
    rw [World.size_alloc, z1] at this
    exact this
  have g2 : W0.heap[N + 2]? = some (.cells #[.pointer (some ⟨hb, 0, none⟩)] 70 (0, 0)) := by
    rw [hB3 _ (by omega), hw2, Below.heap_alloc _ _ _ (by simp; omega), ← z1]
    exact heap_alloc_new w1 _
  have g1 : W0.heap[N + 1]? = some (.cells #[.slice none 0 0] 57 (0, 0)) := by
    rw [up1 _ (by omega), hw1, ← z0]
    exact heap_alloc_new wr _
  have g0 : W0.heap[N]? = some (.cells #[.func (.func fn) #[] #[]] 171 (0, 0)) := by
    rw [up1 _ (by omega), hw1, Below.heap_alloc _ _ _ (by omega), hwra, HWA.out, HN.out]
    exact heap_alloc_new w _
  have hbN : hb < N := by rw [HN.out]; exact hbl
  have gh : W0.heap[hb]? = w.heap[hb]? := hB0.block _ hbN
  have hB0' : Below w.heap.size w W0 := by rw [← HN.out]; exact hB0
  obtain ⟨X, hXd⟩ : ∃ X : Nat → Prop, Hid (∀ k, X k ↔ (k = hb ∨ k = N ∨ (N + 2 ≤ k ∧ k < N + 6))) := ⟨fun k => k = hb ∨ k = N ∨ (N + 2 ≤ k ∧ k < N + 6), Lib.hid (fun _ => Iff.rfl)⟩
  have hact : ActV J B S c h G W0 := HX.out.below hB0'
  have hlow : ∀ k, N ≤ k → ¬ S k := fun k hk hs => by have := (HX.out.low k hs).2; have := HN.out; omega
  have hfix : Fix X W0 S W0 := fun k hk => ⟨rfl, by
    rcases (hXd.out k).1 hk with rfl | rfl | hk
    · exact HS.out
    · exact hlow _ (Nat.le_refl _)
    · exact hlow _ (by omega)⟩
  have htc : TurnC (fun k => N ≤ k) S w S W0 := (Turn.ofBelow hB0').toC _
  have HXL : Hid (∀ k, X k → k < W0.heap.size) := Lib.hid fun k hk => by rcases (hXd.out k).1 hk with rfl | rfl | hk <;> omega
  have HXN : Hid (∀ k, X k → k < N + 11 ∧ k ≠ N + 1) := Lib.hid fun k hk => by rcases (hXd.out k).1 hk with rfl | rfl | hk <;> omega
  have HG := Lib.hid (And.intro g0 (And.intro g1 (And.intro g2 (And.intro g3 (And.intro g4 (And.intro g5 gh))))))
  have HREC := Lib.hid hrec
  have HST := Lib.hid (And.intro hact (And.intro htc (And.intro hfix hlow)))
  have HZ := Lib.hid z3
  have HBN := Lib.hid (And.intro hbN hw0)
  clear hNw hact htc hfix hlow hrec g0 g1 g2 g3 g4 g5 gh hB0 hB0' hB1 hB2 hB3 hBa up1 z0 z1 z2 hW0 hbl hw1 hw2 z3 hbN hw0 hwra
  have HIF : Hid (∀ S' W', Fix X W0 S' W' → HeapAt W' hb c.a r ∧ ¬ S' hb ∧ W'.cell? ⟨N + 2, 0, none⟩ = some (.pointer (some ⟨hb, 0, none⟩)) ∧ W'.cell? ⟨N + 2 + 1, 0, none⟩ = some (.int .i64 (1 : Nat))) := Lib.hid fun S' W' hf => by
    obtain ⟨g0, g1, g2, g3, g4, g5, gh⟩ := HG.out
    obtain ⟨e1, e2⟩ := hf hb ((hXd.out _).2 (.inl rfl))
    refine ⟨?_, e2, ?_, ?_⟩
    · have := HT.out
      unfold HeapAt at this ⊢
      rw [e1, gh]; exact this
    · rw [World.cell?_of_block (w := W0) (hf (N + 2) ((hXd.out _).2 (by omega))).1, Lib.cell_of_heap g2]; rfl
    · rw [World.cell?_of_block (w := W0) (hf (N + 2 + 1) ((hXd.out _).2 (by omega))).1, Lib.cell_of_heap g3]; rfl
  refine CallsIn.mono (sheets1_in (n := n - 1) (hb := hb) (a := 1) (hx := N + 2) (lx := N + 2 + 1) (r := r) (base := N + 6) (by omega) hr (by omega) HL.out HON.out (fun k => k = N + 1 ∨ k = N + 5 ∨ N + 11 ≤ k)
    (TJs f L N S w X W0) (fun _ _ _ => False)
    (by rintro k (rfl | rfl | h) <;> omega) (by omega) ?hI ?hJ ?hcl ?hcx ?hY S W0 HZ.out.symm HST.out.1 ⟨HST.out.2.1, HST.out.2.2.1, HST.out.2.2.2 _ (by omega), _, HG.out.2.1, NumsI.nil _, fun g hg => by simp [Value.ownBlock] at hg⟩ (by rw [HZ.out]; omega) (by rw [HZ.out]; omega)) ?fin
  case hI =>
    rintro S2 s W2 ⟨_, h2, _⟩
    exact HIF.out _ _ h2
  case hJ =>
    rintro S2 A S3 A' s hA ⟨h1, h2, h3, v, h4, h5, h6⟩ hT hA'
    have l1 := (Array.getElem?_eq_some_iff.1 h4).1
    refine ⟨h1.trans (hT.toC _), h2.turn HXL.out (hT.toC (fun _ => False)) (fun _ _ e => e), fun hs => h3 (hT.2 _ l1 hs), v, (hT.1.block _ l1 h3).trans h4, ownsRow_of_block h5 (fun k hk => ?_), fun g hg => ⟨fun hs => ?_, (h6 g hg).2⟩⟩
    · obtain ⟨cur, hc⟩ := h5.block k hk
      exact hT.1.block k (Array.getElem?_eq_some_iff.1 hc).1 (h6 k hk).1
    · obtain ⟨cur, hc⟩ := h5.block g hg
      exact (h6 g hg).1 (hT.2 g (Array.getElem?_eq_some_iff.1 hc).1 hs)
  case hcl =>
    rintro S2 s A rr o o' ⟨h1, h2, h3, v, h4, h5, h6⟩ hr1 hr2 ho1 ho2
    refine ⟨h1.trans (put_turnC _ (by omega) _), h2.put (fun hk => by have := HXL.out _ hk; have := HZ.out; omega) _, h3, v, (World.putObj_heap_other (by omega)).trans h4, ownsRow_of_block h5 (fun k hk => ?_), h6⟩
    obtain ⟨cur, hc⟩ := h5.block k hk
    exact World.putObj_heap_other (fun e => by rw [← e, hc] at ho1; cases ho1; cases ho2)
  case hcx =>
    rintro S2 s A rr o o' hf _ _ _ _
    exact hf
  case hY =>
    rintro S2 pre q sb W2 hA ⟨k1, k2, k3, v0, k4, k5, k6⟩ hsb hsh hns hq hpf
    obtain ⟨g0, g1, g2, g3, g4, g5, gh⟩ := HG.out
    have z3 := HZ.out
    obtain ⟨t1, t2, t3, t4, t5, t6, t7⟩ := HON.out.sheet q hq
    obtain ⟨f5, n5⟩ := k2 (N + 5) ((hXd.out _).2 (by omega))
    have hlr : W2.heap[N + 5]? = some (.loop (rec .ready none)) := f5.trans g5
    have hplen : pre.length ≤ 5040 := by
      have h1 := hpf.length_le
      have h2 : (pgs L 1 5040).length ≤ 5040 := by
        unfold pgs
        exact Nat.le_trans (List.length_filter_le _ _) (by rw [List.length_range]; exact Nat.le_refl _)
      rw [List.length_append] at h1
      omega
    refine YieldAt.mono' (yield_round (args := #[.pointer (some ⟨sb, 0, none⟩)]) HREC.out hlr rfl (fun b _ W' => ∃ S', TurnC (fun k => k = N + 1 ∨ k = N + 5 ∨ N + 11 ≤ k) S2 W2 S' W' ∧ (b = true → ActV J B S' c h G W' ∧ TJs f L N S w X W0 S' (pre ++ [q]) W') ∧
      (b = false → False)) ?_) ?_
    · obtain ⟨W3, hW3⟩ : ∃ W3, W3 = W2.putObj (N + 5) (.loop (rec .busy none)) := ⟨_, rfl⟩
      have hT3 : TurnC (fun k => k = N + 1 ∨ k = N + 5 ∨ N + 11 ≤ k) S2 W2 S2 W3 := by rw [hW3]; exact put_turnC _ (.inr (.inl rfl)) _
      have HR3 : Hid (TRS J B c h G N sb q (L q) rec X W0 S2 W2 (tidsL f L pre ++ rowT f (L q) q 0) W3) := Lib.hid (by
        refine ⟨by rw [hW3]; exact hA.put n5 (by omega) _, hT3, by rw [hW3]; exact (k2.mono (fun _ hk => hk.1)).put (fun hk => hk.2 rfl) _, by rw [hW3]; exact World.putObj_heap_same (Array.getElem?_eq_some_iff.1 hlr).1, by rw [hW3]; unfold SheetAt at hsh ⊢; exact (World.putObj_heap_other (by omega)).trans hsh, v0, by rw [hW3]; exact (World.putObj_heap_other (by omega)).trans k4, ?_, k6⟩
        have e : tidsL f L pre ++ rowT f (L q) q 0 = tidsL f L pre := by simp [rowT]
        rw [e, hW3]
        exact ownsRow_of_block k5 (fun k hk => World.putObj_heap_other (by have := (k6 k hk).2; omega)))
      have hz3 : N + 11 ≤ W3.heap.size := by
        have h1 := HR3.out.2.2.2.2.1.lt
        omega
      have hrg : W3.rangeAt sb 1 (plCells (L q)) := fun j v hv => by
        have h1 := HR3.out.2.2.2.2.1
        rw [Lib.cell_of_heap h1, List.getElem?_toArray, show 1 + j = j + 1 by omega, List.getElem?_cons_succ]; exact hv
      have hcl : (plCells (L q)).length = 128 := by rw [plCells_len, t5.n]
      have HRG := Lib.hid hrg
      have HI : Hid ((Tryz.prog.info? 166).map (·.size) = some (plCells (L q)).length) := Lib.hid (by rw [hcl]; kernel_rfl)
      have HIX : Hid (∀ i : Nat, i < 64 → ∀ p, (L q)[i]? = some p → ∀ W, (Instr.index 166 (.agg (plCells (L q)).toArray) (.int .i64 i)).run Tryz.prog W = .ok (plV p) W) := Lib.hid fun i hi p hp W => by rw [run_index_place _ _ _ hi, place_extract hp]; rfl
      obtain ⟨XX, hXX⟩ : ∃ XX, XX = (plCells (L q)).toArray := ⟨_, rfl⟩
      obtain ⟨cs, hcs⟩ : ∃ cs, cs = plCells (L q) := ⟨_, rfl⟩
      rw [← hcs] at HRG HI hXX
      have HXX := Lib.hid hXX
      have HIY : Hid (∀ i : Nat, i < 64 → ∀ p, (L q)[i]? = some p → ∀ W, (Instr.index 166 (.agg XX) (.int .i64 i)).run Tryz.prog W = .ok (plV p) W) := Lib.hid (by rw [hXX, hcs]; exact HIX.out)
      have HFN : Hid (∀ W xs, TRS J B c h G N sb q (L q) rec X W0 S2 W2 xs W → W.cell? ⟨N, 0, none⟩ = some (.func (.func fn) #[] #[]) ∧ N < W.heap.size) := Lib.hid fun W xs hx => by
        obtain ⟨_, _, a3, _⟩ := hx
        have e := (a3 N ⟨(hXd.out _).2 (by omega), by omega⟩).1.trans g0
        exact ⟨by rw [Lib.cell_of_heap e]; rfl, (Array.getElem?_eq_some_iff.1 e).1⟩
      have HEN : Hid (∀ W, TRS J B c h G N sb q (L q) rec X W0 S2 W2 (tidsL f L pre ++ rowT f (L q) q 64) W → W.heap[N + 5]? = some (.loop (rec .busy none)) ∧ ∃ S', TurnC (fun k => k = N + 1 ∨ k = N + 5 ∨ N + 11 ≤ k) S2 W2 S' (W.putObj (N + 5) (.loop (rec .ready none))) ∧ ActV J B S' c h G (W.putObj (N + 5) (.loop (rec .ready none))) ∧ TJs f L N S w X W0 S' (pre ++ [q]) (W.putObj (N + 5) (.loop (rec .ready none)))) := Lib.hid fun W hx => by
        obtain ⟨a1, a2, a3, a4, a5, v, a6, a7, a8⟩ := hx
        have hT6 := a2.trans (put_turnC (C := fun k => k = N + 1 ∨ k = N + 5 ∨ N + 11 ≤ k) (S := S2) (r := N + 5) (w := W) (.inr (.inl rfl)) (.loop (rec .ready none)))
        refine ⟨a4, S2, hT6, a1.put n5 (by omega) _, k1.trans (hT6.mono (fun k hk => by omega)), fun k hk => ?_, k3, v, (World.putObj_heap_other (by omega)).trans a6, ?_, a8⟩
        · by_cases hk5 : k = N + 5
          · subst hk5; exact ⟨(World.putObj_heap_same (Array.getElem?_eq_some_iff.1 a4).1).trans g5.symm, n5⟩
          · exact ⟨(World.putObj_heap_other hk5).trans (a3 k ⟨hk, hk5⟩).1, (a3 k ⟨hk, hk5⟩).2⟩
        · rw [tidsL_snoc]
          exact ownsRow_of_block a7 (fun k hk => World.putObj_heap_other (by have := (a8 k hk).2; omega))
      have hq1 : q < 4096 := t2
      have HLQ := Lib.hid (And.intro t5 (And.intro hplen (And.intro k3 hsb)))
      have HW3 := Lib.hid hW3
      have HLR := Lib.hid hlr
      have hmx : Tryz.prog.follows .mixedOrders = true := by kernel_rfl
      have hd5 : 1 ≤ n - 1 - 1 - 1 - 1 := by omega
      clear hA k1 k2 k3 k4 k5 k6 hsb hsh hns hq hpf g0 g1 g2 g3 g4 g5 gh z3 t1 t2 t3 t4 t5 t6 t7 f5 n5 hlr hW3 hT3 hrg hcl hXX hcs HIX hplen
      gi_wp2_with fail
      refine ⟨HLR.out, ?_⟩
      rw [← HW3.out]
      gi_wp2_with fail
      refine wpIn_value (by intro c hc; cases hc) (exec_load_mid 166 _ rfl sb 1 rfl cs _ HRG.out Tryz.underlying166 rfl HI.out) ?_
      rw [← HXX.out]
      gi_wp2_with fail
      gi_loopw [19] (fun vk wr => ∃ k : Nat, vk = .int .i64 k ∧ k ≤ 64 ∧ Hid (N + 11 ≤ wr.heap.size ∧ TRS J B c h G N sb q (L q) rec X W0 S2 W2 (tidsL f L pre ++ rowT f (L q) q k) wr)) (fun vk _ => 64 - (intOf vk).toNat)
      case atStart => exact ⟨0, rfl, by omega, Lib.hid ⟨hz3, HR3.out⟩⟩
      case round =>
        clear HR3 HRG HXX hz3 HLR
        obtain ⟨k, rfl, hk6, HS3⟩ := hrel
        by_cases hk : k < 64
        · have hkc : (k : Int) < 64 := by omega
          obtain ⟨p, hp⟩ : ∃ p, (L q)[k]? = some p := ⟨(L q)[k]'(by rw [HLQ.out.1.n]; exact hk), List.getElem?_eq_getElem (by rw [HLQ.out.1.n]; exact hk)⟩
          have hix := HIY.out k hk p hp
          have HC : Hid (∀ W, CallsIn Fence.wide (n - 1 - 1 - 1 - 1 - 1) Tryz.prog fn #[plV p] W fun e w' => e = .returned (.bool (f p)) ∧ Below W.heap.size W w') := Lib.hid fun W => callsIn_wide.2 (HCH.out p W)
          have hrow := rowT_succ (f := f) (q := q) hp
          unfold plV at hix HC
          obtain ⟨s, hs⟩ : ∃ s : ByteArray, s = ⟨p.row.toArray⟩ := ⟨_, rfl⟩
          obtain ⟨d, hd⟩ : ∃ d, d = p.dead := ⟨_, rfl⟩
          rw [← hs, ← hd] at hix HC
          obtain ⟨hc0, hNl⟩ := HFN.out _ _ HS3.out.2
          have HBW : Hid (∀ w4, Below (wr.heap.size + 1) (wr.alloc (.cells #[.string s, .bool d] 125)) w4 → N + 11 ≤ w4.heap.size ∧ TRS J B c h G N sb q (L q) rec X W0 S2 W2 (tidsL f L pre ++ rowT f (L q) q k) w4) := Lib.hid fun w4 hb4 => by
            have hb0 : Below wr.heap.size wr w4 := ((Below.refl _ _).alloc (Nat.le_refl _) _).trans (hb4.mono (by omega))
            exact ⟨Nat.le_trans HS3.out.1 hb0.size, HS3.out.2.below HXL.out hb0⟩
          have HROW := Lib.hid hrow
          clear hs hd hp hrow
          cases hfp : f p with
          | false =>
            rw [hfp] at HC
            have hr0 : Hid (rowT f (L q) q (k + 1) = rowT f (L q) q k) := Lib.hid (by rw [HROW.out, hfp]; simp)
            clear hfp HROW
            gi_wp2_with (refine (CallsIn.inRound (N + 5) (HC.out _)).mono ?_; rintro e w4 ⟨rfl, hb4⟩)
            go_roundw
            case rel => exact ⟨k + 1, by go_num, by omega, Lib.hid (by rw [hr0.out]; exact HBW.out _ (by simpa using hb4))⟩
            case measure => simp [intOf]; omega
          | true =>
            rw [hfp] at HC
            have hr0 : Hid (rowT f (L q) q (k + 1) = rowT f (L q) q k ++ [q * 64 + k]) := Lib.hid (by rw [HROW.out, hfp]; simp)
            clear hfp HROW
            obtain ⟨y, hy⟩ : ∃ y, y = q * 64 + k := ⟨_, rfl⟩
            have HYY := Lib.hid hy
            clear hy
            gi_wp2_with (refine (CallsIn.inRound (N + 5) (HC.out _)).mono ?_; rintro e w4 ⟨rfl, hb4⟩)
            obtain ⟨hz4, hx4⟩ := HBW.out w4 (by simpa using hb4)
            have hz5 : N + 11 ≤ w4.drew.heap.size := hz4
            have hx5 : TRS J B c h G N sb q (L q) rec X W0 S2 W2 (tidsL f L pre ++ rowT f (L q) q k) w4.drew := hx4.below HXL.out ((Below.refl _ _).drew)
            obtain ⟨_, _, _, _, hsh5, v, hv5, hn5, _⟩ := id hx5
            obtain ⟨av, cv, rfl⟩ := hn5.shape
            obtain ⟨v', w5, hrun, c5, fz5, ⟨av', nv', cv', rfl⟩, hx6⟩ := hx5.push HXN.out hz5 HLQ.out.2.2.1 (by have := HLQ.out.2.2.2; omega) (by
              have h1 := tidsL_len f L pre
              have h2 := rowT_len f (L q) q k
              have h3 := HLQ.out.2.1
              rw [List.length_append]; omega) y hv5
            have hcv : w4.drew.cell? ⟨N + 1, 0, none⟩ = some (.slice av (tidsL f L pre ++ rowT f (L q) q k).length cv) := by rw [Lib.cell_of_heap hv5]; rfl
            have HTD : Hid (CallsIn Fence.wide (n - 1 - 1 - 1 - 1 - 1) Tryz.prog 104 #[.pointer (some ⟨sb, 0, none⟩), .int .i64 k] w4.drew fun e w' => e = .returned (.int .i64 y) ∧ w' = w4.drew) := Lib.hid (callsIn_wide.2 (by rw [HYY.out]; exact tid_any hsh5 hq1 k hk))
            have HRUN := Lib.hid hrun
            obtain ⟨m, hm⟩ : ∃ m, m = (tidsL f L pre ++ rowT f (L q) q k).length := ⟨_, rfl⟩
            rw [← hm] at HRUN hcv c5
            have hcvA : (w4.drew.alloc (.cells #[.int .i64 (y : Int)] 3)).cell? ⟨N + 1, 0, none⟩ = some (.slice av m cv) := (((Below.refl _ _).alloc (Nat.le_refl _) _).cell (p := ⟨N + 1, 0, none⟩) (by show N + 1 < w4.heap.size; omega)).trans hcv
            have hcvB : (w4.alloc (.cells #[.int .i64 (y : Int)] 3)).drew.cell? ⟨N + 1, 0, none⟩ = some (.slice av m cv) := hcvA
            have hcvC : (w4.alloc (.cells #[.int .i64 (y : Int)] 3)).cell? ⟨N + 1, 0, none⟩ = some (.slice av m cv) := hcvA
            have hz6 : w4.drew.heap.size = w4.heap.size := rfl
            rw [hz6] at HRUN
            have HEND : Hid (N + 11 ≤ (w5.setCell ⟨N + 1, 0, none⟩ (.slice av' nv' cv')).heap.size ∧ TRS J B c h G N sb q (L q) rec X W0 S2 W2 (tidsL f L pre ++ rowT f (L q) q (k + 1)) (w5.setCell ⟨N + 1, 0, none⟩ (.slice av' nv' cv'))) := Lib.hid ⟨by
              have h1 := hx6.2.2.2.2.1.lt
              have h2 := HLQ.out.2.2.2
              omega, by rw [hr0.out, ← List.append_assoc, ← HYY.out]; exact hx6⟩
            clear hx4 hx5 hx6 hrun hv5 hn5 hsh5 hb4 hm hz5 HS3 HBW HC hz6
            gi_wp2
            refine wpIn_region_any (by assumption) ?_
            try (change wpAnyIn _ _ _ _ _ _ _ _ _ (World.drew _))
            refine wpAnyIn_ready (rs := [0, 1, 2]) (by kernel_rfl) (by simp) ?_
            refine AllReadyIn.cons rfl (fun K hK => ?_) (AllReadyIn.cons rfl (fun K hK => ?_) (AllReadyIn.cons rfl (fun K hK => ?_) AllReadyIn.nil))
            · go_simp
              refine hK _ _ ?_
              clear hK K
              refine wpAnyIn_ready (rs := [1, 2]) (by kernel_rfl) (by simp) ?_
              refine AllReadyIn.cons rfl (fun K hK => ?_) (AllReadyIn.cons rfl (fun K hK => ?_) AllReadyIn.nil)
              · go_simp
                refine hK _ _ ?_
                clear hK K
                refine wpAnyIn_ready (rs := [2]) (by kernel_rfl) (by simp) ?_
                refine AllReadyIn.cons rfl (fun K hK => ?_) AllReadyIn.nil
                go_simp
                refine hK _ _ ?_
                clear hK K
                refine wpAnyIn_ready (rs := [3]) (by kernel_rfl) (by simp) ?_
                refine AllReadyIn.cons rfl (fun K hK => ?_) AllReadyIn.nil
                go_simp
                gi_wp2_with (gi_at_call 104; refine (CallsIn.inRound (N + 5) HTD.out).mono ?_; rintro e w9 ⟨rfl, hw9⟩; subst w9)
                try (refine hK _ _ ?_)
                try clear hK K
                refine wpAnyIn_ready (rs := [4]) (by kernel_rfl) (by simp) ?_
                refine AllReadyIn.cons rfl (fun K hK => ?_) AllReadyIn.nil
                go_simp
                refine hK _ _ ?_
                clear hK K
                refine wpAnyIn_ready (rs := [5]) (by kernel_rfl) (by simp) ?_
                refine AllReadyIn.cons rfl (fun K hK => ?_) AllReadyIn.nil
                refine step_app_in rfl 57 rfl _ _ (by rfl) (by rfl) HRUN.out ?_
                refine hK _ _ ?_
                clear hK K
                refine wpAnyIn_ready (rs := [6]) (by kernel_rfl) (by simp) ?_
                refine AllReadyIn.cons rfl (fun K hK => ?_) AllReadyIn.nil
                go_simp
                refine hK _ _ ?_
                clear hK K
                refine wpAnyIn_done (by kernel_rfl) ?_ _
                gi_wp2
                go_roundw
                case rel => exact ⟨k + 1, by go_num, by omega, HEND⟩
                case measure => simp [intOf]; omega
              · go_simp
                refine hK _ _ ?_
                clear hK K
                refine wpAnyIn_ready (rs := [1]) (by kernel_rfl) (by simp) ?_
                refine AllReadyIn.cons rfl (fun K hK => ?_) AllReadyIn.nil
                go_simp
                refine hK _ _ ?_
                clear hK K
                refine wpAnyIn_ready (rs := [3]) (by kernel_rfl) (by simp) ?_
                refine AllReadyIn.cons rfl (fun K hK => ?_) AllReadyIn.nil
                go_simp
                gi_wp2_with (gi_at_call 104; refine (CallsIn.inRound (N + 5) HTD.out).mono ?_; rintro e w9 ⟨rfl, hw9⟩; subst w9)
                try (refine hK _ _ ?_)
                try clear hK K
                refine wpAnyIn_ready (rs := [4]) (by kernel_rfl) (by simp) ?_
                refine AllReadyIn.cons rfl (fun K hK => ?_) AllReadyIn.nil
                go_simp
                refine hK _ _ ?_
                clear hK K
                refine wpAnyIn_ready (rs := [5]) (by kernel_rfl) (by simp) ?_
                refine AllReadyIn.cons rfl (fun K hK => ?_) AllReadyIn.nil
                refine step_app_in rfl 57 rfl _ _ (by rfl) (by rfl) HRUN.out ?_
                refine hK _ _ ?_
                clear hK K
                refine wpAnyIn_ready (rs := [6]) (by kernel_rfl) (by simp) ?_
                refine AllReadyIn.cons rfl (fun K hK => ?_) AllReadyIn.nil
                go_simp
                refine hK _ _ ?_
                clear hK K
                refine wpAnyIn_done (by kernel_rfl) ?_ _
                gi_wp2
                go_roundw
                case rel => exact ⟨k + 1, by go_num, by omega, HEND⟩
                case measure => simp [intOf]; omega
            · go_simp
              refine hK _ _ ?_
              clear hK K
              refine wpAnyIn_ready (rs := [0, 2]) (by kernel_rfl) (by simp) ?_
              refine AllReadyIn.cons rfl (fun K hK => ?_) (AllReadyIn.cons rfl (fun K hK => ?_) AllReadyIn.nil)
              · go_simp
                refine hK _ _ ?_
                clear hK K
                refine wpAnyIn_ready (rs := [2]) (by kernel_rfl) (by simp) ?_
                refine AllReadyIn.cons rfl (fun K hK => ?_) AllReadyIn.nil
                go_simp
                refine hK _ _ ?_
                clear hK K
                refine wpAnyIn_ready (rs := [3]) (by kernel_rfl) (by simp) ?_
                refine AllReadyIn.cons rfl (fun K hK => ?_) AllReadyIn.nil
                go_simp
                gi_wp2_with (gi_at_call 104; refine (CallsIn.inRound (N + 5) HTD.out).mono ?_; rintro e w9 ⟨rfl, hw9⟩; subst w9)
                try (refine hK _ _ ?_)
                try clear hK K
                refine wpAnyIn_ready (rs := [4]) (by kernel_rfl) (by simp) ?_
                refine AllReadyIn.cons rfl (fun K hK => ?_) AllReadyIn.nil
                go_simp
                refine hK _ _ ?_
                clear hK K
                refine wpAnyIn_ready (rs := [5]) (by kernel_rfl) (by simp) ?_
                refine AllReadyIn.cons rfl (fun K hK => ?_) AllReadyIn.nil
                refine step_app_in rfl 57 rfl _ _ (by rfl) (by rfl) HRUN.out ?_
                refine hK _ _ ?_
                clear hK K
                refine wpAnyIn_ready (rs := [6]) (by kernel_rfl) (by simp) ?_
                refine AllReadyIn.cons rfl (fun K hK => ?_) AllReadyIn.nil
                go_simp
                refine hK _ _ ?_
                clear hK K
                refine wpAnyIn_done (by kernel_rfl) ?_ _
                gi_wp2
                go_roundw
                case rel => exact ⟨k + 1, by go_num, by omega, HEND⟩
                case measure => simp [intOf]; omega
              · go_simp
                refine hK _ _ ?_
                clear hK K
                refine wpAnyIn_ready (rs := [0, 3]) (by kernel_rfl) (by simp) ?_
                refine AllReadyIn.cons rfl (fun K hK => ?_) (AllReadyIn.cons rfl (fun K hK => ?_) AllReadyIn.nil)
                · go_simp
                  refine hK _ _ ?_
                  clear hK K
                  refine wpAnyIn_ready (rs := [3]) (by kernel_rfl) (by simp) ?_
                  refine AllReadyIn.cons rfl (fun K hK => ?_) AllReadyIn.nil
                  go_simp
                  gi_wp2_with (gi_at_call 104; refine (CallsIn.inRound (N + 5) HTD.out).mono ?_; rintro e w9 ⟨rfl, hw9⟩; subst w9)
                  try (refine hK _ _ ?_)
                  try clear hK K
                  refine wpAnyIn_ready (rs := [4]) (by kernel_rfl) (by simp) ?_
                  refine AllReadyIn.cons rfl (fun K hK => ?_) AllReadyIn.nil
                  go_simp
                  refine hK _ _ ?_
                  clear hK K
                  refine wpAnyIn_ready (rs := [5]) (by kernel_rfl) (by simp) ?_
                  refine AllReadyIn.cons rfl (fun K hK => ?_) AllReadyIn.nil
                  refine step_app_in rfl 57 rfl _ _ (by rfl) (by rfl) HRUN.out ?_
                  refine hK _ _ ?_
                  clear hK K
                  refine wpAnyIn_ready (rs := [6]) (by kernel_rfl) (by simp) ?_
                  refine AllReadyIn.cons rfl (fun K hK => ?_) AllReadyIn.nil
                  go_simp
                  refine hK _ _ ?_
                  clear hK K
                  refine wpAnyIn_done (by kernel_rfl) ?_ _
                  gi_wp2
                  go_roundw
                  case rel => exact ⟨k + 1, by go_num, by omega, HEND⟩
                  case measure => simp [intOf]; omega
                · go_simp
                  gi_wp2_with (gi_at_call 104; refine (CallsIn.inRound (N + 5) HTD.out).mono ?_; rintro e w9 ⟨rfl, hw9⟩; subst w9)
                  try (refine hK _ _ ?_)
                  try clear hK K
                  refine wpAnyIn_ready (rs := [0, 4]) (by kernel_rfl) (by simp) ?_
                  refine AllReadyIn.cons rfl (fun K hK => ?_) (AllReadyIn.cons rfl (fun K hK => ?_) AllReadyIn.nil)
                  · go_simp
                    refine hK _ _ ?_
                    clear hK K
                    refine wpAnyIn_ready (rs := [4]) (by kernel_rfl) (by simp) ?_
                    refine AllReadyIn.cons rfl (fun K hK => ?_) AllReadyIn.nil
                    go_simp
                    refine hK _ _ ?_
                    clear hK K
                    refine wpAnyIn_ready (rs := [5]) (by kernel_rfl) (by simp) ?_
                    refine AllReadyIn.cons rfl (fun K hK => ?_) AllReadyIn.nil
                    refine step_app_in rfl 57 rfl _ _ (by rfl) (by rfl) HRUN.out ?_
                    refine hK _ _ ?_
                    clear hK K
                    refine wpAnyIn_ready (rs := [6]) (by kernel_rfl) (by simp) ?_
                    refine AllReadyIn.cons rfl (fun K hK => ?_) AllReadyIn.nil
                    go_simp
                    refine hK _ _ ?_
                    clear hK K
                    refine wpAnyIn_done (by kernel_rfl) ?_ _
                    gi_wp2
                    go_roundw
                    case rel => exact ⟨k + 1, by go_num, by omega, HEND⟩
                    case measure => simp [intOf]; omega
                  · go_simp
                    refine hK _ _ ?_
                    clear hK K
                    refine wpAnyIn_ready (rs := [0]) (by kernel_rfl) (by simp) ?_
                    refine AllReadyIn.cons rfl (fun K hK => ?_) AllReadyIn.nil
                    go_simp
                    refine hK _ _ ?_
                    clear hK K
                    refine wpAnyIn_ready (rs := [5]) (by kernel_rfl) (by simp) ?_
                    refine AllReadyIn.cons rfl (fun K hK => ?_) AllReadyIn.nil
                    refine step_app_in rfl 57 rfl _ _ (by rfl) (by rfl) HRUN.out ?_
                    refine hK _ _ ?_
                    clear hK K
                    refine wpAnyIn_ready (rs := [6]) (by kernel_rfl) (by simp) ?_
                    refine AllReadyIn.cons rfl (fun K hK => ?_) AllReadyIn.nil
                    go_simp
                    refine hK _ _ ?_
                    clear hK K
                    refine wpAnyIn_done (by kernel_rfl) ?_ _
                    gi_wp2
                    go_roundw
                    case rel => exact ⟨k + 1, by go_num, by omega, HEND⟩
                    case measure => simp [intOf]; omega
            · go_simp
              refine hK _ _ ?_
              clear hK K
              refine wpAnyIn_ready (rs := [0, 1]) (by kernel_rfl) (by simp) ?_
              refine AllReadyIn.cons rfl (fun K hK => ?_) (AllReadyIn.cons rfl (fun K hK => ?_) AllReadyIn.nil)
              · go_simp
                refine hK _ _ ?_
                clear hK K
                refine wpAnyIn_ready (rs := [1]) (by kernel_rfl) (by simp) ?_
                refine AllReadyIn.cons rfl (fun K hK => ?_) AllReadyIn.nil
                go_simp
                refine hK _ _ ?_
                clear hK K
                refine wpAnyIn_ready (rs := [3]) (by kernel_rfl) (by simp) ?_
                refine AllReadyIn.cons rfl (fun K hK => ?_) AllReadyIn.nil
                go_simp
                gi_wp2_with (gi_at_call 104; refine (CallsIn.inRound (N + 5) HTD.out).mono ?_; rintro e w9 ⟨rfl, hw9⟩; subst w9)
                try (refine hK _ _ ?_)
                try clear hK K
                refine wpAnyIn_ready (rs := [4]) (by kernel_rfl) (by simp) ?_
                refine AllReadyIn.cons rfl (fun K hK => ?_) AllReadyIn.nil
                go_simp
                refine hK _ _ ?_
                clear hK K
                refine wpAnyIn_ready (rs := [5]) (by kernel_rfl) (by simp) ?_
                refine AllReadyIn.cons rfl (fun K hK => ?_) AllReadyIn.nil
                refine step_app_in rfl 57 rfl _ _ (by rfl) (by rfl) HRUN.out ?_
                refine hK _ _ ?_
                clear hK K
                refine wpAnyIn_ready (rs := [6]) (by kernel_rfl) (by simp) ?_
                refine AllReadyIn.cons rfl (fun K hK => ?_) AllReadyIn.nil
                go_simp
                refine hK _ _ ?_
                clear hK K
                refine wpAnyIn_done (by kernel_rfl) ?_ _
                gi_wp2
                go_roundw
                case rel => exact ⟨k + 1, by go_num, by omega, HEND⟩
                case measure => simp [intOf]; omega
              · go_simp
                refine hK _ _ ?_
                clear hK K
                refine wpAnyIn_ready (rs := [0, 3]) (by kernel_rfl) (by simp) ?_
                refine AllReadyIn.cons rfl (fun K hK => ?_) (AllReadyIn.cons rfl (fun K hK => ?_) AllReadyIn.nil)
                · go_simp
                  refine hK _ _ ?_
                  clear hK K
                  refine wpAnyIn_ready (rs := [3]) (by kernel_rfl) (by simp) ?_
                  refine AllReadyIn.cons rfl (fun K hK => ?_) AllReadyIn.nil
                  go_simp
                  gi_wp2_with (gi_at_call 104; refine (CallsIn.inRound (N + 5) HTD.out).mono ?_; rintro e w9 ⟨rfl, hw9⟩; subst w9)
                  try (refine hK _ _ ?_)
                  try clear hK K
                  refine wpAnyIn_ready (rs := [4]) (by kernel_rfl) (by simp) ?_
                  refine AllReadyIn.cons rfl (fun K hK => ?_) AllReadyIn.nil
                  go_simp
                  refine hK _ _ ?_
                  clear hK K
                  refine wpAnyIn_ready (rs := [5]) (by kernel_rfl) (by simp) ?_
                  refine AllReadyIn.cons rfl (fun K hK => ?_) AllReadyIn.nil
                  refine step_app_in rfl 57 rfl _ _ (by rfl) (by rfl) HRUN.out ?_
                  refine hK _ _ ?_
                  clear hK K
                  refine wpAnyIn_ready (rs := [6]) (by kernel_rfl) (by simp) ?_
                  refine AllReadyIn.cons rfl (fun K hK => ?_) AllReadyIn.nil
                  go_simp
                  refine hK _ _ ?_
                  clear hK K
                  refine wpAnyIn_done (by kernel_rfl) ?_ _
                  gi_wp2
                  go_roundw
                  case rel => exact ⟨k + 1, by go_num, by omega, HEND⟩
                  case measure => simp [intOf]; omega
                · go_simp
                  gi_wp2_with (gi_at_call 104; refine (CallsIn.inRound (N + 5) HTD.out).mono ?_; rintro e w9 ⟨rfl, hw9⟩; subst w9)
                  try (refine hK _ _ ?_)
                  try clear hK K
                  refine wpAnyIn_ready (rs := [0, 4]) (by kernel_rfl) (by simp) ?_
                  refine AllReadyIn.cons rfl (fun K hK => ?_) (AllReadyIn.cons rfl (fun K hK => ?_) AllReadyIn.nil)
                  · go_simp
                    refine hK _ _ ?_
                    clear hK K
                    refine wpAnyIn_ready (rs := [4]) (by kernel_rfl) (by simp) ?_
                    refine AllReadyIn.cons rfl (fun K hK => ?_) AllReadyIn.nil
                    go_simp
                    refine hK _ _ ?_
                    clear hK K
                    refine wpAnyIn_ready (rs := [5]) (by kernel_rfl) (by simp) ?_
                    refine AllReadyIn.cons rfl (fun K hK => ?_) AllReadyIn.nil
                    refine step_app_in rfl 57 rfl _ _ (by rfl) (by rfl) HRUN.out ?_
                    refine hK _ _ ?_
                    clear hK K
                    refine wpAnyIn_ready (rs := [6]) (by kernel_rfl) (by simp) ?_
                    refine AllReadyIn.cons rfl (fun K hK => ?_) AllReadyIn.nil
                    go_simp
                    refine hK _ _ ?_
                    clear hK K
                    refine wpAnyIn_done (by kernel_rfl) ?_ _
                    gi_wp2
                    go_roundw
                    case rel => exact ⟨k + 1, by go_num, by omega, HEND⟩
                    case measure => simp [intOf]; omega
                  · go_simp
                    refine hK _ _ ?_
                    clear hK K
                    refine wpAnyIn_ready (rs := [0]) (by kernel_rfl) (by simp) ?_
                    refine AllReadyIn.cons rfl (fun K hK => ?_) AllReadyIn.nil
                    go_simp
                    refine hK _ _ ?_
                    clear hK K
                    refine wpAnyIn_ready (rs := [5]) (by kernel_rfl) (by simp) ?_
                    refine AllReadyIn.cons rfl (fun K hK => ?_) AllReadyIn.nil
                    refine step_app_in rfl 57 rfl _ _ (by rfl) (by rfl) HRUN.out ?_
                    refine hK _ _ ?_
                    clear hK K
                    refine wpAnyIn_ready (rs := [6]) (by kernel_rfl) (by simp) ?_
                    refine AllReadyIn.cons rfl (fun K hK => ?_) AllReadyIn.nil
                    go_simp
                    refine hK _ _ ?_
                    clear hK K
                    refine wpAnyIn_done (by kernel_rfl) ?_ _
                    gi_wp2
                    go_roundw
                    case rel => exact ⟨k + 1, by go_num, by omega, HEND⟩
                    case measure => simp [intOf]; omega
        · obtain rfl : k = 64 := by omega
          have HP := Lib.hid (HEN.out _ HS3.out.2)
          clear HS3
          gi_wp2
          obtain ⟨p1, S', p2, p3, p4⟩ := HP.out
          exact ⟨p1, S', p2, fun _ => ⟨p3, p4⟩, by simp⟩
    · rintro e w' ⟨b, j, rfl, S', h1, h2, h3⟩
      exact ⟨b, S', rfl, h1, h2, h3⟩
  case fin =>
    rintro e W2 ⟨⟨v, rfl⟩, hh⟩
    obtain ⟨g0, g1, g2, g3, g4, g5, gh⟩ := HG.out
    have z3 := HZ.out
    obtain ⟨hbN, hw0⟩ := HBN.out
    rcases hh with ⟨S2, hA, k1, k2, k3, v0, k4, k5, k6⟩ | ⟨S2, pre, hpre, hf⟩
    · obtain ⟨f5, n5⟩ := k2 (N + 5) ((hXd.out _).2 (by omega))
      obtain ⟨f4, n4⟩ := k2 (N + 4) ((hXd.out _).2 (by omega))
      refine ⟨⟨_, rfl⟩, .inl ⟨f5.trans g5, ?_⟩⟩
      obtain ⟨W3, hW3⟩ : ∃ W3, W3 = W2.putObj (N + 5) (.loop (rec .exhausted none)) := ⟨_, rfl⟩
      rw [← hW3]
      have hd3 : W3.heap[N + 4]? = some (.deferred (some [])) := by rw [hW3]; exact (World.putObj_heap_other (by omega)).trans (f4.trans g4)
      have h13 : W3.heap[N + 1]? = some (.cells #[v0] 57 (0, 0)) := by rw [hW3]; exact (World.putObj_heap_other (by omega)).trans k4
      obtain ⟨av, cv, rfl⟩ := k5.shape
      have hcv : W3.cell? ⟨N + 1, 0, none⟩ = some (.slice av (tidsL f L (pgs L 1 5040)).length cv) := by rw [Lib.cell_of_heap h13]; rfl
      have HF : Hid (TidsPost J B S c h G (tidsL f L (pgs L 1 5040)) w (.returned (.slice av (tidsL f L (pgs L 1 5040)).length cv)) (W3.putObj (N + 4) (.deferred none))) := Lib.hid (by
        have hT : TurnC (fun k => N ≤ k) S w S2 (W3.putObj (N + 4) (.deferred none)) :=
          (k1.trans (by rw [hW3]; exact put_turnC _ (by omega) _)).trans (put_turnC _ (by omega) _)
        have hA3 : ActV J B S2 c h G W3 := by rw [hW3]; exact hA.put n5 (by omega) _
        refine ⟨S2, _, rfl, hT.toTurn HN.out, hA3.put n4 (by omega) _, ownsRow_of_block k5 (fun k hk => ?_), fun g hg => ⟨(k6 g hg).1, by have := (k6 g hg).2; have := HN.out; omega⟩⟩
        have := (k6 k hk).2
        rw [World.putObj_heap_other (by omega), hW3, World.putObj_heap_other (by omega)])
      have HD3 := Lib.hid hd3
      obtain ⟨m, hm⟩ : ∃ m, m = (tidsL f L (pgs L 1 5040)).length := ⟨_, rfl⟩
      rw [← hm] at hcv HF
      clear hA k1 k2 k3 k4 k5 k6 f5 n5 f4 n4 hW3 hd3 h13 hm g0 g1 g2 g3 g4 g5 gh z3 hbN hw0
      gi_wp2
      refine ⟨by simp, .inl ⟨_, _, rfl, run_takeDeferred HD3.out, ?_⟩⟩
      obtain ⟨S', v, e1, r1⟩ := HF.out
      cases e1
      exact ⟨_, results_tmp rfl _ _ _, S', .slice av m cv, rfl, r1⟩
    · exact hf.elim

section
variable {J : List RawOp → Prop} {B : Nat} {S : Nat → Prop} {c : Ac} {w : World} {hb r : Nat}
/-- What Tids or Dead leave. -/
def ListPost (J : List RawOp → Prop) (B : Nat) (c : Ac) (hb r : Nat) (S : Nat → Prop) (L : Nat → List Pl) (m : Nat) (xs : List Nat) (w : World) (e : Ending) (w' : World) : Prop :=
  ∃ S' v, e = .returned v ∧ Turn S w S' w' ∧ HpV J B c hb r S' L m w' ∧ NumsI w' v xs ∧ ∀ g, v.ownBlock = some g → ¬ S' g ∧ w.heap.size ≤ g
theorem tids0_any {L : Nat → List Pl} {m : Nat} (x : HpV J B c hb r S L m w) (hr : r < 16) (fn : Nat) (f : Pl → Bool) (heq : ∀ args W, (callFunc fn args).run Tryz.prog W = .ok (.enter fn args) W) (hch : ∀ p W, Calls Tryz.prog fn #[plV p] W fun e w' => e = .returned (.bool (f p)) ∧ Below W.heap.size W w') :
    Calls Tryz.prog 106 #[.pointer (some ⟨hb, 0, none⟩), .func (.func fn) #[] #[]] w (ListPost J B c hb r S L m (tidsL f L (pgs L 1 5040)) w) := by
  obtain ⟨h, G, hA, ht, hS, hs⟩ := x
  refine (callsIn_wide (n := 8)).1 ((tids_in (Nat.le_refl _) hA ht hS hr hs.len hs.on fn f heq hch).mono ?_)
  rintro e w' ⟨S', v, he, hT, hA', hn, hg⟩
  exact ⟨S', v, he, hT, HpV.turn ht hS hs hT hA', hn, hg⟩
theorem dead1_any (p : Pl) (w : World) : Calls Tryz.prog 108 #[plV p] w fun e w' => e = .returned (.bool p.dead) ∧ Below w.heap.size w w' := by
  obtain ⟨row, d⟩ := p
  unfold plV
  go_enter Tryz.func108, Tryz.ntmps108
  go_wp2
  go_ret
  exact ⟨rfl, (Below.refl _ _).alloc (Nat.le_refl _) _⟩
theorem tids_any {L : Nat → List Pl} {m : Nat} (x : HpV J B c hb r S L m w) (hr : r < 16) :
    Calls Tryz.prog 58 #[.pointer (some ⟨hb, 0, none⟩)] w (ListPost J B c hb r S L m (tidsL (fun p => decide (p.row ≠ [])) L (pgs L 1 5040)) w) := by
  have H := Lib.hid (tids0_any x hr 107 (fun p => decide (p.row ≠ [])) (enters_of Tryz.func107 (by kernel_rfl) rfl) holds_any)
  clear x
  go_enter Tryz.func58, Tryz.ntmps58
  go_wp2_with fail
  refine H.out.mono ?_
  rintro e w1 ⟨S', v, rfl, hp⟩
  have HP := Lib.hid hp
  clear hp
  go_wp2
  go_ret
  exact ⟨S', v, rfl, HP.out⟩
theorem dead_any {L : Nat → List Pl} {m : Nat} (x : HpV J B c hb r S L m w) (hr : r < 16) :
    Calls Tryz.prog 59 #[.pointer (some ⟨hb, 0, none⟩)] w (ListPost J B c hb r S L m (tidsL (fun p => p.dead) L (pgs L 1 5040)) w) := by
  have H := Lib.hid (tids0_any x hr 108 (fun p => p.dead) (enters_of Tryz.func108 (by kernel_rfl) rfl) dead1_any)
  clear x
  go_enter Tryz.func59, Tryz.ntmps59
  go_wp2_with fail
  refine H.out.mono ?_
  rintro e w1 ⟨S', v, rfl, hp⟩
  have HP := Lib.hid hp
  clear hp
  go_wp2
  go_ret
  exact ⟨S', v, rfl, HP.out⟩
end
end Go.Proofs.YtijggofelepaaaaGreatDoor

/- The addresses that tids tells are those of the document's list; pages. -/
set_option maxRecDepth 100000
namespace Go.Proofs.YtijggofelepaaaaGreatDoor
open Go.RowKit

theorem nat_sorted_ext : ∀ (a b : List Nat), a.Pairwise (· < ·) → b.Pairwise (· < ·) → (∀ x, x ∈ a ↔ x ∈ b) → a = b
  | [], [], _, _, _ => rfl
  | [], y :: b, _, _, h => absurd ((h y).2 (by simp)) (by simp)
  | x :: a, [], _, _, h => absurd ((h x).1 (by simp)) (by simp)
  | x :: a, y :: b, ha, hb, h => by
    obtain ⟨ha1, ha2⟩ := List.pairwise_cons.1 ha
    obtain ⟨hb1, hb2⟩ := List.pairwise_cons.1 hb
    have hxy : x = y := by
      rcases List.mem_cons.1 ((h x).1 (by simp)) with e | hx
      · exact e
      · rcases List.mem_cons.1 ((h y).2 (by simp)) with e | hy
        · exact e.symm
        · have := hb1 x hx; have := ha1 y hy; omega
    subst hxy
    congr 1
    refine nat_sorted_ext a b ha2 hb2 fun z => ⟨fun hz => ?_, fun hz => ?_⟩
    · rcases List.mem_cons.1 ((h z).1 (List.mem_cons_of_mem _ hz)) with e | hz'
      · have := ha1 z hz; omega
      · exact hz'
    · rcases List.mem_cons.1 ((h z).2 (List.mem_cons_of_mem _ hz)) with e | hz'
      · have := hb1 z hz; omega
      · exact hz'
theorem rowT_mem {f : Pl → Bool} {l : List Pl} {q t : Nat} : ∀ k, t ∈ rowT f l q k ↔ ∃ j p, j < k ∧ l[j]? = some p ∧ f p = true ∧ t = q * 64 + j
  | 0 => ⟨(fun h => by cases h), fun ⟨j, _, h, _⟩ => by omega⟩
  | k + 1 => by
    unfold rowT
    rw [List.mem_append, rowT_mem k]
    constructor
    · rintro (⟨j, p, h1, h2, h3, h4⟩ | h)
      · exact ⟨j, p, by omega, h2, h3, h4⟩
      · cases hg : l[k]? with
        | none => rw [hg] at h; cases h
        | some p =>
          rw [hg] at h
          simp only at h
          by_cases hf : f p = true
          · rw [if_pos hf, List.mem_singleton] at h
            exact ⟨k, p, by omega, hg, hf, h⟩
          · rw [if_neg hf] at h; cases h
    · rintro ⟨j, p, h1, h2, h3, h4⟩
      by_cases hj : j < k
      · exact .inl ⟨j, p, hj, h2, h3, h4⟩
      · obtain rfl : j = k := by omega
        right
        rw [h2]
        simp only [h3, if_true]
        simp [h4]
theorem rowT_sorted (f : Pl → Bool) (l : List Pl) (q : Nat) : ∀ k, (rowT f l q k).Pairwise (· < ·)
  | 0 => List.Pairwise.nil
  | k + 1 => by
    unfold rowT
    refine List.pairwise_append.2 ⟨rowT_sorted f l q k, ?_, fun x hx y hy => ?_⟩
    · split
      · split <;> simp
      · exact List.Pairwise.nil
    · obtain ⟨j, p, h1, _, _, h4⟩ := (rowT_mem k).1 hx
      have hy2 : y = q * 64 + k := by
        split at hy
        · split at hy
          · simpa using hy
          · cases hy
        · cases hy
      omega
theorem tidsL_mem {f : Pl → Bool} {L : Nat → List Pl} {s : List Nat} {t : Nat} : t ∈ tidsL f L s ↔ ∃ q, q ∈ s ∧ ∃ j p, j < 64 ∧ (L q)[j]? = some p ∧ f p = true ∧ t = q * 64 + j := by
  unfold tidsL
  rw [List.mem_flatMap]
  simp only [rowT_mem]
theorem tidsL_sorted (f : Pl → Bool) (L : Nat → List Pl) : ∀ s : List Nat, s.Pairwise (· < ·) → (tidsL f L s).Pairwise (· < ·)
  | [], _ => List.Pairwise.nil
  | q :: s, h => by
    obtain ⟨h1, h2⟩ := List.pairwise_cons.1 h
    have ih := tidsL_sorted f L s h2
    have e : tidsL f L (q :: s) = rowT f (L q) q 64 ++ tidsL f L s := by unfold tidsL; rw [List.flatMap_cons]
    rw [e]
    refine List.pairwise_append.2 ⟨rowT_sorted f _ q 64, ih, fun x hx y hy => ?_⟩
    obtain ⟨j, p, g1, _, _, g4⟩ := (rowT_mem 64).1 hx
    obtain ⟨q2, hq2, j2, p2, g5, _, _, g8⟩ := tidsL_mem.1 hy
    have := h1 q2 hq2
    omega
theorem pgs_sorted (L : Nat → List Pl) (a n : Nat) : (pgs L a n).Pairwise (· < ·) := List.pairwise_lt_range.filter _

section
variable {h : Hd} {G : Nat → List UInt8} {top : Nat} {L : Nat → List Pl} {ch : Nat → Nat} {l : List Rw}
theorem HpOn.pgs1 (x : HpOn h G top L ch) (q : Nat) : q ∈ pgs L 1 5040 ↔ L q ≠ [] := by
  unfold pgs
  rw [List.mem_filter, List.mem_range]
  constructor
  · rintro ⟨_, h2⟩ e
    have h3 : 1 ≤ mkP (L q) := of_decide_eq_true h2
    rw [(mkP_zero _).2 e] at h3
    omega
  · intro hq
    have := (x.sheet q hq).2.1
    refine ⟨by omega, decide_eq_true ?_⟩
    have : mkP (L q) ≠ 0 := fun e => hq ((mkP_zero _).1 e)
    omega
/-- The addresses of rows of a kind are those of the document's list. -/
theorem HpOn.tids (x : HpOn h G top L ch) (y : RowsOf L l) (f : Pl → Bool) (g : Rw → Bool) (hfg : ∀ r : Rw, g r = f ⟨r.row, !r.lives⟩) (hf : ∀ q p, p ∈ L q → f p = true → p.row ≠ []) : tidsL f L (pgs L 1 5040) = (l.filter g).map (·.tid) := by
  refine nat_sorted_ext _ _ (tidsL_sorted f L _ (pgs_sorted L 1 5040)) ?_ fun t => ?_
  · exact List.Pairwise.map _ (fun _ _ h => h) (y.srt.filter _)
  · rw [tidsL_mem, List.mem_map]
    constructor
    · rintro ⟨q, hq, j, p, hj, hp, hfp, rfl⟩
      have hrow := hf q p (List.mem_of_getElem? hp) hfp
      have hpl : plAt L (q * 64 + j) = p := by
        unfold plAt
        rw [show (q * 64 + j) / 64 = q by omega, show (q * 64 + j) % 64 = j by omega, hp]; rfl
      refine ⟨⟨q * 64 + j, p.row, !p.dead⟩, List.mem_filter.2 ⟨(y.is _).2 ⟨hrow, by simp [hpl]⟩, ?_⟩, rfl⟩
      rw [hfg]
      simpa using hfp
    · rintro ⟨r, hr, rfl⟩
      obtain ⟨h1, h2⟩ := List.mem_filter.1 hr
      obtain ⟨h3, h4⟩ := (y.is r).1 h1
      have hg : (L (r.tid / 64))[r.tid % 64]? = some ⟨r.row, !r.lives⟩ := by
        unfold plAt at h4
        cases hg : (L (r.tid / 64))[r.tid % 64]? with
        | none => rw [hg] at h4; exact absurd (congrArg Pl.row h4).symm h3
        | some z => rw [hg] at h4; rw [← h4]; rfl
      refine ⟨r.tid / 64, (x.pgs1 _).2 (fun e => by rw [e] at hg; cases hg), r.tid % 64, _, by omega, hg, ?_, by omega⟩
      rw [← hfg]; exact h2
theorem HpOn.tids_all (x : HpOn h G top L ch) (y : RowsOf L l) : tidsL (fun p => decide (p.row ≠ [])) L (pgs L 1 5040) = l.map (·.tid) := by
  rw [x.tids y _ (fun r => decide (r.row ≠ [])) (fun _ => rfl) (fun q p _ hf => of_decide_eq_true hf)]
  congr 1
  exact List.filter_eq_self.2 fun r hr => decide_eq_true ((y.is r).1 hr).1
theorem HpOn.tids_dead (x : HpOn h G top L ch) (y : RowsOf L l) : tidsL (fun p => p.dead) L (pgs L 1 5040) = (l.filter fun r => !r.lives).map (·.tid) := by
  refine x.tids y _ _ (fun _ => rfl) fun q p hp hd e => ?_
  by_cases hq : L q = []
  · rw [hq] at hp; cases hp
  · have := (x.sheet q hq).2.2.2.2.1.none_ p hp e
    rw [this] at hd; cases hd
end
end Go.Proofs.YtijggofelepaaaaGreatDoor

/- The law's awake. -/
set_option maxRecDepth 100000
namespace Go.Proofs.YtijggofelepaaaaGreatDoor
open Go.RowKit

def aS : ByteArray := ⟨#[97]⟩
def nowA : List UInt8 := splice noughts 0 aS.data.toList
def hA : Hd := (Hd.zero.setCount 1).setRoot 3 1
def psA : List Pt := [⟨1, 0, ⟨#[]⟩⟩, ⟨1, 0, aS⟩]
def yA (b : Nat) : Dr := Dr.put ⟨b, true, noughts, noughts⟩ 0 aS.data.toList
theorem short0 (ops : List RawOp) (rs : List ByteArray) (h : JL rs [] ops) : (rHd (play ops 2, false)).2.2 = true := by rw [h.2]; decide +kernel

end Go.Proofs.YtijggofelepaaaaGreatDoor
