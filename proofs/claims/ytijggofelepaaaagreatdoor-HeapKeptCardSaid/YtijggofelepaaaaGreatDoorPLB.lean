/- Texts of the same proof, one behind the other: II, IJ. -/
import Derived.Test.YtijggofelepaaaaGreatDoorMAS
import Derived.Test.YtijggofelepaaaaGreatDoorPLA
import Derived.Test.YtijggofelepaaaaGreatDoorMAE
/- Contract: the numbers that an iterator over the marked pages yields, in a row. -/
set_option maxRecDepth 100000
namespace Go.Proofs.YtijggofelepaaaaGreatDoor
open Go Go.RowKit Go.Shelf
attribute [local go_sem] Oper.semAt_some

theorem wpListIn_app {P : Program} {l n : Nat} {ops : Array Oper} {rest : List Oper} {o : Oper} {a : Act} {w w' : World} {v : Value} {Q : Exit → Act → World → Prop} {s x : Operand} (hg : o.guard = none) (t : TypeId)
    (ho : o.op = .call { callee := .builtin .append, args := #[s, x], argTypes := #[t, t] }) (sv xv : Value) (hs : a.eval s = sv) (hx : a.eval x = xv) (hr : (Builtin.append_ #[t, t] o.type #[sv, xv]).run P w = .ok v w') (h : wpListIn (Fence.wide.inRound l) n P ops Q rest (a.put o.dst v) w') :
    wpListIn (Fence.wide.inRound l) n P ops Q (o :: rest) a w :=
  wpListIn_plain hg fun _ hK => wpIn_value (by rw [ho]; intro c hc; cases hc) (exec_append t ho sv xv hs hx hr) (hK _ _ h)
/-- What stands within a round of AppendSeq: the numbers so far. -/
def ARS (J : List RawOp → Prop) (B : Nat) (c : Ac) (h : Hd) (G : Nat → List UInt8) (N : Nat) (rec : LpRec) (X : Nat → Prop) (W0 : World) (S2 : Nat → Prop) (W2 : World) (xs : List Nat) (W : World) : Prop :=
  ActV J B S2 c h G W ∧ TurnC (fun k => k = N ∨ k = N + 2 ∨ N + 3 ≤ k) S2 W2 S2 W ∧ Fix (fun k => X k ∧ k ≠ N + 2) W0 S2 W ∧ W.heap[N + 2]? = some (.loop (rec .busy none)) ∧
    ∃ v, W.heap[N]? = some (.cells #[v] 57 (0, 0)) ∧ NumsI W v xs ∧ ∀ g, v.ownBlock = some g → ¬ S2 g ∧ N + 3 ≤ g
section
variable {J : List RawOp → Prop} {B : Nat} {c : Ac} {h : Hd} {G : Nat → List UInt8} {N : Nat} {rec : LpRec} {X : Nat → Prop} {W0 : World} {S2 : Nat → Prop} {W2 : World} {xs : List Nat} {W : World}
theorem ARS.below (x : ARS J B c h G N rec X W0 S2 W2 xs W) (hX : ∀ k, X k → k < W0.heap.size) {W' : World} (hb : Below W.heap.size W W') : ARS J B c h G N rec X W0 S2 W2 xs W' := by
  obtain ⟨a1, a2, a3, a4, v, a6, a7, a8⟩ := x
  refine ⟨a1.below hb, a2.trans ((Turn.ofBelow hb).toC _), a3.below (fun k hk => hX k hk.1) hb, (hb.block _ (Array.getElem?_eq_some_iff.1 a4).1).trans a4, v, (hb.block _ (Array.getElem?_eq_some_iff.1 a6).1).trans a6, ownsRow_of_block a7 (fun k hk => ?_), a8⟩
  obtain ⟨cur, hc⟩ := a7.block k hk
  exact hb.block k (Array.getElem?_eq_some_iff.1 hc).1
/-- One address more. -/
theorem ARS.push (x : ARS J B c h G N rec X W0 S2 W2 xs W) (hN1 : 1 ≤ N) (hXN : ∀ k, X k → k < N + 3 ∧ k ≠ N) (hw : N + 3 ≤ W.heap.size) (hS : ¬ S2 (N)) (hxs : xs.length ≤ 1000000) (y : Nat) {v : Value} (hv : W.heap[N]? = some (.cells #[v] 57 (0, 0))) :
    ∃ v' w', (Builtin.append_ #[57, 57] 57 #[v, .slice (some ⟨W.heap.size, 0, none⟩) 1 1]).run Tryz.prog (W.alloc (.cells #[.int .i64 y] 3)) = .ok v' w' ∧ w'.cell? ⟨N, 0, none⟩ = some v ∧ w'.frozen? ⟨N, 0, none⟩ = false ∧ (∃ a n c, v' = .slice a n c) ∧ ARS J B c h G N rec X W0 S2 W2 (xs ++ [y]) (w'.setCell ⟨N, 0, none⟩ v') := by
  obtain ⟨a1, a2, a3, a4, v0, a6, a7, a8⟩ := x
  rw [a6] at hv
  cases hv
  have hb : Below W.heap.size W (W.alloc (.cells #[.int .i64 y] 3)) := (Below.refl _ _).alloc (Nat.le_refl _) _
  obtain ⟨v', w', hr, hn, hg1, hg2⟩ := nums_push W v xs y a7 hxs 57
  have hk : Kept (fun k => v.ownBlock = some k) W w' := ⟨hg1.os, hg1.tape, hg1.output, Nat.le_trans hb.size hg1.size, fun k hk1 hk2 => by
    rw [hg1.block k (Nat.lt_of_lt_of_le hk1 hb.size) (fun e => hk2 e.symm)]
    exact hb.block k hk1⟩
  have hl1 : N < W.heap.size := (Array.getElem?_eq_some_iff.1 a6).1
  have hn1 : ¬ v.ownBlock = some (N) := fun e => by have := (a8 _ e).2; omega
  have b6 := (hk.block _ hl1 hn1).trans a6
  have hks : Kept (fun k => k = N) w' (w'.setCell ⟨N, 0, none⟩ v') := Kept.setCell (fun k => k = N) w' rfl _
  have hK : Kept (fun k => v.ownBlock = some k ∨ k = N) W (w'.setCell ⟨N, 0, none⟩ v') := (hk.mono (T := fun k => v.ownBlock = some k ∨ k = N) (fun _ e => .inl e)).trans (hks.mono (T := fun k => v.ownBlock = some k ∨ k = N) (fun _ e => .inr e)) (fun _ e => .inl e)
  have hns : ∀ k, (v.ownBlock = some k ∨ k = N) → ¬ S2 k ∧ (k = N ∨ N + 3 ≤ k) := fun k hk => by
    rcases hk with hk | rfl
    · exact ⟨(a8 k hk).1, .inr (a8 k hk).2⟩
    · exact ⟨hS, .inl rfl⟩
  have hne : ∀ k, v'.ownBlock = some k → k ≠ N := fun k hk => by
    rcases hg2 k hk with h1 | h1
    · have := (a8 k h1).2; omega
    · rw [World.size_alloc] at h1; omega
  refine ⟨v', w', hr, by rw [Lib.cell_of_heap b6]; rfl, Lib.frozen_of_heap b6 _, ?_, a1.kept hK (fun k hk _ => ⟨(hns k hk).1, by have := (hns k hk).2; omega⟩), a2.trans ⟨hK.mono (fun k hk => .inr (by have := (hns k hk).2; omega)), fun _ _ hs => hs⟩, fun k hk => ?_, ?_, v', heap_set_at b6 0 _, ?_, fun g hg => ?_⟩
  · obtain ⟨a, cc, e⟩ := hn.shape
    exact ⟨a, _, cc, e⟩
  · obtain ⟨e1, e2⟩ := a3 k hk
    have hl : k < W.heap.size := by
      have := (hXN k hk.1).1
      omega
    have hno : ¬ (v.ownBlock = some k ∨ k = N) := fun e => by
      have := (hns k e).2
      have := hXN k hk.1
      omega
    exact ⟨(hK.block k hl hno).trans e1, e2⟩
  · exact (hK.block _ (Array.getElem?_eq_some_iff.1 a4).1 (fun e => by have := (hns _ e).2; omega)).trans a4
  · exact ownsRow_of_block hn (fun k hk => Below.heap_setCell w' ⟨N, 0, none⟩ v' k (hne k hk))
  · rcases hg2 g hg with h1 | h1
    · exact a8 g h1
    · rw [World.size_alloc] at h1
      exact ⟨fun hs => by have := (a1.low g hs).2; omega, by omega⟩
end
/-- What an append of a sequence leaves. -/
def SeqPost (J : List RawOp → Prop) (B : Nat) (S : Nat → Prop) (c : Ac) (h : Hd) (G : Nat → List UInt8) (xs : List Nat) (w : World) (e : Ending) (w' : World) : Prop :=
  ∃ S' v, e = .returned v ∧ Turn S w S' w' ∧ ActV J B S' c h G w' ∧ NumsI w' v xs ∧ ∀ g, v.ownBlock = some g → ¬ S' g ∧ w.heap.size ≤ g
/-- What stands between two numbers. -/
def AJs (N : Nat) (S : Nat → Prop) (w : World) (X : Nat → Prop) (W0 : World) (S' : Nat → Prop) (s : List Nat) (W' : World) : Prop :=
  TurnC (fun k => N ≤ k) S w S' W' ∧ Fix X W0 S' W' ∧ ¬ S' N ∧ ∃ v, W'.heap[N]? = some (.cells #[v] 57 (0, 0)) ∧ NumsI W' v s ∧ ∀ g, v.ownBlock = some g → ¬ S' g ∧ N + 3 ≤ g

set_option maxHeartbeats 3200000 in
theorem aseq_in {J : List RawOp → Prop} {B : Nat} {S : Nat → Prop} {c : Ac} {h : Hd} {G : Nat → List UInt8} {w : World} {hb r n a hx lx : Nat} (hn : 8 ≤ n) (x : ActV J B S c h G w) (ht : HeapAt w hb c.a r) (hS : ¬ S hb) (hr : r < 16) (ha : 0 < a) (hL : ∀ q, h.has q → (G q).length = 512)
    (q1 : w.heap[hx]? = some (.cells #[.pointer (some ⟨hb, 0, none⟩)] 70 (0, 0))) (q2 : w.heap[lx]? = some (.cells #[.int .i64 a] 3 (0, 0))) (p1 : ¬ S hx) (p2 : ¬ S lx) (hlen : (upQ h G r a 5040).length ≤ 5040) :
    CallsIn Fence.wide n Tryz.prog 157 #[.slice none 0 0, .func (.func 158) #[] #[.pointer (some ⟨hx, 0, none⟩), .pointer (some ⟨lx, 0, none⟩)]] w (SeqPost J B S c h G (upQ h G r a 5040) w) := by
  have hbl := ht.lt
  have hw0 : 1 ≤ w.heap.size := by omega
  obtain ⟨N, hN⟩ : ∃ N, N = w.heap.size := ⟨_, rfl⟩
  obtain ⟨w2, hw2⟩ : ∃ w2, w2 = w.alloc (.cells #[.slice none 0 0] 57) := ⟨_, rfl⟩
  have HX := Lib.hid x
  have HT := Lib.hid ht
  have HS := Lib.hid hS
  have HL := Lib.hid hL
  have HW2 := Lib.hid hw2
  have HN := Lib.hid hN
  have HQ := Lib.hid (And.intro q1 (And.intro q2 (And.intro p1 p2)))
  have HLEN := Lib.hid hlen
  clear x ht hS hL q1 q2 p1 p2 hlen
  refine callsIn_of_wp_marks Tryz.func157 rfl trivial ?_ rfl
  simp only [Tryz.ntmps157, List.size_toArray, List.length_cons, List.length_nil, Nat.reduceAdd, Nat.reduceSub, Array.replicate_succ, Array.replicate_zero, List.push_toArray, List.append_toArray, List.nil_append, List.cons_append]
  have hd1 : 1 ≤ n := by omega
  have hd2 : 1 ≤ n - 1 := by omega
  clear hw2 hN
  gi_wp2_with fail
  rw [← HW2.out]
  have hw2 := HW2.out
  have hNw := HN.out
  have z2 : w2.heap.size = N + 1 := by rw [hw2]; simp [← HN.out]
  rw [← HN.out]
  refine range_outer (m := n - 1) (gf := 158) (lb := #[.pointer (some ⟨hx, 0, none⟩), .pointer (some ⟨lx, 0, none⟩)]) rfl (enters_of Tryz.func158 (by kernel_rfl) rfl) ?_
  intro fnn rec hrec
  rw [z2] at hrec ⊢
  obtain ⟨W0, hW0⟩ : ∃ W0, W0 = (w2.alloc (.deferred (some []))).alloc (.loop (rec .ready none)) := ⟨_, rfl⟩
  rw [← hW0]
  have z3 : W0.heap.size = N + 3 := by rw [hW0, World.size_alloc, World.size_alloc, z2]
  have hB2 : Below N w w2 := by
    rw [hw2]
    exact (Below.refl _ w).alloc (by omega) _
  have hB0 : Below N w W0 := by
    rw [hW0]
    exact (hB2.alloc (by omega) _).alloc (by simp; omega) _
  have hB3 : ∀ k, k < N + 1 → W0.heap[k]? = w2.heap[k]? := fun k hk => by
    rw [hW0, Below.heap_alloc _ _ _ (by simp; omega), Below.heap_alloc _ _ _ (by omega)]
  have g2 : W0.heap[N + 2]? = some (.loop (rec .ready none)) := by
    have := World.alloc_heap_new (w2.alloc (.deferred (some []))) (.loop (rec .ready none))
    rw [World.size_alloc, z2] at this
    rw [hW0]; exact this
  have g1 : W0.heap[N + 1]? = some (.deferred (some [])) := by
    rw [hW0, Below.heap_alloc _ _ _ (by simp; omega), ← z2]; exact World.alloc_heap_new w2 _
  have g0 : W0.heap[N]? = some (.cells #[.slice none 0 0] 57 (0, 0)) := by
    rw [hB3 _ (by omega), hw2, HN.out]
    exact heap_alloc_new w _
  have hbN : hb < N := by rw [HN.out]; exact hbl
  have hxN : hx < N := by rw [HN.out]; exact (Array.getElem?_eq_some_iff.1 HQ.out.1).1
  have lxN : lx < N := by rw [HN.out]; exact (Array.getElem?_eq_some_iff.1 HQ.out.2.1).1
  have gh : W0.heap[hb]? = w.heap[hb]? := hB0.block _ hbN
  have gx : W0.heap[hx]? = w.heap[hx]? := hB0.block _ hxN
  have gl : W0.heap[lx]? = w.heap[lx]? := hB0.block _ lxN
  have hB0' : Below w.heap.size w W0 := by rw [← HN.out]; exact hB0
  obtain ⟨X, hXd⟩ : ∃ X : Nat → Prop, Hid (∀ k, X k ↔ (k = hb ∨ k = hx ∨ k = lx ∨ k = N + 1 ∨ k = N + 2)) := ⟨fun k => k = hb ∨ k = hx ∨ k = lx ∨ k = N + 1 ∨ k = N + 2, Lib.hid (fun _ => Iff.rfl)⟩
  have hact : ActV J B S c h G W0 := HX.out.below hB0'
  have hlow : ∀ k, N ≤ k → ¬ S k := fun k hk hs => by have := (HX.out.low k hs).2; have := HN.out; omega
  have hfix : Fix X W0 S W0 := fun k hk => ⟨rfl, by
    rcases (hXd.out k).1 hk with rfl | rfl | rfl | rfl | rfl
    · exact HS.out
    · exact HQ.out.2.2.1
    · exact HQ.out.2.2.2
    · exact hlow _ (by omega)
    · exact hlow _ (by omega)⟩
  have htc : TurnC (fun k => N ≤ k) S w S W0 := (Turn.ofBelow hB0').toC _
  have HXL : Hid (∀ k, X k → k < W0.heap.size) := Lib.hid fun k hk => by rcases (hXd.out k).1 hk with rfl | rfl | rfl | rfl | rfl <;> omega
  have HXN : Hid (∀ k, X k → k < N + 3 ∧ k ≠ N) := Lib.hid fun k hk => by rcases (hXd.out k).1 hk with rfl | rfl | rfl | rfl | rfl <;> omega
  have HG := Lib.hid (And.intro g0 (And.intro g1 (And.intro g2 (And.intro gh (And.intro gx gl)))))
  have HREC := Lib.hid hrec
  have HST := Lib.hid (And.intro hact (And.intro htc (And.intro hfix hlow)))
  have HZ := Lib.hid z3
  have HBN := Lib.hid (show hb < N ∧ 1 ≤ N by omega)
  clear hNw hact htc hfix hlow hrec g0 g1 g2 gh gx gl hB0 hB0' hB2 hB3 z2 hW0 hbl hw2 z3 hbN hw0 hxN lxN
  have HIF : Hid (∀ S' W', Fix X W0 S' W' → HeapAt W' hb c.a r ∧ ¬ S' hb ∧ W'.cell? ⟨hx, 0, none⟩ = some (.pointer (some ⟨hb, 0, none⟩)) ∧ W'.cell? ⟨lx, 0, none⟩ = some (.int .i64 a)) := Lib.hid fun S' W' hf => by
    obtain ⟨g0, g1, g2, gh, gx, gl⟩ := HG.out
    obtain ⟨e1, e2⟩ := hf hb ((hXd.out _).2 (.inl rfl))
    refine ⟨?_, e2, ?_, ?_⟩
    · have := HT.out
      unfold HeapAt at this ⊢
      rw [e1, gh]; exact this
    · rw [World.cell?_of_block (w := W0) (hf hx ((hXd.out _).2 (.inr (.inl rfl)))).1, Lib.cell_of_heap (gx.trans HQ.out.1)]; rfl
    · rw [World.cell?_of_block (w := W0) (hf lx ((hXd.out _).2 (.inr (.inr (.inl rfl))))).1, Lib.cell_of_heap (gl.trans HQ.out.2.1)]; rfl
  refine CallsIn.mono (marked1_in (n := n - 1) (hb := hb) (a := a) (hx := hx) (lx := lx) (r := r) (by omega) (by omega) hr ha HL.out (fun k => k = N ∨ k = N + 2 ∨ N + 3 ≤ k)
    (AJs N S w X W0) (fun _ _ _ => False) ?hI ?hJ ?hY S W0 HST.out.1 ⟨HST.out.2.1, HST.out.2.2.1, HST.out.2.2.2 _ (Nat.le_refl _), _, HG.out.1, NumsI.nil _, fun g hg => by simp [Value.ownBlock] at hg⟩) ?fin
  case hI =>
    rintro S2 s W2 ⟨_, h2, _⟩
    exact HIF.out _ _ h2
  case hJ =>
    rintro S2 A S3 A' s hA ⟨h1, h2, h3, v, h4, h5, h6⟩ hT hA'
    have l1 := (Array.getElem?_eq_some_iff.1 h4).1
    refine ⟨h1.trans (hT.toC _), h2.turn HXL.out (hT.toC (fun _ => False)) (fun _ _ e => e), fun hs => h3 (hT.2 _ l1 hs), v, (hT.1.block _ l1 h3).trans h4, ownsRow_of_block h5 (fun k hk => ?_), fun g hg => ⟨fun hs => ?_, (h6 g hg).2⟩⟩
    · obtain ⟨cur, hc⟩ := h5.block k hk
      exact hT.1.block k (Array.getElem?_eq_some_iff.1 hc).1 (h6 k hk).1
    · obtain ⟨cur, hc⟩ := h5.block g hg
      exact (h6 g hg).1 (hT.2 g (Array.getElem?_eq_some_iff.1 hc).1 hs)
  case hY =>
    rintro S2 pre q W2 hA ⟨k1, k2, k3, v0, k4, k5, k6⟩ hq hpf
    obtain ⟨g0, g1, g2, gh, gx, gl⟩ := HG.out
    have z3 := HZ.out
    obtain ⟨hbN, hN1⟩ := HBN.out
    obtain ⟨f5, n5⟩ := k2 (N + 2) ((hXd.out _).2 (by omega))
    have hlr : W2.heap[N + 2]? = some (.loop (rec .ready none)) := f5.trans g2
    have hplen : pre.length ≤ 5040 := by
      have h1 := hpf.length_le
      have h2 := HLEN.out
      rw [List.length_append] at h1
      omega
    refine YieldAt.mono' (yield_round (args := #[.int .i64 q]) HREC.out hlr rfl (fun b _ W' => ∃ S', TurnC (fun k => k = N ∨ k = N + 2 ∨ N + 3 ≤ k) S2 W2 S' W' ∧ (b = true → ActV J B S' c h G W' ∧ AJs N S w X W0 S' (pre ++ [q]) W') ∧
      (b = false → False)) ?_) ?_
    · obtain ⟨W3, hW3⟩ : ∃ W3, W3 = W2.putObj (N + 2) (.loop (rec .busy none)) := ⟨_, rfl⟩
      have hT3 : TurnC (fun k => k = N ∨ k = N + 2 ∨ N + 3 ≤ k) S2 W2 S2 W3 := by rw [hW3]; exact put_turnC _ (.inr (.inl rfl)) _
      have hR3 : ARS J B c h G N rec X W0 S2 W2 pre W3 := by
        refine ⟨by rw [hW3]; exact hA.put n5 (by omega) _, hT3, by rw [hW3]; exact (k2.mono (fun _ hk => hk.1)).put (fun hk => hk.2 rfl) _, by rw [hW3]; exact World.putObj_heap_same (Array.getElem?_eq_some_iff.1 hlr).1, v0, by rw [hW3]; exact (World.putObj_heap_other (by omega)).trans k4, ?_, k6⟩
        rw [hW3]
        exact ownsRow_of_block k5 (fun k hk => World.putObj_heap_other (by have := (k6 k hk).2; omega))
      have hz3 : N + 3 ≤ W3.heap.size := by
        have := (Array.getElem?_eq_some_iff.1 hlr).1
        rw [hW3]; simp; omega
      obtain ⟨_, _, _, _, v, hv5, hn5, _⟩ := id hR3
      obtain ⟨av, cv, rfl⟩ := hn5.shape
      obtain ⟨v', w5, hrun, c5, fz5, ⟨av', nv', cv', rfl⟩, hx6⟩ := hR3.push hN1 HXN.out hz3 k3 (by omega) q hv5
      have hcv : W3.cell? ⟨N, 0, none⟩ = some (.slice av pre.length cv) := by rw [Lib.cell_of_heap hv5]; rfl
      have HRUN := Lib.hid hrun
      obtain ⟨m, hm⟩ : ∃ m, m = pre.length := ⟨_, rfl⟩
      rw [← hm] at HRUN hcv c5
      have HP : Hid ((w5.setCell ⟨N, 0, none⟩ (.slice av' nv' cv')).heap[N + 2]? = some (.loop (rec .busy none)) ∧ ∃ S', TurnC (fun k => k = N ∨ k = N + 2 ∨ N + 3 ≤ k) S2 W2 S' ((w5.setCell ⟨N, 0, none⟩ (.slice av' nv' cv')).putObj (N + 2) (.loop (rec .ready none))) ∧ ActV J B S' c h G ((w5.setCell ⟨N, 0, none⟩ (.slice av' nv' cv')).putObj (N + 2) (.loop (rec .ready none))) ∧ AJs N S w X W0 S' (pre ++ [q]) ((w5.setCell ⟨N, 0, none⟩ (.slice av' nv' cv')).putObj (N + 2) (.loop (rec .ready none)))) := Lib.hid (by
        obtain ⟨a1, a2, a3, a4, v, a6, a7, a8⟩ := hx6
        have hT6 := a2.trans (put_turnC (C := fun k => k = N ∨ k = N + 2 ∨ N + 3 ≤ k) (S := S2) (r := N + 2) (w := w5.setCell ⟨N, 0, none⟩ (.slice av' nv' cv')) (.inr (.inl rfl)) (.loop (rec .ready none)))
        refine ⟨a4, S2, hT6, a1.put n5 (by omega) _, k1.trans (hT6.mono (fun k hk => by omega)), fun k hk => ?_, k3, v, (World.putObj_heap_other (by omega)).trans a6, ?_, a8⟩
        · by_cases hk5 : k = N + 2
          · subst hk5; exact ⟨(World.putObj_heap_same (Array.getElem?_eq_some_iff.1 a4).1).trans g2.symm, n5⟩
          · exact ⟨(World.putObj_heap_other hk5).trans (a3 k ⟨hk, hk5⟩).1, (a3 k ⟨hk, hk5⟩).2⟩
        · exact ownsRow_of_block a7 (fun k hk => World.putObj_heap_other (by have := (a8 k hk).2; omega)))
      have HW3 := Lib.hid hW3
      have HLR := Lib.hid hlr
      have hmx : Tryz.prog.follows .mixedOrders = true := by kernel_rfl
      have hd5 : 1 ≤ n - 1 - 1 - 1 - 1 := by omega
      clear hA k1 k2 k3 k4 k5 k6 hq hpf g0 g1 g2 gh gx gl z3 f5 n5 hlr hW3 hT3 hplen hR3 hx6 hrun hv5 hn5 hm hbN hN1 hz3
      gi_wp2_with fail
      refine ⟨HLR.out, ?_⟩
      rw [← HW3.out]
      gi_wp2_with (gi_at_builtin; refine wpListIn_app rfl 57 rfl _ _ (by rfl) (by rfl) HRUN.out ?_)
      obtain ⟨p1, S', p2, p3, p4⟩ := HP.out
      exact ⟨p1, S', p2, fun _ => ⟨p3, p4⟩, by simp⟩
    · rintro e w' ⟨b, j, rfl, S', h1, h2, h3⟩
      exact ⟨b, S', rfl, h1, h2, h3⟩
  case fin =>
    rintro e W2 ⟨⟨v, rfl⟩, hh⟩
    obtain ⟨g0, g1, g2, gh, gx, gl⟩ := HG.out
    have z3 := HZ.out
    obtain ⟨hbN, hN1⟩ := HBN.out
    rcases hh with ⟨S2, hA, k1, k2, k3, v0, k4, k5, k6⟩ | ⟨S2, pre, hpre, hf⟩
    · obtain ⟨f5, n5⟩ := k2 (N + 2) ((hXd.out _).2 (by omega))
      obtain ⟨f4, n4⟩ := k2 (N + 1) ((hXd.out _).2 (by omega))
      refine ⟨⟨_, rfl⟩, .inl ⟨f5.trans g2, ?_⟩⟩
      obtain ⟨W3, hW3⟩ : ∃ W3, W3 = W2.putObj (N + 2) (.loop (rec .exhausted none)) := ⟨_, rfl⟩
      rw [← hW3]
      have hd3 : W3.heap[N + 1]? = some (.deferred (some [])) := by rw [hW3]; exact (World.putObj_heap_other (by omega)).trans (f4.trans g1)
      have h13 : W3.heap[N]? = some (.cells #[v0] 57 (0, 0)) := by rw [hW3]; exact (World.putObj_heap_other (by omega)).trans k4
      obtain ⟨av, cv, rfl⟩ := k5.shape
      have hcv : W3.cell? ⟨N, 0, none⟩ = some (.slice av (upQ h G r a 5040).length cv) := by rw [Lib.cell_of_heap h13]; rfl
      have HF : Hid (SeqPost J B S c h G (upQ h G r a 5040) w (.returned (.slice av (upQ h G r a 5040).length cv)) (W3.putObj (N + 1) (.deferred none))) := Lib.hid (by
        have hT : TurnC (fun k => N ≤ k) S w S2 (W3.putObj (N + 1) (.deferred none)) :=
          (k1.trans (by rw [hW3]; exact put_turnC _ (by omega) _)).trans (put_turnC _ (by omega) _)
        have hA3 : ActV J B S2 c h G W3 := by rw [hW3]; exact hA.put n5 (by omega) _
        refine ⟨S2, _, rfl, hT.toTurn HN.out, hA3.put n4 (by omega) _, ownsRow_of_block k5 (fun k hk => ?_), fun g hg => ⟨(k6 g hg).1, by have := (k6 g hg).2; have := HN.out; omega⟩⟩
        have := (k6 k hk).2
        rw [World.putObj_heap_other (by omega), hW3, World.putObj_heap_other (by omega)])
      have HD3 := Lib.hid hd3
      obtain ⟨m, hm⟩ : ∃ m, m = (upQ h G r a 5040).length := ⟨_, rfl⟩
      rw [← hm] at hcv HF
      clear hA k1 k2 k3 k4 k5 k6 f5 n5 f4 n4 hW3 hd3 h13 hm g0 g1 g2 gh gx gl z3 hbN hN1
      gi_wp2
      refine ⟨by simp, .inl ⟨_, _, rfl, run_takeDeferred HD3.out, ?_⟩⟩
      obtain ⟨S', v, e1, r1⟩ := HF.out
      cases e1
      exact ⟨_, results_tmp rfl _ _ _, S', .slice av m cv, rfl, r1⟩
    · exact hf.elim
end Go.Proofs.YtijggofelepaaaaGreatDoor

/- Contract: the pages that a heap stands on, rising. -/
set_option maxRecDepth 100000
namespace Go.Proofs.YtijggofelepaaaaGreatDoor
open Go Go.RowKit

/-- Numbers that rise: all pages that an action has. -/
def PgOk (h : Hd) (P : List Nat) : Prop := P.Pairwise (fun a b => a < b) ∧ ∀ q, q ∈ P ↔ h.has q
/-- What was collected behind k charts. -/
def pgX (L : Nat → List Pl) (top k : Nat) : List Nat := pgs L 1 5040 ++ if k = 0 ∨ top = 0 then [] else [top]
theorem pgX_one {L : Nat → List Pl} {top : Nat} (ht : top ≠ 0) : pgX L top 1 = pgX L top 0 ++ [top] := by unfold pgX; simp [ht]
theorem pgX_none {L : Nat → List Pl} {k j : Nat} : pgX L 0 k = pgX L 0 j := by unfold pgX; simp
theorem pgX_more {L : Nat → List Pl} {top k : Nat} (hk : k ≠ 0) : pgX L top (k + 1) = pgX L top k := by unfold pgX; simp [hk]
theorem pgX_len (L : Nat → List Pl) (top k : Nat) : (pgX L top k).length ≤ 5041 := by
  have h2 : (pgs L 1 5040).length ≤ 5040 := by
    unfold pgs
    exact Nat.le_trans (List.length_filter_le _ _) (by rw [List.length_range]; exact Nat.le_refl _)
  unfold pgX
  rw [List.length_append]
  split <;> simp <;> omega
theorem pgs_len (L : Nat → List Pl) : (pgs L 1 5040).length ≤ 5040 := by
  unfold pgs
  exact Nat.le_trans (List.length_filter_le _ _) (by rw [List.length_range]; exact Nat.le_refl _)
theorem pgX_ok {h : Hd} {G : Nat → List UInt8} {top m : Nat} {L : Nat → List Pl} {P : List Nat} (hs : HpS h G top L m 0) (hp : P.Perm (pgX L top 5)) (hle : P.Pairwise (fun a b => a ≤ b)) : PgOk h P := by
  have hnd0 : (pgs L 1 5040).Nodup := by unfold pgs; exact List.Pairwise.filter _ List.nodup_range
  have hnd : (pgX L top 5).Nodup := by
    unfold pgX
    by_cases ht : top = 0
    · simp [ht, hnd0]
    · rw [if_neg (by omega)]
      refine List.nodup_append.2 ⟨hnd0, by simp, fun a ha b hb e => ?_⟩
      obtain rfl : b = top := List.mem_singleton.1 hb
      subst e
      have h1 := (pgs_mem (by omega) ha).1
      exact (hs.on.sheet a h1).2.2.2.2.2.2 0 (ch0_zero a)
  have hndP : P.Nodup := hp.nodup_iff.2 hnd
  refine ⟨(List.Pairwise.and hle hndP).imp (fun ⟨h1, h2⟩ => by omega), fun q => ?_⟩
  rw [hp.mem_iff]
  unfold pgX
  constructor
  · intro hq
    rcases List.mem_append.1 hq with hq | hq
    · exact (hs.on.sheet q (pgs_mem (by omega) hq).1).1
    · by_cases ht : top = 0
      · simp [ht] at hq
      · rw [if_neg (by omega)] at hq
        obtain rfl : q = top := List.mem_singleton.1 hq
        exact hs.root ht
  · intro hq
    rcases hs.own q hq with h1 | h1 | h1
    · refine List.mem_append.2 (.inl (List.mem_filter.2 ⟨List.mem_range.2 ?_, decide_eq_true ?_⟩))
      · have := (hs.on.sheet q h1).2.1; omega
      · have : mkP (L q) ≠ 0 := fun e => h1 ((mkP_zero _).1 e)
        omega
    · have hq0 : q ≠ 0 := by have := hq.1; omega
      refine List.mem_append.2 (.inr ?_)
      rw [if_neg (by omega)]
      simp [h1]
    · have := hq.1; omega

section
variable {J : List RawOp → Prop} {B : Nat} {S : Nat → Prop} {c : Ac} {h : Hd} {G : Nat → List UInt8} {w : World} {hb r : Nat}
open Go.Sort in
theorem sorted_heap {w : World} {g n : Nat} {os : Array Obj} {cur : Array Value} {l : List Int} (hb : w.heap[g]? = some (.cells cur 3 (0, 0))) :
    (grow (putRow (Value.int .i64) (Sort.ahead w n) g 0 l.toArray) os).heap[g]? = some (.cells (putCells (Value.int .i64) 0 l.toArray cur) 3 (0, 0)) := by
  have hg : g < w.heap.size := (Array.getElem?_eq_some_iff.1 hb).1
  rw [heap_grow_old _ _ (by simpa using hg)]
  simp [putRow, mapBlock, Sort.ahead, Array.getElem?_modify, hb, onCells]
open Go.Sort in
/-- Numbers of one's own are sorted. -/
theorem sort7 {w1 : World} {v : Value} {xs : List Nat} (hn : NumsI w1 v xs) (hl : xs.length ≤ 1000000) :
    Calls Tryz.prog 97 #[v] w1 fun e w2 => e = .returned (.tuple #[]) ∧ ∃ P : List Nat, P.Perm xs ∧ P.Pairwise (fun a b => a ≤ b) ∧ NumsI w2 v P ∧ Kept (fun k => v.ownBlock = some k) w1 w2 := by
  rcases id hn.2 with ⟨rfl, h0⟩ | ⟨g, cap, cur, rfl, _, hg, hnc, hcm, hcs, htk⟩
  · obtain rfl : xs = [] := List.eq_nil_of_length_eq_zero h0
    refine (Tryz.slices_Sort_int_none none 0 _).mono ?_
    rintro e w2 ⟨rfl, rfl⟩
    exact ⟨rfl, [], List.Perm.refl _, List.Pairwise.nil, hn, Kept.refl _ _⟩
  · obtain ⟨ks, hks⟩ : ∃ ks : List Int, ks = xs.map fun x : Nat => (x : Int) := ⟨_, rfl⟩
    have hpk : (xs.map fun k : Nat => Value.int .i64 (k : Int)) = asInts ks := by rw [hks]; simp [asInts]
    have hkl : ks.length = xs.length := by rw [hks]; simp
    have hlt : g < w1.heap.size := (Array.getElem?_eq_some_iff.1 hg).1
    have htk' : cur.toList.take ks.length = asInts ks := by rw [← hpk, ← htk, hkl, Nat.mul_one]
    obtain ⟨so, hso⟩ : ∃ so, so = ks.mergeSort fun x y => decide (x ≤ y) := ⟨_, rfl⟩
    have hsl : so.length = ks.length := by rw [hso]; simp
    have hsp : so.Perm ks := by rw [hso]; exact List.mergeSort_perm _ _
    have hsr : so.Pairwise (fun x y => x ≤ y) := by
      rw [hso]
      refine (List.pairwise_mergeSort (le := fun x y : Int => decide (x ≤ y)) (fun a b c h1 h2 => ?_) (fun a b => ?_) ks).imp (fun h => of_decide_eq_true h)
      · simp at h1 h2 ⊢; omega
      · simp; omega
    have hsrt := Tryz.slices_Sort_int g 0 cap ks w1 (holds_ints hg htk') hlt (by omega)
    rw [hkl] at hsrt
    refine hsrt.mono ?_
    rintro e w2 ⟨rfl, nn, os, hw2⟩
    rw [← hso] at hw2
    obtain ⟨s1, s2, s3⟩ := sorted_ints (n := nn) (os := os) (l := so) hg (by omega)
    have hh := sorted_heap (n := nn) (os := os) (l := so) hg
    rw [← hw2] at s1 s2 s3 hh
    have hpos : so = (so.map Int.toNat).map fun x : Nat => (x : Int) := by
      rw [List.map_map]
      conv => lhs; rw [← List.map_id so]
      refine List.map_congr_left fun z hz => ?_
      have h1 : z ∈ ks := hsp.mem_iff.1 hz
      rw [hks] at h1
      obtain ⟨x, _, rfl⟩ := List.mem_map.1 h1
      simp
    refine ⟨rfl, so.map Int.toNat, ?_, ?_, ?_, ⟨s2.os, s2.tape, s2.output, s2.size, fun k hk hne => s2.block k hk (fun e => hne e.symm)⟩⟩
    · have h5 := hsp.map Int.toNat
      have h6 : ks.map Int.toNat = xs := by
        rw [hks, List.map_map]
        conv => rhs; rw [← List.map_id xs]
        exact List.map_congr_left fun x _ => by simp
      rw [h6] at h5; exact h5
    · rw [List.pairwise_map]
      exact hsr.imp fun h => by omega
    · have hcur : cur.size = cap := by omega
      refine ⟨by simp, .inr ⟨g, cap, _, ?_, Nat.zero_le _, hh, by simp; omega, hcm, by simp [putCells, hcur], ?_⟩⟩
      · simp; omega
      · have hm : ((so.map Int.toNat).map fun k : Nat => Value.int .i64 (k : Int)) = asInts so := by
          conv => rhs; rw [hpos]
          simp [asInts]
        rw [hm]
        refine List.ext_getElem? fun j => ?_
        rcases Nat.lt_or_ge j so.length with hj | hj
        · rw [List.getElem?_take_of_lt (by simp; omega)]
          have := s1 j (.int .i64 (so[j]'hj)) (by simp [asInts, hj])
          rw [Lib.cell_of_heap hh] at this
          rw [Array.getElem?_toList, this]
          simp [asInts, hj]
        · rw [List.getElem?_eq_none (by simp; omega), List.getElem?_eq_none (by simp [asInts]; omega)]

/-- What Pages leaves. -/
def PgPost (J : List RawOp → Prop) (B : Nat) (S : Nat → Prop) (c : Ac) (h : Hd) (G : Nat → List UInt8) (w : World) (e : Ending) (w' : World) : Prop :=
  ∃ S' P v, e = .returned v ∧ Turn S w S' w' ∧ ActV J B S' c h G w' ∧ NumsI w' v P ∧ (∀ g, v.ownBlock = some g → ¬ S' g ∧ w.heap.size ≤ g) ∧ PgOk h P
/-- What stands between two charts. -/
def PgI (J : List RawOp → Prop) (B : Nat) (S : Nat → Prop) (c : Ac) (h : Hd) (G : Nat → List UInt8) (L : Nat → List Pl) (top k : Nat) (v : Value) (w wr : World) : Prop :=
  ∃ S', Turn S w S' wr ∧ ActV J B S' c h G wr ∧ NumsI wr v (pgX L top k) ∧ ∀ g, v.ownBlock = some g → ¬ S' g ∧ w.heap.size ≤ g
theorem Turn.keeps {S S' : Nat → Prop} {w w' : World} {hb : Nat} (h : Turn S w S' w') (hl : hb < w.heap.size) (hS : ¬ S hb) : ¬ S' hb := fun hs => hS (h.2 hb hl hs)
set_option maxHeartbeats 3200000 in
theorem pages_raw {L : Nat → List Pl} {m : Nat} (x : ActV J B S c h G w) (ht : HeapAt w hb c.a r) (hS : ¬ S hb) (hr : r < 16) (hs : HpS h G (h.root r) L m 0) :
    Calls Tryz.prog 69 #[.pointer (some ⟨hb, 0, none⟩)] w (PgPost J B S c h G w) := by
  obtain ⟨top, htop⟩ : ∃ top, top = h.root r := ⟨_, rfl⟩
  have hbl := ht.lt
  have HLV := Lib.hid (hp_live x ht hr)
  have HCOL : Hid (∀ k, Calls Tryz.prog 113 #[.pointer (some ⟨hb, 0, none⟩), .int .i64 (1 : Nat)] (w.drewN k) fun e w1 => ∃ hx lx, e = .returned (.func (.func 158) #[] #[.pointer (some ⟨hx, 0, none⟩), .pointer (some ⟨lx, 0, none⟩)]) ∧
      Hid (Calls Tryz.prog 157 #[.slice none 0 0, .func (.func 158) #[] #[.pointer (some ⟨hx, 0, none⟩), .pointer (some ⟨lx, 0, none⟩)]] w1 fun e w2 => ∃ a n cc, e = .returned (.slice a n cc) ∧ Hid (PgI J B S c h G L top 0 (.slice a n cc) w w2))) := Lib.hid fun k => by
    have hbk := below_drewN w k
    refine (marked_any hb 1 (w.drewN k)).mono ?_
    rintro e w1 ⟨rfl, hw1⟩
    obtain ⟨wd, hwd⟩ : ∃ wd, wd = w.drewN k := ⟨_, rfl⟩
    rw [← hwd] at hw1 hbk ⊢
    have hz : wd.heap.size = w.heap.size := by rw [hwd]; rfl
    have hba : Below wd.heap.size wd w1 := by
      rw [hw1]; exact ((Below.refl _ _).alloc (Nat.le_refl _) _).alloc (by simp) _
    have hb1 : Below w.heap.size w w1 := hbk.trans (hba.mono (by omega))
    have q1 : w1.heap[wd.heap.size]? = some (.cells #[.pointer (some ⟨hb, 0, none⟩)] 70 (0, 0)) := by
      rw [hw1, Below.heap_alloc _ _ _ (by simp)]; exact heap_alloc_new wd _
    have q2 : w1.heap[wd.heap.size + 1]? = some (.cells #[.int .i64 (1 : Nat)] 3 (0, 0)) := by
      have := heap_alloc_new (wd.alloc (.cells #[.pointer (some ⟨hb, 0, none⟩)] 70)) (.cells #[.int .i64 (1 : Nat)] 3)
      rw [World.size_alloc] at this
      rw [hw1]; exact this
    have hlow : ∀ k, wd.heap.size ≤ k → ¬ S k := fun k hk hs => by have := (x.low k hs).2; omega
    refine ⟨_, _, rfl, Lib.hid ?_⟩
    have hup : upQ h G r 1 5040 = pgs L 1 5040 := hs.on.upq 1
    refine ((callsIn_wide (n := 8)).1 (aseq_in (a := 1) (Nat.le_refl _) (x.below hb1) (ht.below hb1) hS hr (by omega) hs.len q1 q2 (hlow _ (Nat.le_refl _)) (hlow _ (by omega)) (by rw [hup]; exact pgs_len L))).mono ?_
    rintro e w2 ⟨S', v, rfl, hT, hA, hN, hg⟩
    rw [hup] at hN
    obtain ⟨a, cc, rfl⟩ := hN.shape
    refine ⟨a, _, cc, rfl, Lib.hid ⟨S', (Turn.ofBelow hb1).trans hT, hA, ?_, fun g hg' => ⟨(hg g hg').1, by have := (hg g hg').2; have := hb1.size; omega⟩⟩⟩
    have e : pgX L top 0 = pgs L 1 5040 := by unfold pgX; simp
    rw [e]; exact hN
  have HCH : Hid (∀ k v wr, k ≤ 4 → PgI J B S c h G L top k v w wr → Calls Tryz.prog 114 #[.pointer (some ⟨hb, 0, none⟩), .int .i64 k] wr fun e w2 => ∃ s, e = .returned (.tuple #[.int .i64 (ch0 top k), .string s]) ∧ Hid (PgI J B S c h G L top k v w w2)) := Lib.hid fun k v wr hk ⟨S', hT, hA, hN, hg⟩ => by
    refine (chart_any hA (ht.kept hT.1 hS) (hT.keeps hbl hS) hr k hk (hs.len _)).mono ?_
    rintro e w2 ⟨rfl, S2, hT2, hA2⟩
    rw [hs.on.chart hk, ← htop]
    have hlt : ∀ g, v.ownBlock = some g → g < wr.heap.size := fun g hg' => by
      obtain ⟨cur, hc⟩ := hN.block g hg'
      exact (Array.getElem?_eq_some_iff.1 hc).1
    exact ⟨_, rfl, Lib.hid ⟨S2, hT.trans hT2, hA2, hN.kept hT2.1 (fun g hg' => (hg g hg').1), fun g hg' => ⟨hT2.keeps (hlt g hg') (hg g hg').1, (hg g hg').2⟩⟩⟩
  have HAP : Hid (∀ v wr, top ≠ 0 → PgI J B S c h G L top 0 v w wr → ∃ a n cc w2, (Builtin.append_ #[57, 57] 57 #[v, .slice (some ⟨wr.heap.size, 0, none⟩) 1 1]).run Tryz.prog (wr.alloc (.cells #[.int .i64 (top : Int)] 3)) = .ok (.slice a n cc) w2 ∧ Hid (PgI J B S c h G L top 1 (.slice a n cc) w w2)) := Lib.hid fun v wr h0 ⟨S', hT, hA, hN, hg⟩ => by
    obtain ⟨v', w2, hr2, hN2, hG2⟩ := nums_push wr v _ top hN (by have := pgX_len L top 0; omega) 57
    obtain ⟨a, cc, rfl⟩ := hN2.shape
    have hk : Kept (fun k => v.ownBlock = some k) wr w2 := ⟨hG2.1.os, hG2.1.tape, hG2.1.output, by have := hG2.1.size; simp at this; omega, fun k hk hne => (hG2.1.block k (by simp; omega) (fun e => hne e.symm)).trans (Below.heap_alloc wr _ k hk)⟩
    have hsz := hT.1.size
    refine ⟨a, _, cc, w2, hr2, Lib.hid ⟨S', ⟨hT.1.trans hk (fun i hi => .inr (hg i hi).2), hT.2⟩, hA.kept hk (fun k e _ => ⟨(hg k e).1, by have := (hg k e).2; omega⟩), by rw [pgX_one h0]; exact hN2, fun g hg' => ?_⟩⟩
    rcases hG2.2 g hg' with h3 | h3
    · exact hg g h3
    · simp at h3
      exact ⟨fun hs => by have := (hA.low g hs).2; omega, by omega⟩
  have HSO : Hid (∀ v wr, PgI J B S c h G L top 5 v w wr → Calls Tryz.prog 97 #[v] wr fun e w2 => e = .returned (.tuple #[]) ∧ Hid (PgPost J B S c h G w (.returned v) w2)) := Lib.hid fun v wr ⟨S', hT, hA, hN, hg⟩ => by
    have hsz := hT.1.size
    refine (sort7 hN (by have := pgX_len L top 5; omega)).mono ?_
    rintro e w2 ⟨rfl, P, hp, hle, hN2, hk⟩
    refine ⟨rfl, Lib.hid ⟨S', P, v, rfl, ⟨hT.1.trans hk (fun i hi => .inr (hg i hi).2), hT.2⟩, hA.kept hk (fun k e _ => ⟨(hg k e).1, by have := (hg k e).2; omega⟩), hN2, hg, ?_⟩⟩
    rw [htop] at hp
    exact pgX_ok hs hp hle
  have HX1 : Hid (top = 0 → ∀ v wr k, PgI J B S c h G L top k v w wr → PgI J B S c h G L top (k + 1) v w wr) := Lib.hid fun e v wr k ⟨S', hT, hA, hN, hg⟩ => ⟨S', hT, hA, by rw [e] at hN ⊢; rw [pgX_none (j := k)]; exact hN, hg⟩
  have HX2 : Hid (∀ v wr k, k ≠ 0 → PgI J B S c h G L top k v w wr → PgI J B S c h G L top (k + 1) v w wr) := Lib.hid fun v wr k e ⟨S', hT, hA, hN, hg⟩ => ⟨S', hT, hA, by rw [pgX_more e]; exact hN, hg⟩
  clear x ht hS hs htop hbl
  go_enter Tryz.func69, Tryz.ntmps69
  go_wp2_with fail
  refine HLV.out.mono ?_
  rintro e w1 ⟨rfl, kk, rfl⟩
  go_wp2_with fail
  refine (HCOL.out kk).mono ?_
  rintro e w1 ⟨hx, lx, rfl, HC⟩
  clear HCOL HLV
  have HC2 : Hid (Calls Tryz.prog 112 #[.func (.func 158) #[] #[.pointer (some ⟨hx, 0, none⟩), .pointer (some ⟨lx, 0, none⟩)]] w1 fun e w2 => ∃ a n cc, e = .returned (.slice a n cc) ∧ Hid (PgI J B S c h G L top 0 (.slice a n cc) w w2)) := Lib.hid (by
    clear HCH HAP HSO HX1 HX2
    go_enter Tryz.func112, Tryz.ntmps112
    go_wp2_with fail
    refine HC.out.mono ?_
    rintro e w2 ⟨a, n, cc, rfl, HP⟩
    go_wp2
    go_ret
    exact ⟨a, n, cc, rfl, HP⟩)
  clear HC
  go_wp2_with fail
  refine HC2.out.mono ?_
  rintro e w2 ⟨a, n, cc, rfl, HP0⟩
  clear HC2
  go_wp2
  go_loopw [3, 13] (fun v kv wr => ∃ (k : Nat) (a : Option Addr) (n cc : Nat), k ≤ 5 ∧ kv = .int .i64 k ∧ v = .slice a n cc ∧ Hid (PgI J B S c h G L top k (.slice a n cc) w wr)) (fun _ kv _ => 5 - (intOf kv).toNat)
  case atStart => exact ⟨0, a, n, cc, by omega, rfl, rfl, HP0⟩
  case round =>
    obtain ⟨k, a, n, cc, hk, rfl, rfl, HP⟩ := hrel
    clear HP0
    by_cases hk5 : k < 5
    · have f1 : (k : Int) < 5 := by omega
      go_wp2_with fail
      refine (HCH.out k _ _ (by omega) HP.out).mono ?_
      rintro e w3 ⟨s, rfl, HP2⟩
      clear HCH HP HSO
      rcases (by omega : k ≠ 0 ∨ k = 0) with hk0 | hk0
      · rw [show ch0 top k = 0 from if_neg hk0]
        have HP3 := Lib.hid (HX2.out _ _ _ hk0 HP2.out)
        clear HAP HX1 HX2 HP2
        go_wp2
        go_roundw
        case rel => exact ⟨k + 1, a, n, cc, by omega, by go_num, rfl, HP3⟩
        case measure => simp [intOf]; omega
      · subst hk0
        rw [show ch0 top 0 = top from ch0_zero top]
        by_cases ht : top = 0
        · have HP3 := Lib.hid (HX1.out ht _ _ _ HP2.out)
          subst ht
          clear HAP HX1 HX2 HP2
          go_wp2
          go_roundw
          case rel => exact ⟨0 + 1, a, n, cc, by omega, by go_num, rfl, HP3⟩
          case measure => simp [intOf]
        · obtain ⟨a2, n2, c2, w4, hr4, HP3⟩ := HAP.out _ _ ht HP2.out
          have t1 : ¬ (top : Int) = 0 := by omega
          have t2 : ((top : Int) != 0) = true := by simpa using ht
          clear HAP HX1 HX2 HP2
          go_wp2_with (at_builtin; refine Lib.wpList_append_run _ rfl _ _ 57 57 rfl _ _ rfl rfl _ _ hr4 ?_)
          go_roundw
          case rel => exact ⟨0 + 1, a2, n2, c2, by omega, by go_num, rfl, HP3⟩
          case measure => simp [intOf]
    · obtain rfl : k = 5 := by omega
      have HS5 := Lib.hid (HSO.out _ _ HP.out)
      clear HCH HAP HX1 HX2 HP HSO
      go_wp2_with fail
      refine HS5.out.mono ?_
      rintro e w3 ⟨rfl, HE⟩
      clear HS5
      go_wp2
      go_ret
      exact HE.out
end
end Go.Proofs.YtijggofelepaaaaGreatDoor
