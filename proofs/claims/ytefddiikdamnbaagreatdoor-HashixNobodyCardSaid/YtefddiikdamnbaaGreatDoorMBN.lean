/- Texts of the same proof, one behind the other: XAL, XAQ. -/
import Derived.Test.YtefddiikdamnbaaGreatDoorMBM
import Derived.Deep.RegionHeld
/- Contract: an entry is put into its bucket: the call. -/
set_option maxRecDepth 100000
namespace Go.Proofs.YtefddiikdamnbaaGreatDoor.Dm
open Go Go.RowKit Go.Shelf
attribute [local go_sem] Oper.semAt_some

section
variable {J : List RawOp → Prop} {B : Nat} {S : Nat → Prop} {c : Ac} {h : Hd} {G : Nat → List UInt8} {w : World} {hb r n : Nat} {ch : Nat → Chn} {UL : List Nat} {e : Et}
theorem results_err {fn : Func} {p : Tmp} (h : fn.results = #[.cell p 23]) (tmps : Array Value) (w : World) (g : Nat) (v : Value) (hp : tmps.getD p undef = .pointer (some ⟨g, 0, none⟩)) (hg : w.cell? ⟨g, 0, none⟩ = some v) :
    (results fn tmps).run Tryz.prog w = .ok v w := by
  have hp' : tmps[p]?.getD undef = .pointer (some ⟨g, 0, none⟩) := by simpa using hp
  have l1 : (loadVar 23 ⟨g, 0, none⟩).run Tryz.prog w = .ok v w := by simp [go_sem, loadVar, hg, Result.andThen]
  simp [results, h, hp', asAddr, l1]
/-- The end of a call: what was deferred is taken; the answer is set ahead of that. -/
theorem end_put {S0 S : Nat → Prop} {A : World} {D : Nat} (hT : Turn S0 w S A) (hA : ActV J B S c h G A) (hD : w.heap.size ≤ D ∧ ¬ S D ∧ 1 ≤ D) : Turn S0 w S (A.putObj D (.deferred none)) ∧ ActV J B S c h G (A.putObj D (.deferred none)) := by
  have hk := kept_put A D (.deferred none)
  exact ⟨hT.stepK hk (fun k e => .inr (by have e' : k = D := e; omega)) (fun _ _ e => e), hA.kept hk (fun k e _ => by have e' : k = D := e; rw [e']; exact hD.2)⟩
theorem end_set {S0 S : Nat → Prop} {A : World} {D cv : Nat} {v v' : Value} {T : TypeId} (hT : Turn S0 w S A) (hA : ActV J B S c h G A) (hD : w.heap.size ≤ D ∧ ¬ S D ∧ 1 ≤ D) (hv : w.heap.size ≤ cv ∧ ¬ S cv ∧ 1 ≤ cv) (hne : cv ≠ D) (hc : A.heap[cv]? = some (.cells #[v'] T (0, 0))) (hd : A.heap[D]? = some (.deferred (some []))) :
    (A.setCell ⟨cv, 0, none⟩ v).heap[D]? = some (.deferred (some [])) ∧ ((A.setCell ⟨cv, 0, none⟩ v).putObj D (.deferred none)).cell? ⟨cv, 0, none⟩ = some v ∧ Turn S0 w S ((A.setCell ⟨cv, 0, none⟩ v).putObj D (.deferred none)) ∧ ActV J B S c h G ((A.setCell ⟨cv, 0, none⟩ v).putObj D (.deferred none)) := by
  have hk : Kept (fun k => k = cv) A (A.setCell ⟨cv, 0, none⟩ v) := Kept.setCell (fun k => k = cv) A (b := cv) (i := 0) rfl v
  have h1 := heap_set_at hc 0 v
  have h2 : Turn S0 w S (A.setCell ⟨cv, 0, none⟩ v) := hT.stepK hk (fun k e => .inr (by have e' : k = cv := e; omega)) (fun _ _ e => e)
  have h3 : ActV J B S c h G (A.setCell ⟨cv, 0, none⟩ v) := hA.kept hk (fun k e _ => by have e' : k = cv := e; rw [e']; exact hv.2)
  have h4 : ((A.setCell ⟨cv, 0, none⟩ v).putObj D (.deferred none)).heap[cv]? = some _ := (World.putObj_heap_other hne).trans h1
  exact ⟨(hk.block D (Array.getElem?_eq_some_iff.1 hd).1 (fun e => hne e.symm)).trans hd, (Lib.cell_of_heap h4 0).trans rfl, end_put h2 h3 hD⟩
theorem grow_any {tb pg cnt b : Nat} {F : Nat → Nat} (x : ActV J B S c h G w) (ht : HxAt w hb c.a r) (hS : ¬ S hb) (hr : r < 16) (hT : TbAt w tb pg n cnt F) (hSt : ¬ S tb) (ht1 : 1 ≤ tb) (hne : hb ≠ tb) (hb2 : b < 250) (L : List Nat) (hL : ∀ q, h.has q → q ∈ L) (hn : L.length + 2 ≤ 4094) :
    Calls Tryz.prog 143 #[.pointer (some ⟨hb, 0, none⟩), .pointer (some ⟨tb, 0, none⟩), .int .i64 b] w (GrPost J B S c h G w r tb pg n cnt F b) := by
  by_cases hp : pg = 0
  · subst hp
    exact grow_none x ht hS hr hT hSt ht1 hne b hb2 L hL hn
  · exact grow_some x ht hS hT hSt ht1 hp b hb2 L hL (by omega)
set_option maxHeartbeats 6400000 in
theorem put_in (x : ActV J B S c h G w) (ht : HxAt w hb c.a r) (hS : ¬ S hb) (hr : r < 16) (on : HxOn h G (h.root r) n ch UL) (hfew : cntE n ch + UL.length ≤ 4000) (he : InE e) :
    CallsIn Fence.wide 20 Tryz.prog 90 #[.pointer (some ⟨hb, 0, none⟩), .string ⟨(heldE e).toArray⟩] w (HPutPost J B S c h G w r n ch UL e) := by
  obtain ⟨s, hs⟩ : ∃ s : ByteArray, s = ⟨(heldE e).toArray⟩ := ⟨_, rfl⟩
  have hsz : s.size ≤ 1000 := by have := (held_len he).2; rw [hs, held_bytes]; omega
  obtain ⟨N, hN⟩ : ∃ N, N = w.heap.size := ⟨_, rfl⟩
  obtain ⟨b, hb0⟩ : ∃ b, b = bktE n e.1 := ⟨_, rfl⟩
  have hbn : b < n := by rw [hb0]; exact bkt_lt on.nb.1 e.1
  have hnb := on.nb
  obtain ⟨w1, hw1⟩ : ∃ w1, w1 = (w.alloc (.cells #[.string s] 9)).alloc (.cells #[.int .i64 0] 23) := ⟨_, rfl⟩
  have z1 : w1.heap.size = N + 2 := by rw [hw1, hN]; simp [World.size_alloc]
  have hB1 : Below w.heap.size w w1 := by
    rw [hw1]
    exact ((Below.refl _ _).alloc (Nat.le_refl _) _).alloc (by simp) _
  have g0 : w1.heap[N]? = some (.cells #[.string s] 9 (0, 0)) := by
    rw [hw1, Below.heap_alloc _ _ _ (by simp; omega), hN]
    exact heap_alloc_new w _
  have g1 : w1.heap[N + 1]? = some (.cells #[.int .i64 0] 23 (0, 0)) := by
    have := heap_alloc_new (w.alloc (.cells #[.string s] 9)) (.cells #[.int .i64 0] 23)
    rw [World.size_alloc, ← hN] at this
    rw [hw1]; exact this
  have hlowS : ∀ k, S k → k < N := fun k hk => by have := (x.low k hk).2; omega
  have HTB : Hid (∀ k, CallsIn Fence.wide k Tryz.prog 77 #[.pointer (some ⟨hb, 0, none⟩)] w1 (TbPost J B S c h G w1 (h.root r) n (cntE n ch) (fstF ch))) := Lib.hid fun k => callsIn_wide.2 (table_on (x.below hB1) (ht.below hB1) hS hr on (by omega))
  have HX := Lib.hid x
  have HT := Lib.hid (And.intro ht hS)
  have HON := Lib.hid on
  have HE := Lib.hid he
  have HSS := Lib.hid hs
  have HG1 := Lib.hid (And.intro g0 g1)
  have HLS := Lib.hid hlowS
  have HB1 := Lib.hid hB1
  have HW1 := Lib.hid hw1
  have HNN := Lib.hid hN
  have HBB := Lib.hid hb0
  rw [← hs]
  clear x ht hS on he hs g0 g1 hlowS hB1 hw1 hN hb0
  refine callsIn_of_wp_marks Tryz.func90 rfl trivial ?_ rfl
  simp only [Tryz.ntmps90, List.size_toArray, List.length_cons, List.length_nil, Nat.reduceAdd, Nat.reduceSub, Array.replicate_succ, Array.replicate_zero, List.push_toArray, List.append_toArray, List.nil_append, List.cons_append]
  have hF1 : Fence.wide.fn 77 := trivial
  have hF2 : Fence.wide.fn 140 := trivial
  have hF3 : Fence.wide.fn 95 := trivial
  have hF4 : Fence.wide.fn 141 := trivial
  have hF5 : Fence.wide.fn 142 := trivial
  have hF6 : Fence.wide.fn 143 := trivial
  have hF7 : Fence.wide.fn 144 := trivial
  have hF8 : Fence.wide.fn 145 := trivial
  have hF9 : Fence.wide.fn 146 := trivial
  gi_wp2_with fail
  rw [← HW1.out, ← HNN.out]
  refine (HTB.out _).mono ?_
  rintro y w2 ⟨tb, S1, rfl, htb, nst, hT, tu, x2⟩
  have hlow1 : ∀ k, k < w1.heap.size → N ≤ k → ¬ S1 k := fun k hk hN hs => by have := HLS.out k (tu.2 k hk hs); omega
  have k0 := (tu.1.block N (by omega) (fun e => by have := HLS.out N e; omega)).trans HG1.out.1
  have k1 := (tu.1.block (N + 1) (by omega) (fun e => by have := HLS.out _ e; omega)).trans HG1.out.2
  have ht2 := (HT.out.1.below HB1.out).kept tu.1 HT.out.2
  have nhb : ¬ S1 hb := fun hs => HT.out.2 (tu.2 hb (Nat.lt_of_lt_of_le HT.out.1.lt HB1.out.size) hs)
  have c0 := cellE k0
  have HBK : Hid (∀ k, CallsIn Fence.wide k Tryz.prog 140 #[.pointer (some ⟨tb, 0, none⟩), .string s] w2 fun e w' => e = .returned (.tuple #[.int .i64 (b : Nat), .bool true]) ∧ Below w2.heap.size w2 w') := Lib.hid fun k => by
    rw [HSS.out, HBB.out]; exact callsIn_wide.2 (bucketOfHeld_h hT hnb.1 hnb.2 e HE.out)
  have hz2 := tu.1.size
  have tu2 : Turn S w S1 w2 := (Turn.ofBelow HB1.out).trans tu
  have H2 := Lib.hid (And.intro hT (And.intro tu2 (And.intro x2 (And.intro nst (And.intro hlow1 (And.intro k0 (And.intro k1 (And.intro ht2 nhb))))))))
  have z2 : N + 2 ≤ tb := by omega
  clear hT tu x2 nst hlow1 k0 k1 ht2 nhb tu2 HTB
  gi_wp2_with fail
  refine (HBK.out _).mono ?_
  rintro y w3 ⟨rfl, hb3⟩
  have HB3 := Lib.hid hb3
  obtain ⟨cr, hcr⟩ : ∃ cr, cr = w3.heap.size := ⟨_, rfl⟩
  have HCR := Lib.hid hcr
  obtain ⟨w4, hw4⟩ : ∃ w4, w4 = w3.alloc (.cells #[.pointer none] 144) := ⟨_, rfl⟩
  have HW4 := Lib.hid hw4
  have HSH : Hid (∀ k, CallsIn Fence.wide k Tryz.prog 95 #[.pointer (some ⟨hb, 0, none⟩), .pointer (some ⟨tb, 0, none⟩), .int .i64 b] w4 fun e w' => ∃ i, e = .returned (.func (.func 177) #[] #[.pointer (some ⟨i + 1, 0, none⟩), .pointer (some ⟨i + 2, 0, none⟩), .pointer (some ⟨i, 0, none⟩)]) ∧ w4.heap.size ≤ i ∧ IterAt w' hb tb b 1 (250 - b) i (i + 1) (i + 2) ∧ Below w4.heap.size w4 w') := Lib.hid fun k => callsIn_wide.2 (sheets_any hb tb b w4 (by omega))
  clear hb3 hcr hw4 HBK
  gi_wp2_with fail
  rw [← HW4.out, ← HCR.out]
  refine (HSH.out _).mono ?_
  rintro y w5 ⟨i, rfl, hi4, hit, hb5⟩
  have HI5 := Lib.hid (And.intro hit hb5)
  clear hit hb5 HSH
  gi_wp2_with fail
  obtain ⟨hT, tu2, x2, nst, hlow1, k0, k1, ht2, nhb⟩ := H2.out
  obtain ⟨hit, hb5⟩ := HI5.out
  have hw4 := HW4.out
  have hcr := HCR.out
  have hB3 := HB3.out
  have z4 : w4.heap.size = cr + 1 := by rw [hw4, World.size_alloc, hcr]
  have hB4 : Below w2.heap.size w2 w4 := by rw [hw4]; exact hB3.alloc hB3.size _
  have hB5 : Below w2.heap.size w2 w5 := hB4.trans (hb5.mono hB4.size)
  have z3 := hB3.size
  have z5 := hb5.size
  have htbl := hT.lt
  have hhbl := HT.out.1.lt
  have hNN := HNN.out
  have kcr : w5.heap[cr]? = some (.cells #[.pointer none] 144 (0, 0)) := by
    rw [hb5.block cr (by omega), hw4, hcr]
    exact heap_alloc_new w3 _
  have k05 := (hB5.block N (Array.getElem?_eq_some_iff.1 k0).1).trans k0
  have k15 := (hB5.block (N + 1) (Array.getElem?_eq_some_iff.1 k1).1).trans k1
  have hT5 := hT.below hB5
  have ht5 := ht2.below hB5
  have x5 := x2.below hB5
  have tu5 := tu2.trans (Turn.ofBelow hB5)
  have hit3 := hit
  obtain ⟨it1, it2, it3⟩ := hit3
  have li1 := (Array.getElem?_eq_some_iff.1 it1).1
  have li2 := (Array.getElem?_eq_some_iff.1 it2).1
  have li3 := (Array.getElem?_eq_some_iff.1 it3).1
  have hup : ∀ k, w2.heap.size ≤ k → ¬ S1 k := fun k hk hs => by have := (x2.low k hs).2; omega
  obtain ⟨Ks, hKs⟩ : ∃ Ks : Nat → Prop, Hid (∀ k, Ks k ↔ (k = hb ∨ k = tb ∨ k = N ∨ k = i ∨ k = i + 1 ∨ k = i + 2)) := ⟨fun k => k = hb ∨ k = tb ∨ k = N ∨ k = i ∨ k = i + 1 ∨ k = i + 2, Lib.hid (fun _ => Iff.rfl)⟩
  have HKL : Hid (∀ k, Ks k → k < w5.heap.size) := Lib.hid fun k hk => by rcases (hKs.out k).1 hk with rfl | rfl | rfl | rfl | rfl | rfl <;> omega
  have hst5 : Stay w5 Ks S1 w5 := Stay.refl fun k hk => by
    rcases (hKs.out k).1 hk with rfl | rfl | rfl | rfl | rfl | rfl
    · exact nhb
    · exact nst
    · exact hlow1 _ (by omega) (by omega)
    · exact hup _ (by omega)
    · exact hup _ (by omega)
    · exact hup _ (by omega)
  have h0 : PutJs G w w5 S e (N + 1) cr Ks S1 [] w5 := ⟨hst5, tu5, ⟨hlow1 _ (by omega) (by omega), k15⟩, by simp [entsC], hup _ (by omega), .inl kcr⟩
  have hw5 : w.heap.size ≤ w5.heap.size := tu5.1.size
  have hcv5 : N + 1 < w5.heap.size := by omega
  have hcr5 : cr < w5.heap.size := by omega
  have hNcr : N + 1 < cr := by omega
  have H2N : Hid (hb < cr ∧ tb < cr ∧ N < cr ∧ cr < i) := Lib.hid (by omega)
  have H5 := Lib.hid (And.intro k05 (And.intro hT5 (And.intro ht5 hit)))
  have hpg : h.root r < 4096 := by
    by_cases hz : h.root r = 0
    · omega
    · exact (x5.has_lt (HON.out.tbl hz).1).2
  have hon : ChOn h G (h.root r) (ch b) := HON.out.on b
  have hndp : (pgsC (ch b)).Nodup := HON.out.nd b
  clear hT tu2 x2 nst hlow1 k0 k1 ht2 nhb hit hb5 hw4 hcr hB3 z4 hB4 hB5 z3 z5 htbl hhbl hNN kcr k05 k15 hT5 ht5 tu5 it1 it2 it3 li1 li2 li3 hup hst5 HW4 HCR HB3 HI5 H2 HW1 HG1 HLS
  refine range_along (d := 18) (hb := hb) (r := r) (tb := tb) (o := b) (m := 1) (cp := 250 - b) (b1 := i) (b2 := i + 1) (b3 := i + 2) (pg := h.root r) (nb := n) (cnt := cntE n ch) (F := fstF ch) (cs := [ch b]) (by omega) rfl (by omega) ?hF ?hon ?hnd hpg rfl rfl (fun k => k = N + 1 ∨ k = cr) (PutJs G w w5 S e (N + 1) cr Ks) (PutJx J B c h G w S e (N + 1)) S1 ?hC ?hw1 ?hI ?hJ ?hX ?hR ?hE ?hL x5 h0
  case hF =>
    intro j hj
    have : j = 0 := by simpa using hj
    subst this
    rfl
  case hon =>
    intro d hd
    rw [List.mem_singleton.1 hd]; exact hon
  case hnd => simpa using hndp
  case hC => rintro k (rfl | rfl) <;> omega
  case hw1 => omega
  case hI =>
    rintro S2 pre A ⟨h1, _⟩
    obtain ⟨_, hT5, ht5, hit5⟩ := H5.out
    have m1 := (hKs.out hb).2 (.inl rfl)
    exact ⟨h1.hx m1 ht5, (h1 hb m1).1, h1.it ((hKs.out i).2 (by omega)) ((hKs.out (i + 1)).2 (by omega)) ((hKs.out (i + 2)).2 (by omega)) hit5, h1.tb ((hKs.out tb).2 (.inr (.inl rfl))) hT5⟩
  case hJ =>
    rintro S2 A S3 A' pre hA hj hk hs hA'
    exact hj.step hw5 HKL.out hcv5 hcr5 hk (fun _ e => e) hs
  case hX =>
    rintro j S2 pre A A' ⟨h1, h2, h3, h4, h5⟩ hn hk
    exact ⟨h1, h2.stepK hk (fun k e => .inr (by have e' : k = w5.heap.size + 1 := e; omega)) (fun _ _ e => e), h3, (hk.block _ (Array.getElem?_eq_some_iff.1 h4).1 (by omega)).trans h4, h5.kept hk (fun k e _ => by have e' : k = w5.heap.size + 1 := e; rw [e']; exact ⟨hn, by omega⟩)⟩
  case hR =>
    rintro S2 pre q le nx sb A A' hA hj hpf hsh hnx hs nsb hsb -
    have hpf' : pre ++ [(q, le)] <+: ch b := by simpa using hpf
    obtain ⟨k05, hT5, ht5, hit5⟩ := H5.out
    have HJ := Lib.hid hj
    obtain ⟨j1, j2, ⟨j3, j4⟩, j5, j6, j7⟩ := hj
    have c0 : A'.cell? ⟨N, 0, none⟩ = some (.string s) := (j1.cell ((hKs.out N).2 (by omega)) 0).trans (cellE k05)
    have HFD : Hid (∀ k, CallsIn Fence.wide k Tryz.prog 141 #[.pointer (some ⟨sb, 0, none⟩), .string s] A' fun y w' => ((∃ k, le[k]? = some e ∧ y = .returned (.tuple #[.int .i64 (offE le k : Nat), .bool true])) ∨ (e ∉ le ∧ y = .returned (.tuple #[.int .i64 0, .bool false]))) ∧ Below A'.heap.size A' w') := Lib.hid fun k => callsIn_wide.2 (callsIn_wide.1 (by rw [HSS.out]; exact find_in hs hsh.fit hsh.ok HE.out))
    have hent : entsC (pre ++ [(q, le)]) = entsC pre ++ le := by rw [entsC_app]; simp [entsC]
    have HYES : Hid (∀ W, Below A'.heap.size A' W → e ∈ le → (W.frozen? ⟨N + 1, 0, none⟩ = false ∧ W.cell? ⟨N + 1, 0, none⟩ = some (.int .i64 0)) ∧ ∃ S', TurnX (fun k => (k = N + 1 ∨ k = cr) ∨ w5.heap.size + 3 ≤ k) S2 A' S' (W.setCell ⟨N + 1, 0, none⟩ (.int .i64 160)) ∧ PutJx J B c h G w S e (N + 1) .ret S' (pre ++ [(q, le)]) (W.setCell ⟨N + 1, 0, none⟩ (.int .i64 160))) := Lib.hid fun W hW hm => by
      have l1 := (Array.getElem?_eq_some_iff.1 j4).1
      have m1 := (hW.block _ l1).trans j4
      have hkc : Kept (fun k => k = N + 1) W (W.setCell ⟨N + 1, 0, none⟩ (.int .i64 160)) := Kept.setCell (fun k => k = N + 1) W (b := N + 1) (i := 0) rfl _
      have hk2 := (Kept.ofBelow (S := fun k => k = N + 1) hW).trans hkc (fun _ e => .inl e)
      exact ⟨⟨Lib.frozen_of_heap m1 0, cellE m1⟩, S2, ⟨hk2.mono (fun _ e => .inr (.inl (.inl e))), fun _ _ e => e⟩, rfl, j2.stepK hk2 (fun k e => .inr (by have e' : k = N + 1 := e; have := HNN.out; omega)) (fun _ _ e => e), by rw [hent]; exact List.mem_append_right _ hm, (heap_set_at m1 0 _).trans rfl, (hA.below hW).kept hkc (fun k e _ => by have e' : k = N + 1 := e; rw [e']; exact ⟨j3, by omega⟩)⟩
    have HSKIP : Hid (∀ W, Below A'.heap.size A' W → e ∉ le → ∃ S', TurnX (fun k => (k = N + 1 ∨ k = cr) ∨ (w5.heap.size + 3 ≤ k ∧ k ≠ sb)) S2 A' S' W ∧ ActV J B S' c h G W ∧ PutJs G w w5 S e (N + 1) cr Ks S' (pre ++ [(q, le)]) W) := Lib.hid fun W hW hm => by
      obtain ⟨i1, i2, i3, i4, i5, i6⟩ := HJ.out.step hw5 HKL.out hcv5 hcr5 (Kept.ofBelow (S := fun _ => False) hW) (fun _ e => e.elim) (fun _ _ e => e)
      exact ⟨S2, ⟨Kept.ofBelow hW, fun _ _ e => e⟩, hA.below hW, i1, i2, i3, by rw [hent]; exact fun hh => (List.mem_append.1 hh).elim i4 hm, i5, i6.more⟩
    have HSET : Hid (∀ W, Below A'.heap.size A' W → e ∉ le → (bodyE le).length + (1 + s.size) ≤ 510 → A'.heap[cr]? = some (.cells #[.pointer none] 144 (0, 0)) → ∃ S', TurnX (fun k => (k = N + 1 ∨ k = cr) ∨ (w5.heap.size + 3 ≤ k ∧ k ≠ sb)) S2 A' S' (W.setCell ⟨cr, 0, none⟩ (.pointer (some ⟨sb, 0, none⟩))) ∧ ActV J B S' c h G (W.setCell ⟨cr, 0, none⟩ (.pointer (some ⟨sb, 0, none⟩))) ∧ PutJs G w w5 S e (N + 1) cr Ks S' (pre ++ [(q, le)]) (W.setCell ⟨cr, 0, none⟩ (.pointer (some ⟨sb, 0, none⟩)))) := Lib.hid fun W hW hm hrm hcc => by
      have l1 := (Array.getElem?_eq_some_iff.1 hcc).1
      have m1 := (hW.block _ l1).trans hcc
      have hkc : Kept (fun k => k = cr) W (W.setCell ⟨cr, 0, none⟩ (.pointer (some ⟨sb, 0, none⟩))) := Kept.setCell (fun k => k = cr) W (b := cr) (i := 0) rfl _
      have hk2 := (Kept.ofBelow (S := fun k => k = cr) hW).trans hkc (fun _ e => .inl e)
      have n1 : ∀ k, Ks k → k = cr → False := fun k hk e => by
        have := (hKs.out k).1 hk
        have := H2N.out
        omega
      exact ⟨S2, ⟨hk2.mono (fun _ e => .inr (.inl (.inr e))), fun _ _ e => e⟩, (hA.below hW).kept hkc (fun k e _ => by have e' : k = cr := e; rw [e']; exact ⟨j6, by omega⟩), j1.step HKL.out hk2 (fun k hk e => (n1 k hk e).elim) (fun _ _ e => e), j2.stepK hk2 (fun k e => .inr (by have e' : k = cr := e; have := HNN.out; omega)) (fun _ _ e => e), ⟨j3, (hk2.block _ (Array.getElem?_eq_some_iff.1 j4).1 (by omega)).trans j4⟩, by rw [hent]; exact fun hh => (List.mem_append.1 hh).elim j5 hm, j6,
        .inr ⟨sb, q, nx, le, pre, [], (heap_set_at m1 0 _).trans rfl, rfl, hs.kept hk2 (by omega), nsb, hsb, by rw [HSS.out, held_bytes] at hrm; exact hrm, hnx, hsh.is⟩⟩
    have HRM : Hid (∀ k W, Below A'.heap.size A' W → CallsIn Fence.wide k Tryz.prog 142 #[.pointer (some ⟨sb, 0, none⟩), .string s] W fun y w' => y = .returned (.bool (decide ((bodyE le).length + (1 + s.size) ≤ 510))) ∧ ∃ k, w' = W.drewN k) := Lib.hid fun k W hW => callsIn_wide.2 (hasRoom_any (hs.below hW) (by have := hsh.fit; omega) s hsz)
    have HC0 : Hid (∀ W, Below A'.heap.size A' W → W.cell? ⟨N, 0, none⟩ = some (.string s)) := Lib.hid fun W hW => (hW.cell (p := ⟨N, 0, none⟩) (j1.lt ((hKs.out N).2 (by omega)) (HKL.out N ((hKs.out N).2 (by omega))))).trans c0
    have hr7 : (A'.heap[cr]? = some (.cells #[.pointer none] 144 (0, 0))) ∨ ∃ p, A'.heap[cr]? = some (.cells #[.pointer (some ⟨p, 0, none⟩)] 144 (0, 0)) := by
      rcases j7 with h7 | ⟨p, _, _, _, _, _, h7, _⟩
      · exact .inl h7
      · exact .inr ⟨p, h7⟩
    have hmx : Tryz.prog.follows .mixedOrders = true := by kernel_rfl
    clear hA hpf hpf' hsh hs nsb hsb j1 j2 j3 j4 j5 j6 j7 hent k05 hT5 ht5 hit5
    gi_wp2_with fail
    refine ⟨by first | rfl | trivial, ?_⟩
    gi_wp2_with fail
    refine (CallsIn.inRound _ (HFD.out _)).mono ?_
    rintro y A2 ⟨⟨k, hk, rfl⟩ | ⟨hnl, rfl⟩, hb2⟩
    · obtain ⟨⟨f1, f2⟩, HP⟩ := HYES.out A2 hb2 (List.mem_of_getElem? hk)
      have HPP := Lib.hid HP
      clear HP
      gi_wp2
      exact HPP.out
    · have HB2 := Lib.hid hb2
      have d0 := HC0.out A2 hb2
      rcases hr7 with hcc | ⟨p, hcc⟩
      · have l1 := (Array.getElem?_eq_some_iff.1 hcc).1
        have m1 := (hb2.block _ l1).trans hcc
        have c1 := cellE m1
        have f1 := Lib.frozen_of_heap m1 0
        have HD0 := HC0
        by_cases hrm : (bodyE le).length + (1 + s.size) ≤ 510
        · have hde : decide ((bodyE le).length + (1 + s.size) ≤ 510) = true := decide_eq_true hrm
          rw [hde] at HRM
          have HPP : Hid (∀ W, Below A2.heap.size A2 W → (W.frozen? ⟨cr, 0, none⟩ = false ∧ W.cell? ⟨cr, 0, none⟩ = some (.pointer none)) ∧ ∃ S', TurnX (fun k => (k = N + 1 ∨ k = cr) ∨ (w5.heap.size + 3 ≤ k ∧ k ≠ sb)) S2 A' S' (W.setCell ⟨cr, 0, none⟩ (.pointer (some ⟨sb, 0, none⟩))) ∧ ActV J B S' c h G (W.setCell ⟨cr, 0, none⟩ (.pointer (some ⟨sb, 0, none⟩))) ∧ PutJs G w w5 S e (N + 1) cr Ks S' (pre ++ [(q, le)]) (W.setCell ⟨cr, 0, none⟩ (.pointer (some ⟨sb, 0, none⟩)))) := Lib.hid fun W hW =>
            ⟨⟨Lib.frozen_of_heap ((hW.block _ (Array.getElem?_eq_some_iff.1 m1).1).trans m1) 0, cellE ((hW.block _ (Array.getElem?_eq_some_iff.1 m1).1).trans m1)⟩, HSET.out W (HB2.out.trans (hW.mono HB2.out.size)) hnl hrm hcc⟩
          clear hb2 hcc l1 m1 hde hrm HYES HSKIP HSET HD0
          gi_wp2_with fail
          refine (CallsIn.inRound _ (HRM.out _ _ HB2.out)).mono ?_
          rintro y A3 ⟨rfl, kk, hA3⟩
          subst A3
          obtain ⟨⟨f3, f4⟩, HP⟩ := HPP.out _ (below_drewN A2 kk)
          have HP2 := Lib.hid HP
          clear HP HPP
          gi_wp2
          exact HP2.out
        · have hde : decide ((bodyE le).length + (1 + s.size) ≤ 510) = false := decide_eq_false hrm
          rw [hde] at HRM
          have HPP : Hid (∀ W, Below A2.heap.size A2 W → ∃ S', TurnX (fun k => (k = N + 1 ∨ k = cr) ∨ (w5.heap.size + 3 ≤ k ∧ k ≠ sb)) S2 A' S' W ∧ ActV J B S' c h G W ∧ PutJs G w w5 S e (N + 1) cr Ks S' (pre ++ [(q, le)]) W) := Lib.hid fun W hW => HSKIP.out W (HB2.out.trans (hW.mono HB2.out.size)) hnl
          clear hb2 hcc l1 m1 hde hrm HYES HSKIP HSET HD0
          gi_wp2_with fail
          refine (CallsIn.inRound _ (HRM.out _ _ HB2.out)).mono ?_
          rintro y A3 ⟨rfl, kk, hA3⟩
          subst A3
          have HP2 := Lib.hid (HPP.out _ (below_drewN A2 kk))
          clear HPP
          gi_wp2
          exact HP2.out
      · have l1 := (Array.getElem?_eq_some_iff.1 hcc).1
        have c1 := cellE ((hb2.block _ l1).trans hcc)
        have hqn := fun W => neq_nil_sheet_h W ⟨p, 0, none⟩
        have HP2 := Lib.hid (HSKIP.out A2 hb2 hnl)
        clear hb2 hcc l1 HYES HSKIP HSET
        gi_wp2
        exact HP2.out
  case hE =>
    rintro S2 A hA ⟨j1, j2, ⟨j3, j4⟩, j5, j6, j7⟩ nD hd hsz
    have hfl : [ch b].flatten = ch b := by simp
    rw [hfl] at j5 j7
    obtain ⟨D, hD⟩ : ∃ D, D = w5.heap.size := ⟨_, rfl⟩
    rw [← hD] at nD hd hsz j7 ⊢
    obtain ⟨q1, q2, q3, q4⟩ := H2N.out
    have hND := HNN.out
    have HDD := Lib.hid hD
    obtain ⟨k05, hT5, ht5, hit5⟩ := H5.out
    obtain ⟨Ls, hLs⟩ : ∃ Ls : Nat → Prop, Hid (∀ k, Ls k ↔ (k = hb ∨ k = N ∨ k = N + 1 ∨ k = cr ∨ k = D)) := ⟨fun k => k = hb ∨ k = N ∨ k = N + 1 ∨ k = cr ∨ k = D, Lib.hid (fun _ => Iff.rfl)⟩
    have mhb := (hKs.out hb).2 (.inl rfl)
    have mtb := (hKs.out tb).2 (.inr (.inl rfl))
    have mN := (hKs.out N).2 (by omega)
    have hTA := j1.tb mtb hT5
    have htA := j1.hx mhb ht5
    have nL : ∀ k, Ls k → ¬ S2 k := fun k hk => by
      rcases (hLs.out k).1 hk with rfl | rfl | rfl | rfl | rfl
      · exact (j1 _ mhb).1
      · exact (j1 _ mN).1
      · exact j3
      · exact j6
      · exact nD
    have kN : A.heap[N]? = some (.cells #[.string s] 9 (0, 0)) := (j1 N mN).2.trans k05
    have nhbN : hb ≠ N + 1 ∧ hb ≠ cr ∧ hb ≠ N := ⟨(fun e => by unfold HxAt at htA; rw [e, j4] at htA; cases htA), (by omega), (fun e => by unfold HxAt at htA; rw [e, kN] at htA; cases htA)⟩
    have hnin : e ∉ entsC (ch (bktE n e.1)) := by rw [← HBB.out]; exact j5
    rcases j7 with j7 | ⟨sb, q, nx, le, p1, p2, j7, hch, hsA, nsb, hsb, hfit, hnx, hGq⟩
    · obtain ⟨L, hL1, hL2⟩ := HON.out.used
      have ntb := (j1 tb mtb).1
      have HGR : Hid (∀ k, CallsIn Fence.wide k Tryz.prog 143 #[.pointer (some ⟨hb, 0, none⟩), .pointer (some ⟨tb, 0, none⟩), .int .i64 b] A (GrPost J B S2 c h G A r tb (h.root r) n (cntE n ch) (fstF ch) b)) := Lib.hid fun k =>
        callsIn_wide.2 (grow_any hA htA (j1 _ mhb).1 hr hTA ntb (by omega) (fun e => by unfold HxAt at htA; unfold TbAt at hTA; rw [e, hTA] at htA; cases htA) (by omega) L hL1 (by omega))
      have d0 := cellE j7
      have k1c := cellE kN
      have fcr := Lib.frozen_of_heap j7 0
      have HAA := Lib.hid (And.intro hA (And.intro j2 (And.intro htA (And.intro hTA (And.intro kN (And.intro j4 (And.intro j7 (And.intro nL (And.intro hd nhbN)))))))))
      have hNs := (Array.getElem?_eq_some_iff.1 kN).1
      clear hA j1 j2 j3 j4 j5 j6 j7 nL kN hd nhbN hTA htA hND hD
      gi_wp2_with fail
      refine (HGR.out _).mono ?_
      rintro y A1 ⟨sb, q, h1, h', G1, S3, pg', ps, rfl, hsb, nsb, ntb3, tk, hps, hsA, hTA1, tux, x1⟩
      obtain ⟨hA, j2, htA, hTA, kN, j4, j7, nL, hd, nhbN⟩ := HAA.out
      have hND := HNN.out
      have hD := HDD.out
      have htl := hTA.lt
      have lcr := (Array.getElem?_eq_some_iff.1 j7).1
      have lcv := (Array.getElem?_eq_some_iff.1 j4).1
      have nhbt : hb ≠ tb := fun e => by unfold HxAt at htA; unfold TbAt at hTA; rw [e, hTA] at htA; cases htA
      have hlt2 : ∀ k, Ls k → k < A.heap.size ∧ k ≠ tb := fun k hk => by
        rcases (hLs.out k).1 hk with rfl | rfl | rfl | rfl | rfl
        · exact ⟨htA.lt, nhbt⟩
        all_goals exact ⟨by omega, by omega⟩
      have st1 : Stay A Ls S3 A1 := (Stay.refl nL).step (fun k hk => (hlt2 k hk).1) tux.1 (fun k hk e => e.elim id (fun e => absurd e (hlt2 k hk).2)) tux.2
      have kcr1 := (st1 cr ((hLs.out cr).2 (by omega))).2.trans j7
      have fcr1 := Lib.frozen_of_heap kcr1 0
      obtain ⟨A2, hA2⟩ : ∃ A2, A2 = A1.setCell ⟨cr, 0, none⟩ (.pointer (some ⟨sb, 0, none⟩)) := ⟨_, rfl⟩
      have hkc : Kept (fun k => k = cr) A1 A2 := by rw [hA2]; exact Kept.setCell (fun k => k = cr) A1 (b := cr) (i := 0) rfl _
      have z1 := tux.1.size
      have z2 := hkc.size
      have nS3 : ∀ k, Ls k → ¬ S3 k := fun k hk => (st1 k hk).1
      have kL : ∀ k, Ls k → k ≠ cr → A2.heap[k]? = A.heap[k]? := fun k hk hne => (hkc.block k (Nat.lt_of_lt_of_le (hlt2 k hk).1 z1) hne).trans (st1 k hk).2
      have kNR := (kL N ((hLs.out N).2 (by omega)) (by omega)).trans kN
      have kvR := (kL (N + 1) ((hLs.out (N + 1)).2 (by omega)) (by omega)).trans j4
      have kdR := (kL D ((hLs.out D).2 (by omega)) (by omega)).trans hd
      have kcrR : A2.heap[cr]? = some (.cells #[.pointer (some ⟨sb, 0, none⟩)] 144 (0, 0)) := by rw [hA2]; exact (heap_set_at kcr1 0 _).trans rfl
      have hxR : HxAt A2 hb c.a r := by unfold HxAt at htA ⊢; exact (kL hb ((hLs.out hb).2 (.inl rfl)) (by omega)).trans htA
      have hfin : TailF w A2 Ls c hb r tb sb := ⟨fun k hk => ⟨by have := (hlt2 k hk).1; omega, by have := (hlt2 k hk).1; omega, (hlt2 k hk).2⟩, (hLs.out hb).2 (.inl rfl), hxR, by omega, by omega⟩
      have t0 : TailT J B c w A2 S Ls tb n sb q (fstF ch b) pg' (cntE n ch) (upd (fstF ch) b q) [] h' G1 S3 A2 :=
        ⟨x1.kept hkc (fun k e _ => by have e' : k = cr := e; rw [e']; exact ⟨nS3 cr ((hLs.out cr).2 (by omega)), by omega⟩), (j2.stepK tux.1 (fun k e => e.imp id (fun e => by omega)) tux.2).stepK hkc (fun k e => .inr (by have e' : k = cr := e; omega)) (fun _ _ e => e), Stay.refl nS3, ⟨hsA.kept hkc (fun e => by have e' : sb = cr := e; omega), nsb⟩, ⟨hTA1.kept hkc (fun e => by have e' : tb = cr := e; omega), ntb3⟩⟩
      obtain ⟨hq0, hpi0⟩ := put_grow (q := q) (pg := pg') (h' := h') hA.ok hr HON.out HE.out hnin tk (hps.imp (fun ⟨a, b, c, d⟩ => ⟨a, b, c, d⟩) (fun ⟨a, b, c⟩ => ⟨a, b, c⟩))
      rw [← HBB.out] at hpi0
      have HQ := Lib.hid hq0
      have HPI := Lib.hid hpi0
      have hnx : fstF ch b < 4096 := HON.out.first_lt (fun q hq => (hA.has_lt hq).2) b
      have hfit2 : (bodyE [e]).length ≤ 510 := HE.out.fit1
      have HA2 := Lib.hid hA2
      have c1N : A1.cell? ⟨N, 0, none⟩ = some (.string s) := cellE ((st1 N ((hLs.out N).2 (by omega))).2.trans kN)
      have n1N : N ≠ cr := by omega
      have c1R := cellE kcr1
      have hl0 : (bodyE []).length ≤ 1000 := by simp [bodyE]
      have HLS2 := hLs
      have cN1 : ∀ A' S', Stay A2 Ls S' A' → A'.cell? ⟨N, 0, none⟩ = some (.string s) := fun A' S' h => (h.cell ((hLs.out N).2 (.inr (.inl rfl))) 0).trans (cellE kNR)
      have cR1 : ∀ A' S', Stay A2 Ls S' A' → A'.cell? ⟨cr, 0, none⟩ = some (.pointer (some ⟨sb, 0, none⟩)) := fun A' S' h => (h.cell ((hLs.out cr).2 (by omega)) 0).trans (cellE kcrR)
      have HCN := Lib.hid cN1
      have HCR2 := Lib.hid cR1
      have HFI := Lib.hid hfin
      have d0 := cN1 _ _ t0.stay
      have d1 := cR1 _ _ t0.stay
      have hqn := fun W => neq_nil_sheet_h W ⟨sb, 0, none⟩
      have HADD : Hid (∀ k, CallsIn Fence.wide k Tryz.prog 144 #[.pointer (some ⟨sb, 0, none⟩), .string s] A2 fun y A' => y = .returned (.tuple #[]) ∧ TailT J B c w A2 S Ls tb n sb q (fstF ch b) pg' (cntE n ch) (upd (fstF ch) b q) ([e]) h' G1 S3 A') := Lib.hid fun k => by rw [HSS.out]; exact tail_add hfin t0 HE.out (by omega) k
      have HEND : Hid (∀ S4 A4 G4, TailT J B c w A2 S Ls tb n sb q (fstF ch b) pg' (cntE n ch + 1) (upd (fstF ch) b q) ([e]) h' G4 S4 A4 → PutIs r n ch UL h G e h' G4 → (A4.frozen? ⟨N + 1, 0, none⟩ = false ∧ A4.cell? ⟨N + 1, 0, none⟩ = some (.int .i64 0)) ∧ (A4.setCell ⟨N + 1, 0, none⟩ (.int .i64 0)).heap[D]? = some (.deferred (some [])) ∧ ((A4.setCell ⟨N + 1, 0, none⟩ (.int .i64 0)).putObj D (.deferred none)).cell? ⟨N + 1, 0, none⟩ = some (.int .i64 0) ∧ HPutPost J B S c h G w r n ch UL e (.returned (.int .i64 0)) ((A4.setCell ⟨N + 1, 0, none⟩ (.int .i64 0)).putObj D (.deferred none))) := Lib.hid fun S4 A4 G4 t4 hp => by
        have mD := (hLs.out D).2 (by omega)
        have mV := (hLs.out (N + 1)).2 (by omega)
        have m1 := (t4.stay (N + 1) mV).2.trans kvR
        obtain ⟨e1, e2, e3, e4⟩ := end_set (D := D) (cv := N + 1) (v := .int .i64 0) t4.turn t4.act ⟨by omega, (t4.stay D mD).1, by omega⟩ ⟨by omega, (t4.stay _ mV).1, by omega⟩ (by omega) m1 ((t4.stay D mD).2.trans kdR)
        exact ⟨⟨Lib.frozen_of_heap m1 0, cellE m1⟩, e1, e2, S4, e3, .inr ⟨hnin, rfl, h', G4, e4, hp⟩⟩
      have cnt1 : ((cntE n ch + 1 : Nat) : Int) = (cntE n ch : Int) + 1 := by omega
      have cnt2 : IntKind.i64.wrap ((cntE n ch : Int) + 1) = (cntE n ch : Int) + 1 := IntWalk.i64_in _ (by omega)
      clear hfin t0 hq0 hpi0 kNR kvR kdR kcrR cN1 cR1 hA j2 j4 j7 nL kN hd nhbN hTA htA HLS2 tux x1 tk hps hsA hTA1 nsb ntb3 st1 kcr1 hkc kL hxR hlt2 nS3 HAA HGR hND hD hA2
      gi_wp2_with fail
      rw [← HA2.out]
      gi_wp2_with fail
      refine (HADD.out _).mono ?_
      rintro y Z1 ⟨rfl, t1⟩
      have d0 := HCN.out _ _ t1.stay
      have d1 := HCR2.out _ _ t1.stay
      have HWR : Hid (∀ k, CallsIn Fence.wide k Tryz.prog 145 #[.pointer (some ⟨hb, 0, none⟩), .pointer (some ⟨sb, 0, none⟩)] Z1 fun y A' => y = .returned (.tuple #[]) ∧ ∃ S', TailT J B c w A2 S Ls tb n sb q (fstF ch b) pg' (cntE n ch) (upd (fstF ch) b q) ([e]) h' (upd G1 q (shE (fstF ch b) ([e]))) S' A') := Lib.hid (tail_write HFI.out t1 HQ.out.1 hfit2 hnx HQ.out.2.1)
      clear t1 HADD
      gi_wp2_with fail
      refine (HWR.out _).mono ?_
      rintro y Z2 ⟨rfl, S4, t2⟩
      obtain ⟨_, _, u2⟩ := t2.tb.1.cells
      have u3 := t2.tb.1.frozen 2
      have HKP : Hid (∀ k, CallsIn Fence.wide k Tryz.prog 146 #[.pointer (some ⟨hb, 0, none⟩), .pointer (some ⟨tb, 0, none⟩)] (Z2.setCell ⟨tb, 2, none⟩ (.int .i64 ((cntE n ch : Int) + 1))) fun y A' => y = .returned (.tuple #[]) ∧ ∃ S', TailT J B c w A2 S Ls tb n sb q (fstF ch b) pg' (cntE n ch + 1) (upd (fstF ch) b q) ([e]) h' (upd (upd G1 q (shE (fstF ch b) ([e]))) pg' (tbE n (cntE n ch + 1) (upd (fstF ch) b q))) S' A') := Lib.hid (by
        rw [← cnt1]
        exact tail_keep HFI.out (tail_count HFI.out t2 (cntE n ch + 1)) HQ.out.2.2.1 (by rw [upd_other _ _ HQ.out.2.2.2.1]; exact HQ.out.2.2.2.2))
      clear t2 HWR d0 d1
      gi_wp2_with fail
      refine (HKP.out _).mono ?_
      rintro y Z3 ⟨rfl, S5, t3⟩
      obtain ⟨⟨e0, e9⟩, e1, e2, e3⟩ := HEND.out S5 Z3 _ t3 HPI.out
      have E1 := Lib.hid e1
      have E2 := Lib.hid e2
      have E3 := Lib.hid e3
      clear e1 e2 e3 t3 HKP u2 u3
      gi_wp2
      refine ⟨by simp, .inl ⟨_, _, rfl, run_takeDeferred E1.out, ?_⟩⟩
      exact ⟨_, results_err rfl _ _ (N + 1) _ rfl E2.out, E3.out⟩
    · have htl := hTA.lt
      have hsl := hsA.lt
      have hnl := (Array.getElem?_eq_some_iff.1 kN).1
      have hfin : TailF w A Ls c hb r tb sb := ⟨fun k hk => by
          rcases (hLs.out k).1 hk with rfl | rfl | rfl | rfl | rfl
          · exact ⟨htA.lt, by omega, fun e => by unfold HxAt at htA; unfold TbAt at hTA; rw [e, hTA] at htA; cases htA⟩
          all_goals exact ⟨by omega, by omega, by omega⟩, (hLs.out hb).2 (.inl rfl), htA, by omega, by omega⟩
      have t0 : TailT J B c w A S Ls tb n sb q nx (h.root r) (cntE n ch) (fstF ch) le h G S2 A := ⟨hA, j2, Stay.refl nL, ⟨hsA, nsb⟩, ⟨hTA, (j1 tb mtb).1⟩⟩
      have hc1 : ch (bktE n e.1) = p1 ++ (q, le) :: p2 := by rw [← HBB.out]; exact hch
      have hfit2 : (bodyE (le ++ [e])).length ≤ 510 := by rw [bodyE_snoc]; simp only [List.length_append, List.length_cons]; omega
      have hon1 := HON.out.on (bktE n e.1)
      rw [hc1] at hon1
      have hsh := (ChOn.app hon1).1
      have hnx2 : fstP p2 < 4096 := by
        cases p2 with
        | nil => show 0 < 4096; omega
        | cons y z => exact (hA.has_lt (ChOn.app hon1).2.1.has).2
      have hnxe : nx = fstP p2 := shE_next (l := le) (hGq.symm.trans hsh.is) hnx hnx2
      have hrt : h.root r ≠ 0 := fun h0 => by
        have := (HON.out.bare h0).2
        have hb1 : bktE n e.1 = 0 := by have := (HON.out.bare h0).1; have := HBB.out; omega
        rw [← hb1, hc1] at this
        cases p1 <;> cases this
      have htp := HON.out.tbl hrt
      have HQ : Hid (h.has q ∧ (G q).length = 512 ∧ h.has (h.root r) ∧ h.root r ≠ q ∧ (G (h.root r)).length = 512) := Lib.hid ⟨hsh.has, by rw [hGq]; exact shE_len (by omega), htp.1, fun e => hsh.ne e.symm, by rw [htp.2]; exact tbE_len _ _ _⟩
      have HPI : Hid (PutIs r n ch UL h G e h (upd (upd G q (shE nx (le ++ [e]))) (h.root r) (tbE n (cntE n ch + 1) (fstF ch)))) := Lib.hid (by rw [hnxe]; exact put_sheet HON.out hc1 HE.out hnin hfit2 hrt)
      have kNR := kN
      have kvR := j4
      have kdR := hd
      have kcrR := j7
      have HLS2 := hLs
      have cN1 : ∀ A' S', Stay A Ls S' A' → A'.cell? ⟨N, 0, none⟩ = some (.string s) := fun A' S' h => (h.cell ((hLs.out N).2 (.inr (.inl rfl))) 0).trans (cellE kNR)
      have cR1 : ∀ A' S', Stay A Ls S' A' → A'.cell? ⟨cr, 0, none⟩ = some (.pointer (some ⟨sb, 0, none⟩)) := fun A' S' h => (h.cell ((hLs.out cr).2 (by omega)) 0).trans (cellE kcrR)
      have HCN := Lib.hid cN1
      have HCR2 := Lib.hid cR1
      have HFI := Lib.hid hfin
      have d0 := cN1 _ _ t0.stay
      have d1 := cR1 _ _ t0.stay
      have hqn := fun W => neq_nil_sheet_h W ⟨sb, 0, none⟩
      have HADD : Hid (∀ k, CallsIn Fence.wide k Tryz.prog 144 #[.pointer (some ⟨sb, 0, none⟩), .string s] A fun y A' => y = .returned (.tuple #[]) ∧ TailT J B c w A S Ls tb n sb q nx (h.root r) (cntE n ch) (fstF ch) (le ++ [e]) h G S2 A') := Lib.hid fun k => by rw [HSS.out]; exact tail_add hfin t0 HE.out (by omega) k
      have HEND : Hid (∀ S4 A4 G4, TailT J B c w A S Ls tb n sb q nx (h.root r) (cntE n ch + 1) (fstF ch) (le ++ [e]) h G4 S4 A4 → PutIs r n ch UL h G e h G4 → (A4.frozen? ⟨N + 1, 0, none⟩ = false ∧ A4.cell? ⟨N + 1, 0, none⟩ = some (.int .i64 0)) ∧ (A4.setCell ⟨N + 1, 0, none⟩ (.int .i64 0)).heap[D]? = some (.deferred (some [])) ∧ ((A4.setCell ⟨N + 1, 0, none⟩ (.int .i64 0)).putObj D (.deferred none)).cell? ⟨N + 1, 0, none⟩ = some (.int .i64 0) ∧ HPutPost J B S c h G w r n ch UL e (.returned (.int .i64 0)) ((A4.setCell ⟨N + 1, 0, none⟩ (.int .i64 0)).putObj D (.deferred none))) := Lib.hid fun S4 A4 G4 t4 hp => by
        have mD := (hLs.out D).2 (by omega)
        have mV := (hLs.out (N + 1)).2 (by omega)
        have m1 := (t4.stay (N + 1) mV).2.trans kvR
        obtain ⟨e1, e2, e3, e4⟩ := end_set (D := D) (cv := N + 1) (v := .int .i64 0) t4.turn t4.act ⟨by omega, (t4.stay D mD).1, by omega⟩ ⟨by omega, (t4.stay _ mV).1, by omega⟩ (by omega) m1 ((t4.stay D mD).2.trans kdR)
        exact ⟨⟨Lib.frozen_of_heap m1 0, cellE m1⟩, e1, e2, S4, e3, .inr ⟨hnin, rfl, h, G4, e4, hp⟩⟩
      have cnt1 : ((cntE n ch + 1 : Nat) : Int) = (cntE n ch : Int) + 1 := by omega
      have cnt2 : IntKind.i64.wrap ((cntE n ch : Int) + 1) = (cntE n ch : Int) + 1 := IntWalk.i64_in _ (by omega)
      clear hfin t0 hc1 hon1 hsh hnx2 hnxe hrt htp kNR kvR kdR kcrR cN1 cR1 hA j1 j2 j3 j4 j5 j6 j7 nL kN hd nhbN hTA htA hch hsA nsb hGq HLS2 hND hD
      gi_wp2_with fail
      refine (HADD.out _).mono ?_
      rintro y Z1 ⟨rfl, t1⟩
      have d0 := HCN.out _ _ t1.stay
      have d1 := HCR2.out _ _ t1.stay
      have HWR : Hid (∀ k, CallsIn Fence.wide k Tryz.prog 145 #[.pointer (some ⟨hb, 0, none⟩), .pointer (some ⟨sb, 0, none⟩)] Z1 fun y A' => y = .returned (.tuple #[]) ∧ ∃ S', TailT J B c w A S Ls tb n sb q nx (h.root r) (cntE n ch) (fstF ch) (le ++ [e]) h (upd G q (shE nx (le ++ [e]))) S' A') := Lib.hid (tail_write HFI.out t1 HQ.out.1 hfit2 hnx HQ.out.2.1)
      clear t1 HADD
      gi_wp2_with fail
      refine (HWR.out _).mono ?_
      rintro y Z2 ⟨rfl, S4, t2⟩
      obtain ⟨_, _, u2⟩ := t2.tb.1.cells
      have u3 := t2.tb.1.frozen 2
      have HKP : Hid (∀ k, CallsIn Fence.wide k Tryz.prog 146 #[.pointer (some ⟨hb, 0, none⟩), .pointer (some ⟨tb, 0, none⟩)] (Z2.setCell ⟨tb, 2, none⟩ (.int .i64 ((cntE n ch : Int) + 1))) fun y A' => y = .returned (.tuple #[]) ∧ ∃ S', TailT J B c w A S Ls tb n sb q nx (h.root r) (cntE n ch + 1) (fstF ch) (le ++ [e]) h (upd (upd G q (shE nx (le ++ [e]))) (h.root r) (tbE n (cntE n ch + 1) (fstF ch))) S' A') := Lib.hid (by
        rw [← cnt1]
        exact tail_keep HFI.out (tail_count HFI.out t2 (cntE n ch + 1)) HQ.out.2.2.1 (by rw [upd_other _ _ HQ.out.2.2.2.1]; exact HQ.out.2.2.2.2))
      clear t2 HWR d0 d1
      gi_wp2_with fail
      refine (HKP.out _).mono ?_
      rintro y Z3 ⟨rfl, S5, t3⟩
      obtain ⟨⟨e0, e9⟩, e1, e2, e3⟩ := HEND.out S5 Z3 _ t3 HPI.out
      have E1 := Lib.hid e1
      have E2 := Lib.hid e2
      have E3 := Lib.hid e3
      clear e1 e2 e3 t3 HKP u2 u3
      gi_wp2
      refine ⟨by simp, .inl ⟨_, _, rfl, run_takeDeferred E1.out, ?_⟩⟩
      exact ⟨_, results_err rfl _ _ (N + 1) _ rfl E2.out, E3.out⟩
  case hL =>
    rintro j S2 pre A hpre ⟨rfl, h2, h3, h4, h5⟩ nD hd
    obtain ⟨D, hD⟩ : ∃ D, D = w5.heap.size := ⟨_, rfl⟩
    rw [← hD] at nD hd ⊢
    have hNN := HNN.out
    obtain ⟨e1, e2⟩ := end_put h2 h5 (D := D) ⟨by omega, nD, by omega⟩
    have c1 : (A.putObj D (.deferred none)).cell? ⟨N + 1, 0, none⟩ = some (.int .i64 160) := cellE ((World.putObj_heap_other (by omega)).trans h4)
    have hm : e ∈ entsC (ch (bktE n e.1)) := by
      obtain ⟨d, hd'⟩ := hpre
      have : entsC pre ++ entsC d = entsC (ch b) := by rw [← entsC_app, hd']; simp
      rw [← HBB.out, ← this]
      exact List.mem_append_left _ h3
    have HPP : Hid (HPutPost J B S c h G w r n ch UL e (.returned (.int .i64 160)) (A.putObj D (.deferred none))) := Lib.hid ⟨S2, e1, .inl ⟨hm, rfl, e2⟩⟩
    have HC1 := Lib.hid c1
    have HDD := Lib.hid hd
    clear h2 h3 h4 h5 nD hd e1 e2 c1 hm hpre
    gi_wp2
    refine ⟨by simp, .inl ⟨_, _, rfl, run_takeDeferred HDD.out, ?_⟩⟩
    exact ⟨_, results_err rfl _ _ (N + 1) _ rfl HC1.out, HPP.out⟩
end
end Go.Proofs.YtefddiikdamnbaaGreatDoor.Dm

/- Contract: Insert of an index, as long as a split does as it must. -/
set_option maxRecDepth 100000
namespace Go.Proofs.YtefddiikdamnbaaGreatDoor.Dm
open Go Go.RowKit

theorem belS {w1 W W' : World} (h : Below w1.heap.size w1 W) (k : Below W.heap.size W W') : Below w1.heap.size w1 W' := h.trans (k.mono h.size)
theorem belN {w1 W : World} (h : Below w1.heap.size w1 W) (k : Nat) : Below w1.heap.size w1 (W.drewN k) := belS h (below_drewN W k)
section
variable {J : List RawOp → Prop} {B : Nat} {S : Nat → Prop} {c : Ac} {h : Hd} {G : Nat → List UInt8} {w : World} {hb r n : Nat} {ch : Nat → Chn} {UL : List Nat} {x : En}
theorem put_h {e : Et} (x : ActV J B S c h G w) (ht : HxAt w hb c.a r) (hS : ¬ S hb) (hr : r < 16) (on : HxOn h G (h.root r) n ch UL) (hfew : cntE n ch + UL.length ≤ 4000) (he : InE e) :
    Calls Tryz.prog 90 #[.pointer (some ⟨hb, 0, none⟩), .string ⟨(heldE e).toArray⟩] w (HPutPost J B S c h G w r n ch UL e) := callsIn_wide.1 (put_in x ht hS hr on hfew he)
/-- What an index holds. -/
def Holds (ch : Nat → Chn) (y : Et) : Prop := ∃ b, y ∈ entsC (ch b)
theorem holds_bkt {top : Nat} (on : HxOn h G top n ch UL) (y : Et) : Holds ch y ↔ y ∈ entsC (ch (bktE n y.1)) := ⟨fun ⟨b, hb⟩ => by rw [on.bel b y hb]; exact hb, fun hy => ⟨_, hy⟩⟩
/-- Behind an insert: one entry more, and one bucket more where it grew dense. -/
def InsIs (r n : Nat) (ch : Nat → Chn) (UL : List Nat) (h : Hd) (G : Nat → List UInt8) (e : Et) (h' : Hd) (G' : Nat → List UInt8) : Prop :=
  ∃ n' ch', HxOn h' G' (h'.root r) n' ch' UL ∧ HxTo r UL h G h' G' ∧ h'.root r ≠ 0 ∧ (∀ y, Holds ch' y ↔ Holds ch y ∨ y = e) ∧ cntE n' ch' = cntE n ch + 1 ∧ n' = if 16 * n < cntE n ch + 1 ∧ n < 250 then n + 1 else n
/-- Behind a split: the same entries, in one bucket more. -/
def SplIs (r n : Nat) (ch : Nat → Chn) (UL : List Nat) (h : Hd) (G : Nat → List UInt8) (h' : Hd) (G' : Nat → List UInt8) : Prop :=
  ∃ ch', HxOn h' G' (h'.root r) (n + 1) ch' UL ∧ HxTo r UL h G h' G' ∧ h'.root r ≠ 0 ∧ (∀ y, Holds ch' y ↔ Holds ch y) ∧ cntE (n + 1) ch' = cntE n ch
/-- What Insert leaves. -/
def InsPost (J : List RawOp → Prop) (B : Nat) (S : Nat → Prop) (c : Ac) (h : Hd) (G : Nat → List UInt8) (w : World) (r n : Nat) (ch : Nat → Chn) (UL : List Nat) (e : Et) (y : Ending) (w' : World) : Prop :=
  ∃ S', Turn S w S' w' ∧ ((refusedE [1, 2] e ≠ 0 ∧ y = .returned (.int .i64 (refusedE [1, 2] e)) ∧ ActV J B S' c h G w') ∨ (InE e ∧ Holds ch e ∧ y = .returned (.int .i64 160) ∧ ActV J B S' c h G w') ∨
    (InE e ∧ ¬ Holds ch e ∧ y = .returned (.int .i64 0) ∧ ∃ h' G', ActV J B S' c h' G' w' ∧ InsIs r n ch UL h G e h' G'))
/-- What a split of an index is to do. -/
def SplitDoes (J : List RawOp → Prop) (B : Nat) (c : Ac) (hb r n : Nat) (UL : List Nat) : Prop :=
  ∀ S h G ch w, ActV J B S c h G w → HxAt w hb c.a r → ¬ S hb → HxOn h G (h.root r) n ch UL → h.root r ≠ 0 → cntE n ch + UL.length ≤ 4001 → n < 250 → Calls Tryz.prog 92 #[.pointer (some ⟨hb, 0, none⟩)] w fun y w' => y = .returned (.bool true) ∧ ∃ S' h' G', Turn S w S' w' ∧ ActV J B S' c h' G' w' ∧ SplIs r n ch UL h G h' G'
theorem ins_put {e : Et} {h' : Hd} {G' : Nat → List UInt8} (p : PutIs r n ch UL h G e h' G') : ∃ ch', HxOn h' G' (h'.root r) n ch' UL ∧ HxTo r UL h G h' G' ∧ h'.root r ≠ 0 ∧ (∀ y, Holds ch' y ↔ Holds ch y ∨ y = e) ∧ cntE n ch' = cntE n ch + 1 := by
  obtain ⟨ch', h1, h2, h3, h4, h5⟩ := p
  refine ⟨ch', h1, h2, h3, fun y => ⟨?_, ?_⟩, h5⟩
  · rintro ⟨b, hb⟩
    rcases (h4 b y).1 hb with h6 | ⟨_, h6⟩
    · exact .inl ⟨b, h6⟩
    · exact .inr h6
  · rintro (⟨b, hb⟩ | rfl)
    · exact ⟨b, (h4 b y).2 (.inl hb)⟩
    · exact ⟨_, (h4 (bktE n y.1) y).2 (.inr ⟨rfl, rfl⟩)⟩
set_option maxHeartbeats 6400000 in
theorem insert_h (act : ActV J B S c h G w) (ht : HxAt w hb c.a r) (hS : ¬ S hb) (hr : r < 16) (on : HxOn h G (h.root r) n ch UL) (hfew : cntE n ch + UL.length ≤ 4000) (hx : x.In w) (hsp : 16 * n < cntE n ch + 1 → SplitDoes J B c hb r n UL) :
    Calls Tryz.prog 42 #[.pointer (some ⟨hb, 0, none⟩), x.v] w (InsPost J B S c h G w r n ch UL x.c) := by
  obtain ⟨w1, hw1⟩ : ∃ w1, w1 = w.alloc (.cells #[.int .i64 x.k, .int .i64 x.n, .string x.s, .slice x.a x.xs.length x.lc, .int .i64 x.t] 84) := ⟨_, rfl⟩
  obtain ⟨gb, hgb⟩ : ∃ gb, gb = w.heap.size := ⟨_, rfl⟩
  have hb1 : Below w.heap.size w w1 := by rw [hw1]; exact (Below.refl _ _).alloc (Nat.le_refl _) _
  have hlt1 : gb < w1.heap.size := by rw [hw1, hgb, World.size_alloc]; exact Nat.lt_succ_self _
  have hrow : w1.heap[gb]? = some (.cells #[.int .i64 x.k, .int .i64 x.n, .string x.s, .slice x.a x.xs.length x.lc, .int .i64 x.t] 84 (0, 0)) := by rw [hw1, hgb]; exact heap_alloc_new w _
  obtain ⟨u, hu⟩ : ∃ u, u = refusedE [1, 2] x.c := ⟨_, rfl⟩
  have HRF : Hid (∀ W, Below w1.heap.size w1 W → Calls Tryz.prog 75 #[.pointer (some ⟨hb, 0, none⟩)] W fun e w' => e = .returned (.int .i64 0) ∧ ∃ k, w' = W.drewN k) := Lib.hid fun W hW => hx_live ((act.below hb1).below hW) ((ht.below hb1).below hW) hr
  have HRE : Hid (∀ W, Below w1.heap.size w1 W → Calls Tryz.prog 88 #[x.v] W fun e w' => e = .returned (.int .i64 u) ∧ Below W.heap.size W w') := Lib.hid fun W hW => by
    rw [hu]; exact refusesEntry_h (hx.below (belS hb1 hW))
  have HOR : Hid (∀ W b, W.heap[b]? = some (.cells #[.int .i64 0, .int .i64 u] 23 (0, 0)) → Calls Tryz.prog 83 #[.slice (some ⟨b, 0, none⟩) 2 2] W fun e w' => e = .returned (.int .i64 u) ∧ w' = W) := Lib.hid fun W b hh => by
    have := or_errs b 2 0 u W ((Lib.cell_of_heap hh _).trans rfl) ((Lib.cell_of_heap hh _).trans rfl)
    exact this
  have HAC : Hid (∀ W, Below w1.heap.size w1 W → ActV J B S c h G W ∧ HxAt W hb c.a r ∧ Turn S w S W) := Lib.hid fun W hW => ⟨(act.below hb1).below hW, (ht.below hb1).below hW, Turn.ofBelow (belS hb1 hW)⟩
  have HHB : Hid (hb < w.heap.size ∧ ¬ S hb) := Lib.hid ⟨ht.lt, hS⟩
  have HIN : Hid (u = 0 ↔ InE x.c) := Lib.hid (by rw [hu]; exact refE_zero (In_nums hx))
  have HXI : Hid (∀ W, Below w1.heap.size w1 W → x.In W) := Lib.hid fun W hW => hx.below (belS hb1 hW)
  have HHO : Hid (∀ W, Below w1.heap.size w1 W → InE x.c → Calls Tryz.prog 89 #[x.v] W fun e w' => e = .returned (.string ⟨(heldE x.c).toArray⟩) ∧ Below W.heap.size W w') := Lib.hid fun W hW hi => heldOf_h (hx.below (belS hb1 hW)) hi
  obtain ⟨ec, hec⟩ : ∃ ec, ec = x.c := ⟨_, rfl⟩
  rw [← hec] at hu HIN HHO ⊢
  have HUU := Lib.hid hu
  have HW1 := Lib.hid hw1
  have HGB := Lib.hid hgb
  have HB1 := Lib.hid hb1
  have HON := Lib.hid on
  have HSP := Lib.hid hsp
  clear hx act ht hS on hu hw1 hgb hb1 hec hsp
  obtain ⟨k, kn, s, a, xs, lc, t⟩ := x
  simp only [En.v] at HRE hrow HW1 HHO ⊢
  have c0 : w1.cell? ⟨gb, 0, none⟩ = some (.int .i64 k) := (Lib.cell_of_heap hrow _).trans rfl
  have c1 : w1.cell? ⟨gb, 1, none⟩ = some (.int .i64 kn) := (Lib.cell_of_heap hrow _).trans rfl
  have c2 : w1.cell? ⟨gb, 2, none⟩ = some (.string s) := (Lib.cell_of_heap hrow _).trans rfl
  have c3 : w1.cell? ⟨gb, 3, none⟩ = some (.slice a xs.length lc) := (Lib.cell_of_heap hrow _).trans rfl
  have c4 : w1.cell? ⟨gb, 4, none⟩ = some (.int .i64 t) := (Lib.cell_of_heap hrow _).trans rfl
  have HS : Hid (∀ W, Below w1.heap.size w1 W → (W.cell? ⟨gb, 0, none⟩ = some (.int .i64 k) ∧ W.cell? ⟨gb, 1, none⟩ = some (.int .i64 kn) ∧ W.cell? ⟨gb, 2, none⟩ = some (.string s) ∧ W.cell? ⟨gb, 3, none⟩ = some (.slice a xs.length lc) ∧ W.cell? ⟨gb, 4, none⟩ = some (.int .i64 t) ∧ Below w1.heap.size w1 W)) := Lib.hid fun W hb =>
    ⟨(hb.cell (p := ⟨gb, 0, none⟩) hlt1).trans c0, (hb.cell (p := ⟨gb, 1, none⟩) hlt1).trans c1, (hb.cell (p := ⟨gb, 2, none⟩) hlt1).trans c2, (hb.cell (p := ⟨gb, 3, none⟩) hlt1).trans c3, (hb.cell (p := ⟨gb, 4, none⟩) hlt1).trans c4, hb⟩
  have hu3 : u ≠ 0 ∨ u = 0 := by omega
  clear hrow
  go_enter Tryz.func42, Tryz.ntmps42
  go_wp2
  rw [← HW1.out, ← HGB.out]
  go_region_held (fun w' => w'.cell? ⟨gb, 0, none⟩ = some (.int .i64 k) ∧ w'.cell? ⟨gb, 1, none⟩ = some (.int .i64 kn) ∧ w'.cell? ⟨gb, 2, none⟩ = some (.string s) ∧ w'.cell? ⟨gb, 3, none⟩ = some (.slice a xs.length lc) ∧ w'.cell? ⟨gb, 4, none⟩ = some (.int .i64 t) ∧ Below w1.heap.size w1 w')
    ((refine HS.out _ ?_; first
      | exact Below.refl _ _
      | exact (Below.refl _ _).drew
      | exact belN (Below.refl _ _).drew _
      | exact belS (Below.refl _ _).drew hb2
      | exact belS (belN (Below.refl _ _).drew _) hb2
      | exact belN (belS (Below.refl _ _).drew hb2) _
      | exact below_drewN _ _
      | exact belS (below_drewN _ _) hb2
      | exact (belS (below_drewN _ _) hb2).alloc (belS (below_drewN _ _) hb2).size _
      | exact (belN (belS (Below.refl _ _).drew hb2) _).alloc (belN (belS (Below.refl _ _).drew hb2) _).size _))
    (first
    | (go_at_call 75; refine (HRF.out _ (by first | exact (Below.refl _ _).drew | exact belS (Below.refl _ _).drew hb2)).mono ?_; rintro e wf ⟨rfl, kk, hwf⟩; subst wf)
    | (go_at_call 88; refine (HRE.out _ (by first | exact (Below.refl _ _).drew | exact below_drewN _ _)).mono ?_; rintro e w2 ⟨rfl, hb2⟩)
    | (go_at_call 83; refine (HOR.out _ _ (heap_alloc_new _ _)).mono ?_; rintro e wf ⟨rfl, hwf⟩; subst wf))
  all_goals go_split_ands
  rename_i r0 r1 r2 r3 r4 hBW
  obtain ⟨W, hW⟩ : ∃ W, W = w2.alloc (.cells #[.int .i64 0, .int .i64 u] 23) := ⟨_, rfl⟩
  rw [← hW] at r0 r1 r2 r3 r4 hBW ⊢
  have HBW := Lib.hid hBW
  clear hW hBW hb2 HS HRF HRE HOR c0 c1 c2 c3 c4
  rcases hu3 with hu0 | hu0
  · have HP : Hid (InsPost J B S c h G w r n ch UL ec (.returned (.int .i64 u)) W) := Lib.hid (by
      obtain ⟨a1, a2, a3⟩ := HAC.out _ HBW.out
      exact ⟨S, a3, .inl ⟨by rw [← HUU.out]; exact hu0, by rw [← HUU.out], a1⟩⟩)
    clear HAC HIN HXI HHO HUU HSP
    go_wp2
    go_ret
    exact HP.out
  · have hi := HIN.out.1 hu0
    have HI := Lib.hid hi
    have HH3 := Lib.hid (HHO.out _ HBW.out hi)
    subst hu0
    clear hi HHO HIN
    go_wp2_with fail
    refine HH3.out.mono ?_
    rintro y w3 ⟨rfl, hb3⟩
    have HB3 := Lib.hid (belS HBW.out hb3)
    obtain ⟨a1, a2, a3⟩ := HAC.out _ HB3.out
    have HPU := Lib.hid (put_h a1 a2 HHB.out.2 hr HON.out hfew HI.out)
    have HT3 := Lib.hid (And.intro a2 a3)
    clear hb3 a1 a2 a3 HH3 HAC r0 r1 r2 r3 r4
    go_wp2_with fail
    refine HPU.out.mono ?_
    rintro y w4 ⟨S4, tu4, ⟨hm, rfl, x4⟩ | ⟨hnm, rfl, h', G', x4, hp⟩⟩
    · have HP : Hid (InsPost J B S c h G w r n ch UL ec (.returned (.int .i64 160)) w4) := Lib.hid ⟨S4, HT3.out.2.trans tu4, .inr (.inl ⟨HI.out, (holds_bkt HON.out _).2 hm, rfl, x4⟩)⟩
      clear tu4 hm x4 HPU HSP
      go_wp2
      go_ret
      exact HP.out
    · obtain ⟨ch', on', to', nz, hmem, hcnt⟩ := ins_put hp
      have hnb := on'.nb
      have ht4 := HT3.out.1.kept tu4.1 HHB.out.2
      have nhb4 : ¬ S4 hb := fun e => HHB.out.2 (tu4.2 hb HT3.out.1.lt e)
      have HTB := Lib.hid (table_on x4 ht4 nhb4 hr on' (by omega))
      have H4 := Lib.hid (And.intro (HT3.out.2.trans tu4) (And.intro hnm (And.intro on' (And.intro to' (And.intro nz (And.intro hmem (And.intro ht4 nhb4)))))))
      clear tu4 hnm x4 hp on' to' nz hmem ht4 nhb4 HPU
      go_wp2_with fail
      refine HTB.out.mono ?_
      rintro y w5 ⟨tb, S5, rfl, -, -, hT5, tu5, x5⟩
      have HDN := Lib.hid (isDense_h hT5 hnb.2)
      obtain ⟨t4, hnm, on', to', nz, hmem, ht4, nhb4⟩ := H4.out
      have ht5 := ht4.kept tu5.1 nhb4
      have nhb5 : ¬ S5 hb := fun e => nhb4 (tu5.2 hb ht4.lt e)
      have HFI : Hid (∀ kk, ¬ (16 * n < cntE n ch' ∧ n < 250) → InsPost J B S c h G w r n ch UL ec (.returned (.int .i64 0)) (w5.drewN kk)) := Lib.hid fun kk hd =>
        ⟨S5, (t4.trans tu5).trans (Turn.ofBelow (below_drewN w5 kk)), .inr (.inr ⟨HI.out, fun e => hnm ((holds_bkt HON.out _).1 e), rfl, h', G', x5.below (below_drewN w5 kk), n, ch', on', to', nz, hmem, hcnt, by rw [← hcnt, if_neg hd]⟩)⟩
      have HSL : Hid (∀ kk, 16 * n < cntE n ch' ∧ n < 250 → Calls Tryz.prog 92 #[.pointer (some ⟨hb, 0, none⟩)] (w5.drewN kk) fun y w' => y = .returned (.bool true) ∧ InsPost J B S c h G w r n ch UL ec (.returned (.int .i64 0)) w') := Lib.hid fun kk hd => by
        refine (HSP.out (by omega) S5 h' G' ch' _ (x5.below (below_drewN w5 kk)) (ht5.below (below_drewN w5 kk)) nhb5 on' nz (by omega) hd.2).mono ?_
        rintro y w' ⟨rfl, S6, h6, G6, tu6, x6, ch6, on6, to6, nz6, hm6, hc6⟩
        exact ⟨rfl, S6, ((t4.trans tu5).trans (Turn.ofBelow (below_drewN w5 kk))).trans tu6, .inr (.inr ⟨HI.out, fun e => hnm ((holds_bkt HON.out _).1 e), rfl, h6, G6, x6, n + 1, ch6, on6, to'.trans to6, nz6, fun z => (hm6 z).trans (hmem z), hc6.trans hcnt, by rw [← hcnt, if_pos hd]⟩)⟩
      clear hT5 tu5 x5 t4 hnm on' to' nz hmem ht4 nhb4 ht5 nhb5 HTB H4 HT3
      by_cases hd : 16 * n < cntE n ch' ∧ n < 250
      · have hde : decide (16 * n < cntE n ch' ∧ n < 250) = true := decide_eq_true hd
        rw [hde] at HDN
        have HS2 : Hid (∀ kk, Calls Tryz.prog 92 #[.pointer (some ⟨hb, 0, none⟩)] (w5.drewN kk) fun y w' => y = .returned (.bool true) ∧ InsPost J B S c h G w r n ch UL ec (.returned (.int .i64 0)) w') := Lib.hid fun kk => HSL.out kk hd
        clear hd hde HSL HFI
        go_wp2_with fail
        refine HDN.out.mono ?_
        rintro y w6 ⟨rfl, kk, hw6⟩
        subst w6
        go_wp2_with fail
        refine (HS2.out kk).mono ?_
        rintro y w7 ⟨rfl, hp7⟩
        have HP7 := Lib.hid hp7
        clear hp7 HS2 HDN
        go_wp2
        go_ret
        exact HP7.out
      · have hde : decide (16 * n < cntE n ch' ∧ n < 250) = false := decide_eq_false hd
        rw [hde] at HDN
        have HS2 : Hid (∀ kk, InsPost J B S c h G w r n ch UL ec (.returned (.int .i64 0)) (w5.drewN kk)) := Lib.hid fun kk => HFI.out kk hd
        clear hd hde HSL HFI
        go_wp2_with fail
        refine HDN.out.mono ?_
        rintro y w6 ⟨rfl, kk, hw6⟩
        subst w6
        go_wp2
        go_ret
        exact HS2.out kk
end
end Go.Proofs.YtefddiikdamnbaaGreatDoor.Dm
