/- Texts of the same proof, one behind the other: XBB. -/
import Derived.Test.YtefddiikdamnbaaGreatDoorMBM
import Derived.Test.YtefddiikdamnbaaGreatDoorMBN
import Derived.Deep.RegionHeld
/- Contract: the addresses of a key: the call's head, the table and the key's bytes. -/
set_option maxRecDepth 100000
namespace Go.Proofs.YtefddiikdamnbaaGreatDoor.Dm
open Go Go.RowKit Go.Shelf
attribute [local go_sem] Oper.semAt_some

/-- What is asked of an end, and that it is no panic. -/
def NoPan (Q : Exit → Act → World → Prop) : Exit → Act → World → Prop
  | .panic _, _, _ => False
  | e, a, w => Q e a w
theorem NoPan.to {Q : Exit → Act → World → Prop} {e : Exit} {a : Act} {w : World} (h : NoPan Q e a w) : Q e a w := by
  cases e with
  | panic c => exact h.elim
  | _ => exact h
theorem noPan_ret (Q : Exit → Act → World → Prop) (a : Act) (w : World) : NoPan Q .ret a w = Q .ret a w := rfl
theorem noPan_normal (Q : Exit → Act → World → Prop) (a : Act) (w : World) : NoPan Q .normal a w = Q .normal a w := rfl
attribute [local go_sem] noPan_ret noPan_normal
theorem keptA {S : Nat → Prop} {w W : World} (h : Kept S w W) (o : Obj) : Kept S w (W.alloc o) := h.trans (Kept.ofBelow (S := fun _ => False) ((Below.refl _ _).alloc (Nat.le_refl _) _)) (fun _ e => e.elim)
theorem keptB {S : Nat → Prop} {w W W' : World} (h : Kept S w W) (hb : Below W.heap.size W W') : Kept S w W' := h.trans (Kept.ofBelow (S := fun _ => False) hb) (fun _ e => e.elim)
theorem belA {w W : World} (h : Below w.heap.size w W) (o : Obj) : Below w.heap.size w (W.alloc o) := h.alloc h.size o
theorem belD {w W : World} (h : Below w.heap.size w W) : Below w.heap.size w W.drew := h.drew
section
variable {J : List RawOp → Prop} {B : Nat} {S : Nat → Prop} {c : Ac} {h : Hd} {G : Nat → List UInt8} {w : World} {hb r n : Nat} {ch : Nat → Chn} {UL : List Nat} {x : En}
theorem refK_key {d : Dt} (hn : d.nums) : refK d = 0 ↔ KeyE d := by
  unfold refK
  rw [refE_zero (c := (d, 0)) hn]
  exact ⟨fun h => h.1, fun h => ⟨h, by simp, by simp⟩⟩
/-- The table and the key's bytes in hand. -/
def Fd5 (J : List RawOp → Prop) (B : Nat) (S : Nat → Prop) (c : Ac) (h : Hd) (G : Nat → List UInt8) (W1 : World) (r n : Nat) (ch : Nat → Chn) (sk : ByteArray) (tb bb : Nat) (S1 : Nat → Prop) (wx : World) : Prop :=
  TbAt wx tb (h.root r) n (cntE n ch) (fstF ch) ∧ ¬ S1 tb ∧ W1.heap.size ≤ tb ∧ Turn S W1 S1 wx ∧ ActV J B S1 c h G wx ∧ wx.heap[bb]? = some (.cells #[.string sk] 9 (0, 0)) ∧ ¬ S1 bb ∧ W1.heap.size ≤ bb
theorem fd5_set {W1 X : World} {tb bb : Nat} {S1 : Nat → Prop} {sk : ByteArray} {v : Value} (hw : 1 ≤ W1.heap.size) (hT : TbAt X tb (h.root r) n (cntE n ch) (fstF ch)) (nst : ¬ S1 tb) (htb : W1.heap.size ≤ tb) (tu : Turn S W1 S1 X) (x : ActV J B S1 c h G X) (hq : X.heap[bb]? = some (.cells #[v] 9 (0, 0))) (nb : ¬ S1 bb) (hbb : W1.heap.size ≤ bb) :
    Fd5 J B S c h G W1 r n ch sk tb bb S1 (X.setCell ⟨bb, 0, none⟩ (.string sk)) := by
  have hk : Kept (fun k => k = bb) X (X.setCell ⟨bb, 0, none⟩ (.string sk)) := Kept.setCell (fun k => k = bb) X (b := bb) (i := 0) rfl _
  have ne : tb ≠ bb := fun e => by
    unfold TbAt at hT
    rw [e, hq] at hT
    exact absurd (Obj.cells.inj (Option.some.inj hT)).2.1 (by decide)
  exact ⟨hT.kept hk ne, nst, htb, tu.stepK hk (fun k e => .inr (by have e' : k = bb := e; omega)) (fun _ _ e => e), x.kept hk (fun k e _ => by have e' : k = bb := e; rw [e']; exact ⟨nb, by omega⟩), (heap_set_at hq 0 _).trans rfl, nb, hbb⟩
/-- What Find leaves. -/
def FdPost (J : List RawOp → Prop) (B : Nat) (S : Nat → Prop) (c : Ac) (h : Hd) (G : Nat → List UInt8) (w : World) (n : Nat) (ch : Nat → Chn) (d : Dt) (y : Ending) (w' : World) : Prop :=
  ∃ S' a m cp, y = .returned (.tuple #[.slice a (m : List Nat).length cp, .int .i64 (refK d)]) ∧ NumsI w' (.slice a m.length cp) m ∧ m.Pairwise (fun a b => a ≤ b) ∧ (refK d = 0 → m.Perm (tidsE (entsC (ch (bktE n d))) d)) ∧ (refK d ≠ 0 → m = []) ∧ Turn S w S' w' ∧ ActV J B S' c h G w' ∧ ∀ g, (Value.slice a m.length cp).ownBlock = some g → ¬ S' g
set_option maxHeartbeats 6400000 in
theorem find_ix (act : ActV J B S c h G w) (ht : HxAt w hb c.a r) (hS : ¬ S hb) (hr : r < 16) (on : HxOn h G (h.root r) n ch UL) (hfew : cntE n ch + UL.length ≤ 4001) (hx : Rob S w x.In) :
    CallsIn Fence.wide 30 Tryz.prog 43 #[.pointer (some ⟨hb, 0, none⟩), x.dv] w (FdPost J B S c h G w n ch x.d) := by
  obtain ⟨w1, hw1⟩ : ∃ w1, w1 = w.alloc (.cells #[.int .i64 x.k, .int .i64 x.n, .string x.s, .slice x.a x.xs.length x.lc] 81) := ⟨_, rfl⟩
  obtain ⟨gb, hgb⟩ : ∃ gb, gb = w.heap.size := ⟨_, rfl⟩
  have hb1 : Below w.heap.size w w1 := by rw [hw1]; exact (Below.refl _ _).alloc (Nat.le_refl _) _
  have hlt1 : gb < w1.heap.size := by rw [hw1, hgb, World.size_alloc]; exact Nat.lt_succ_self _
  have hrow : w1.heap[gb]? = some (.cells #[.int .i64 x.k, .int .i64 x.n, .string x.s, .slice x.a x.xs.length x.lc] 81 (0, 0)) := by rw [hw1, hgb]; exact heap_alloc_new w _
  obtain ⟨u, hu⟩ : ∃ u, u = refK x.d := ⟨_, rfl⟩
  have HRF : Hid (∀ W, Below w1.heap.size w1 W → Calls Tryz.prog 75 #[.pointer (some ⟨hb, 0, none⟩)] W fun e w' => e = .returned (.int .i64 0) ∧ ∃ k, w' = W.drewN k) := Lib.hid fun W hW => hx_live ((act.below hb1).below hW) ((ht.below hb1).below hW) hr
  have HRE : Hid (∀ W, Below w1.heap.size w1 W → Calls Tryz.prog 84 #[x.dv] W fun e w' => e = .returned (.int .i64 u) ∧ Below W.heap.size W w') := Lib.hid fun W hW => by
    rw [hu]; exact refusesKey_h (hx.now.below (belS hb1 hW))
  have HOR : Hid (∀ W b, W.heap[b]? = some (.cells #[.int .i64 0, .int .i64 u] 23 (0, 0)) → Calls Tryz.prog 83 #[.slice (some ⟨b, 0, none⟩) 2 2] W fun e w' => e = .returned (.int .i64 u) ∧ w' = W) := Lib.hid fun W b hh => by
    have := or_errs b 2 0 u W ((Lib.cell_of_heap hh _).trans rfl) ((Lib.cell_of_heap hh _).trans rfl)
    exact this
  have HAC : Hid (∀ W, Below w1.heap.size w1 W → ActV J B S c h G W ∧ HxAt W hb c.a r ∧ Turn S w S W) := Lib.hid fun W hW => ⟨(act.below hb1).below hW, (ht.below hb1).below hW, Turn.ofBelow (belS hb1 hW)⟩
  have HHB : Hid (hb < w.heap.size ∧ ¬ S hb ∧ ∀ k, S k → k < w.heap.size) := Lib.hid ⟨ht.lt, hS, fun k hk => (act.low k hk).2⟩
  have HIN : Hid (u = 0 ↔ KeyE x.d) := Lib.hid (by rw [hu]; exact refK_key (show x.d.nums from In_nums hx.now))
  have HXI : Hid (∀ W, Kept S w W → x.In W) := Lib.hid fun W hW => hx W hW
  obtain ⟨d, hd⟩ : ∃ d, d = x.d := ⟨_, rfl⟩
  have HBY : Hid (∀ W, Kept S w W → KeyE d → Calls Tryz.prog 94 #[x.dv] W fun y w' => y = .returned (.string ⟨d.kb.toArray⟩) ∧ Below W.heap.size W w') := Lib.hid fun W hW hk => by rw [hd] at hk ⊢; exact bytesOf_h (hx W hW) hk
  have HBO : Hid (∀ tb W, Kept S w W → KeyE d → TbAt W tb (h.root r) n (cntE n ch) (fstF ch) → Calls Tryz.prog 85 #[.pointer (some ⟨tb, 0, none⟩), x.dv] W fun y w' => y = .returned (.int .i64 (bktE n d : Nat)) ∧ Below W.heap.size W w') := Lib.hid fun tb W hW hk hT => by rw [hd] at hk ⊢; exact bucketOf_h hT on.nb.1 on.nb.2 (hx W hW) hk
  rw [← hd] at hu HIN ⊢
  have HUU := Lib.hid hu
  have HW1 := Lib.hid hw1
  have HGB := Lib.hid hgb
  have HB1 := Lib.hid hb1
  have HON := Lib.hid on
  clear hx act ht hS on hu hw1 hgb hb1 hd
  obtain ⟨k, kn, s, a, xs, lc, t⟩ := x
  simp only [En.dv] at HRE hrow HW1 HBY HBO ⊢
  have c0 : w1.cell? ⟨gb, 0, none⟩ = some (.int .i64 k) := (Lib.cell_of_heap hrow _).trans rfl
  have c1 : w1.cell? ⟨gb, 1, none⟩ = some (.int .i64 kn) := (Lib.cell_of_heap hrow _).trans rfl
  have c2 : w1.cell? ⟨gb, 2, none⟩ = some (.string s) := (Lib.cell_of_heap hrow _).trans rfl
  have c3 : w1.cell? ⟨gb, 3, none⟩ = some (.slice a xs.length lc) := (Lib.cell_of_heap hrow _).trans rfl
  have HS : Hid (∀ W, Below w1.heap.size w1 W → (W.cell? ⟨gb, 0, none⟩ = some (.int .i64 k) ∧ W.cell? ⟨gb, 1, none⟩ = some (.int .i64 kn) ∧ W.cell? ⟨gb, 2, none⟩ = some (.string s) ∧ W.cell? ⟨gb, 3, none⟩ = some (.slice a xs.length lc) ∧ Below w1.heap.size w1 W)) := Lib.hid fun W hb =>
    ⟨(hb.cell (p := ⟨gb, 0, none⟩) hlt1).trans c0, (hb.cell (p := ⟨gb, 1, none⟩) hlt1).trans c1, (hb.cell (p := ⟨gb, 2, none⟩) hlt1).trans c2, (hb.cell (p := ⟨gb, 3, none⟩) hlt1).trans c3, hb⟩
  have hu3 : u ≠ 0 ∨ u = 0 := by omega
  have HROW := Lib.hid hrow
  clear hrow
  refine callsIn_of_wp_marks Tryz.func43 rfl trivial (wpIn_mono (Q := NoPan (bodyPostM Fence.wide 30 Tryz.prog Tryz.f43 (FdPost J B S c h G w n ch d))) ?_ (fun _ _ _ h => h.to)) rfl
  simp only [Tryz.ntmps43, List.size_toArray, List.length_cons, List.length_nil, Nat.reduceAdd, Nat.reduceSub, Array.replicate_succ, Array.replicate_zero, List.push_toArray, List.append_toArray, List.nil_append, List.cons_append]
  refine wpIn_wide.2 ?_
  go_upto_region 1 with fail
  rw [← HW1.out, ← HGB.out]
  go_cut [6] from 13 to 18 (fun t6 wx => t6 = .int .i64 u ∧ Hid (Below w1.heap.size w1 wx))
  case first =>
    go_region_with (first
      | (go_at_call 75; refine (HRF.out _ (by first | exact (Below.refl _ _).drew | exact belS (Below.refl _ _).drew hb2)).mono ?_; rintro e wf ⟨rfl, kk, hwf⟩; subst wf)
      | (go_at_call 84; refine (HRE.out _ (by first | exact (Below.refl _ _).drew | exact below_drewN _ _)).mono ?_; rintro e w2 ⟨rfl, hb2⟩; obtain ⟨r0, r1, r2, r3, -⟩ := HS.out w2 (by first | exact belS (below_drewN _ _) hb2 | exact belS (Below.refl _ _).drew hb2))
      | (go_at_call 83; refine (HOR.out _ _ (heap_alloc_new _ _)).mono ?_; rintro e wf ⟨rfl, hwf⟩; subst wf))
    all_goals go_wp2
    all_goals go_meet
    all_goals refine ⟨by first | rfl | trivial, Lib.hid ?_⟩
    all_goals first
      | exact (belS (below_drewN _ _) hb2).alloc (belS (below_drewN _ _) hb2).size _
      | exact (belN (belS (Below.refl _ _).drew hb2) _).alloc (belN (belS (Below.refl _ _).drew hb2) _).size _
  case rest =>
  obtain ⟨rfl, HBW⟩ := hcut
  clear HS HRF HRE HOR c0 c1 c2 c3
  rcases hu3 with hu0 | hu0
  · have HP : Hid (FdPost J B S c h G w n ch d (.returned (.tuple #[.slice none 0 0, .int .i64 u])) wc) := Lib.hid (by
      obtain ⟨a1, a2, a3⟩ := HAC.out _ HBW.out
      exact ⟨S, none, [], 0, by rw [← HUU.out]; rfl, NumsI.nil wc, List.Pairwise.nil, fun e => absurd (HUU.out.trans e) hu0, fun _ => rfl, a3, a1, fun g hg => by simp [Value.ownBlock] at hg⟩)
    clear HAC HIN HXI HUU HBY HBO HROW
    go_wp2
    show bodyPostM Fence.wide 30 Tryz.prog Tryz.f43 _ .ret _ _
    exact ⟨_, by simp [results, Tryz.results43, go_sem], HP.out⟩
  · have hi := HIN.out.1 hu0
    have HI := Lib.hid hi
    have hu1 : refK d = 0 := by rw [← HUU.out]; exact hu0
    have HU1 := Lib.hid hu1
    subst hu0
    clear hi HIN hu1
    go_upto_region 5 with fail
    obtain ⟨W1, hW1⟩ : ∃ W1, W1 = wc.alloc (.cells #[.slice none 0 0] 57) := ⟨_, rfl⟩
    obtain ⟨bl, hbl⟩ : ∃ bl, bl = wc.heap.size := ⟨_, rfl⟩
    rw [← hW1, ← hbl]
    have hbw := HBW.out
    have hbW1 : Below w1.heap.size w1 W1 := by rw [hW1]; exact hbw.alloc hbw.size _
    have zW : W1.heap.size = bl + 1 := by rw [hW1, hbl, World.size_alloc]
    have kbl : W1.heap[bl]? = some (.cells #[.slice none 0 0] 57 (0, 0)) := by rw [hW1, hbl]; exact heap_alloc_new wc _
    have kgb := (hbW1.block gb hlt1).trans HROW.out
    have hgW : gb < W1.heap.size := Nat.lt_of_lt_of_le hlt1 hbW1.size
    have hgS : ¬ S gb := fun e => by have := HHB.out.2.2 gb e; have := HGB.out; omega
    have hblw : w.heap.size ≤ bl := by have := HB1.out.size; have := hbw.size; omega
    obtain ⟨a1, a2, a3⟩ := HAC.out _ hbW1
    have HKW : Hid (∀ W, Kept S W1 W → Kept S w W ∧ W.cell? ⟨gb, 0, none⟩ = some (.int .i64 k) ∧ W.cell? ⟨gb, 1, none⟩ = some (.int .i64 kn) ∧ W.cell? ⟨gb, 2, none⟩ = some (.string s) ∧ W.cell? ⟨gb, 3, none⟩ = some (.slice a xs.length lc) ∧ W.heap[bl]? = some (.cells #[.slice none 0 0] 57 (0, 0))) := Lib.hid fun W hW => by
      have k2 := (hW.block gb hgW hgS).trans kgb
      exact ⟨a3.1.trans hW (fun _ e => .inl e), (Lib.cell_of_heap k2 _).trans rfl, (Lib.cell_of_heap k2 _).trans rfl, (Lib.cell_of_heap k2 _).trans rfl, (Lib.cell_of_heap k2 _).trans rfl, (hW.block bl (by omega) (fun e => by have := HHB.out.2.2 bl e; omega)).trans kbl⟩
    have HSC : Hid (∀ W, Kept S W1 W → W.cell? ⟨gb, 0, none⟩ = some (.int .i64 k) ∧ W.cell? ⟨gb, 1, none⟩ = some (.int .i64 kn) ∧ W.cell? ⟨gb, 2, none⟩ = some (.string s) ∧ W.cell? ⟨gb, 3, none⟩ = some (.slice a xs.length lc) ∧ Kept S W1 W) := Lib.hid fun W hW => by
      obtain ⟨-, q0, q1, q2, q3, -⟩ := HKW.out W hW
      exact ⟨q0, q1, q2, q3, hW⟩
    have HTB : Hid (∀ W, Below W1.heap.size W1 W → Calls Tryz.prog 77 #[.pointer (some ⟨hb, 0, none⟩)] W (TbPost J B S c h G W (h.root r) n (cntE n ch) (fstF ch))) := Lib.hid fun W hW => table_on (a1.below hW) (a2.below hW) HHB.out.2.1 hr HON.out (by omega)
    have HA1 := Lib.hid (And.intro a1 (And.intro a2 a3))
    obtain ⟨-, e0, e1, e2, e3, -⟩ := HKW.out W1 (Kept.refl S W1)
    obtain ⟨sk, hsk⟩ : ∃ sk : ByteArray, sk = ⟨d.kb.toArray⟩ := ⟨_, rfl⟩
    have HSK := Lib.hid hsk
    rw [← hsk] at HBY
    have HBY2 : Hid (∀ W, Kept S W1 W → Calls Tryz.prog 94 #[.agg #[.int .i64 k, .int .i64 kn, .string s, .slice a xs.length lc]] W fun y w' => y = .returned (.string sk) ∧ Below W.heap.size W w') := Lib.hid fun W hW => HBY.out W (HKW.out W hW).1 HI.out
    have HZ := Lib.hid (And.intro zW (And.intro hgW (And.intro hgS hblw)))
    clear hW1 hbl hbw hbW1 zW kbl kgb hgW hgS hblw a1 a2 a3 hsk HAC HROW
    go_cut [8, 9] from 22 to 25 (fun t8 t9 wx => ∃ tb bb S1, t8 = .pointer (some ⟨tb, 0, none⟩) ∧ t9 = .pointer (some ⟨bb, 0, none⟩) ∧ Hid (Fd5 J B S c h G W1 r n ch sk tb bb S1 wx))
    case first =>
      obtain ⟨-, f0, f1, f2, f3, -⟩ := HKW.out (W1.alloc (.cells #[.string ⟨#[]⟩] 9)) (keptA (Kept.refl _ _) _)
      go_region_with (first
        | (go_at_call 77; refine (HTB.out _ (by first | exact (Below.refl _ _).drew | exact belD (belA (Below.refl _ _) _) | exact belA (Below.refl _ _).drew _)).mono ?_; rintro e w3 ⟨tb, S1, rfl, htb, nst, hT, tu, x3⟩; have k3 : Kept S W1 w3 := (Kept.ofBelow (by first | exact (Below.refl _ _).drew | exact belD (belA (Below.refl _ _) _) | exact belA (Below.refl _ _).drew _)).trans tu.1 (fun _ e => .inl e); obtain ⟨-, e0, e1, e2, e3, -⟩ := HKW.out w3 k3; (try (obtain ⟨-, e4, e5, e6, e7, -⟩ := HKW.out (w3.alloc (.cells #[.string ⟨#[]⟩] 9)) (keptA k3 _))))
        | (go_at_call 94; refine (HBY2.out _ (by first | exact k3 | exact keptA k3 _)).mono ?_; rintro e w4 ⟨rfl, hb2⟩; (try (have q0 : w4.heap[w3.heap.size]? = some (.cells #[.string ⟨#[]⟩] 9 (0, 0)) := (hb2.block w3.heap.size (by simp)).trans (heap_alloc_new w3 _); have q1 := cellE q0; have q2 := Lib.frozen_of_heap q0 0)); (try (have q0 : w4.heap[W1.heap.size]? = some (.cells #[.string ⟨#[]⟩] 9 (0, 0)) := (hb2.block W1.heap.size (by have := tu.1.size; simp at this; omega)).trans ((tu.1.block W1.heap.size (by simp) (fun e => by have := HHB.out.2.2 _ e; have := HZ.out.1; have := HZ.out.2.2.2; omega)).trans (heap_alloc_new W1 _)); have q1 := cellE q0; have q2 := Lib.frozen_of_heap q0 0))))
      all_goals go_wp2
      all_goals go_meet
      all_goals
        have z1 := tu.1.size
        have z3 := hb2.size
        have zz := HZ.out
        have hS1 : ∀ k, S1 k → k < w3.heap.size := fun k hk => (x3.low k hk).2
        have hS0 : ∀ k, S k → k < w.heap.size := HHB.out.2.2
        have hz1 : W1.heap.size ≤ tb := by
          have := htb
          simp at this
          omega
        simp at z1 z3
      all_goals first
        | (refine ⟨tb, w4.heap.size, S1, rfl, rfl, Lib.hid ⟨(hT.below hb2).below ((Below.refl _ _).alloc (Nat.le_refl _) _), nst, hz1, ((Turn.ofBelow (Below.refl _ _).drew).trans tu).trans (Turn.ofBelow (hb2.alloc hb2.size _)), (x3.below hb2).below ((Below.refl _ _).alloc (Nat.le_refl _) _), heap_alloc_new w4 _, fun e => by have := hS1 _ e; omega, by omega⟩⟩; done)
        | (refine ⟨tb, w3.heap.size, S1, rfl, rfl, Lib.hid (fd5_set (by omega) ((hT.below ((Below.refl _ _).alloc (Nat.le_refl _) _)).below hb2) nst hz1 (((Turn.ofBelow (Below.refl _ _).drew).trans tu).trans (Turn.ofBelow (((Below.refl _ _).alloc (Nat.le_refl _) _).trans (hb2.mono (by simp))))) ((x3.below ((Below.refl _ _).alloc (Nat.le_refl _) _)).below hb2) q0 (fun e => by have := hS1 _ e; omega) (by omega))⟩; done)
        | (refine ⟨tb, W1.heap.size, S1, rfl, rfl, Lib.hid (fd5_set (by omega) (hT.below hb2) nst hz1 (((Turn.ofBelow (((Below.refl _ _).alloc (Nat.le_refl _) _).drew)).trans tu).trans (Turn.ofBelow hb2)) (x3.below hb2) q0 (fun e => by have := tu.2 _ (by simp) e; have := hS0 _ this; omega) (Nat.le_refl _))⟩; done)
        | trace_state
    case rest =>
    obtain ⟨tb, bb, S1, rfl, rfl, H5⟩ := hcut
    obtain ⟨hT, nst, htb, tu, x5, q0, nbb, hbb⟩ := H5.out
    obtain ⟨k6, g0, g1, g2, g3, q1⟩ := HKW.out wc tu.1
    have hn1 := HON.out.nb
    obtain ⟨b, hbk⟩ : ∃ b, b = bktE n d := ⟨_, rfl⟩
    have HBK := Lib.hid hbk
    have hbn : b < n := by rw [hbk]; exact bkt_lt hn1.1 d
    have HBO2 : Hid (Calls Tryz.prog 85 #[.pointer (some ⟨tb, 0, none⟩), .agg #[.int .i64 k, .int .i64 kn, .string s, .slice a xs.length lc]] wc fun y w' => y = .returned (.int .i64 (b : Nat)) ∧ Below wc.heap.size wc w') := Lib.hid (by rw [hbk]; exact HBO.out tb wc k6 HI.out hT)
    have HSH : Hid (∀ W, Calls Tryz.prog 95 #[.pointer (some ⟨hb, 0, none⟩), .pointer (some ⟨tb, 0, none⟩), .int .i64 b] W fun e w' => ∃ i, e = .returned (.func (.func 177) #[] #[.pointer (some ⟨i + 1, 0, none⟩), .pointer (some ⟨i + 2, 0, none⟩), .pointer (some ⟨i, 0, none⟩)]) ∧ W.heap.size ≤ i ∧ IterAt w' hb tb b 1 (250 - b) i (i + 1) (i + 2) ∧ Below W.heap.size W w') := Lib.hid fun W => sheets_any hb tb b W (by omega)
    clear hT nst htb tu x5 q0 nbb hbb k6 q1 hbk HBO HBY HBY2 HTB HSC e0 e1 e2 e3
    go_wp2_with fail
    refine HBO2.out.mono ?_
    rintro y w6 ⟨rfl, hb6⟩
    have HB6 := Lib.hid hb6
    clear hb6 HBO2
    go_wp2_with fail
    refine (HSH.out w6).mono ?_
    rintro y w7 ⟨i, rfl, hi, hit, hb7⟩
    have HI7 := Lib.hid (And.intro hi (And.intro hit hb7))
    clear hi hit hb7 HSH g0 g1 g2 g3
    go_wp2_with fail
    obtain ⟨hT, nst, htb, tu, x5, q0, nbb, hbb⟩ := H5.out
    obtain ⟨hi, hit, hb7⟩ := HI7.out
    obtain ⟨ha1, ha2, ha3⟩ := HA1.out
    have hzz := HZ.out
    have hS0 := HHB.out.2.2
    have hNS := HHB.out.1
    have hb67 : Below wc.heap.size wc w7 := HB6.out.trans (hb7.mono HB6.out.size)
    have z67 := hb67.size
    have z6 := HB6.out.size
    have z7 := hb7.size
    have zt := tu.1.size
    obtain ⟨-, -, -, -, -, kbl⟩ := HKW.out w7 (keptB tu.1 hb67)
    have hT7 := hT.below hb67
    have hlT := hT.lt
    have ht7 := (ha2.kept tu.1 HHB.out.2.1).below hb67
    have x7 := x5.below hb67
    have q7 := (hb67.block bb (Array.getElem?_eq_some_iff.1 q0).1).trans q0
    have lbb := (Array.getElem?_eq_some_iff.1 q0).1
    have tu7 := (ha3.trans tu).trans (Turn.ofBelow hb67)
    obtain ⟨it1, it2, it3⟩ := id hit
    have li1 := (Array.getElem?_eq_some_iff.1 it1).1
    have li2 := (Array.getElem?_eq_some_iff.1 it2).1
    have li3 := (Array.getElem?_eq_some_iff.1 it3).1
    have nhb : ¬ S1 hb := fun e => HHB.out.2.1 (tu.2 hb (by omega) e)
    have nbl : ¬ S1 bl := fun e => by have := hS0 bl (tu.2 bl (by omega) e); omega
    have hup : ∀ j, wc.heap.size ≤ j → ¬ S1 j := fun j hj hs => by have := (x5.low j hs).2; omega
    have hlow1 := fun j (hj : S1 j) => (x7.low j hj).2
    obtain ⟨Ks, hKs⟩ : ∃ Ks : Nat → Prop, Hid (∀ j, Ks j ↔ (j = hb ∨ j = tb ∨ j = bb ∨ j = i ∨ j = i + 1 ∨ j = i + 2)) := ⟨fun j => j = hb ∨ j = tb ∨ j = bb ∨ j = i ∨ j = i + 1 ∨ j = i + 2, Lib.hid (fun _ => Iff.rfl)⟩
    have HKL : Hid (∀ j, Ks j → j < w7.heap.size) := Lib.hid fun j hj => by rcases (hKs.out j).1 hj with rfl | rfl | rfl | rfl | rfl | rfl <;> omega
    have hst7 : Stay w7 Ks S1 w7 := Stay.refl fun j hj => by
      rcases (hKs.out j).1 hj with rfl | rfl | rfl | rfl | rfl | rfl
      · exact nhb
      · exact nst
      · exact nbb
      · exact hup _ (by omega)
      · exact hup _ (by omega)
      · exact hup _ (by omega)
    have hnb : bl ≠ hb ∧ bl ≠ tb ∧ bl ≠ bb ∧ bl < i := ⟨by omega, by omega, by omega, by omega⟩
    have HNB := Lib.hid hnb
    have h0 : Stay w7 Ks S1 w7 ∧ Turn S w S1 w7 ∧ ¬ S1 bl ∧ NumCell bl (w7.heap.size + 3) S1 (tidsE (entsC []) d) w7 := ⟨hst7, tu7, nbl, _, kbl, NumsI.nil w7, fun g hg => by simp [Value.ownBlock] at hg⟩
    have hw7 : w.heap.size ≤ w7.heap.size := tu7.1.size
    have hbl7 : bl < w7.heap.size := by omega
    have hwbl : w.heap.size ≤ bl := by omega
    have h17 : 1 ≤ w7.heap.size := by omega
    have H7 := Lib.hid (And.intro hT7 (And.intro ht7 (And.intro hit q7)))
    have hpg : h.root r < 4096 := by
      by_cases hz : h.root r = 0
      · omega
      · exact (x7.has_lt (HON.out.tbl hz).1).2
    have hon : ChOn h G (h.root r) (ch b) := HON.out.on b
    have hndp : (pgsC (ch b)).Nodup := HON.out.nd b
    have hbn2 := hn1.2
    have hcnt : (entsC (ch b)).length ≤ 4001 := by have := cntE_ge (ch := ch) hbn; omega
    have hmx : Tryz.prog.follows .mixedOrders = true := by kernel_rfl
    have HLW := Lib.hid hlow1
    clear hT nst htb tu x5 q0 nbb hbb hi hit hb7 ha1 ha2 ha3 hzz hS0 hNS hb67 z67 z6 z7 zt kbl hT7 hlT ht7 q7 lbb tu7 it1 it2 it3 li1 li2 li3 nhb nbl hup hst7 hnb H5 HI7 HA1 HZ HKW HB6 hlow1
    refine (wpIn_wide (n := 29)).1 ?_
    refine range_along (d := 28) (hb := hb) (r := r) (tb := tb) (o := b) (m := 1) (cp := 250 - b) (b1 := i) (b2 := i + 1) (b3 := i + 2) (pg := h.root r) (nb := n) (cnt := cntE n ch) (F := fstF ch) (cs := [ch b]) (by omega) rfl (by omega) ?hF ?hon ?hnd hpg rfl rfl (fun j => j = bl)
      (fun S' pre A => Stay w7 Ks S' A ∧ Turn S w S' A ∧ ¬ S' bl ∧ NumCell bl (w7.heap.size + 3) S' (tidsE (entsC pre) d) A) (fun _ _ _ _ => False) S1 ?hC ?hw1 ?hI ?hJ ?hX ?hR ?hE ?hL x7 h0
    case hF =>
      intro j hj
      have : j = 0 := by simpa using hj
      subst this
      rfl
    case hon =>
      intro d hd
      rw [List.mem_singleton.1 hd]; exact hon
    case hnd => simpa using hndp
    case hC => rintro j rfl; omega
    case hw1 => omega
    case hI =>
      rintro S2 pre A ⟨h1, _⟩
      obtain ⟨hT5, ht5, hit5, _⟩ := H7.out
      have m1 := (hKs.out hb).2 (.inl rfl)
      exact ⟨h1.hx m1 ht5, (h1 hb m1).1, h1.it ((hKs.out i).2 (by omega)) ((hKs.out (i + 1)).2 (by omega)) ((hKs.out (i + 2)).2 (by omega)) hit5, h1.tb ((hKs.out tb).2 (.inr (.inl rfl))) hT5⟩
    case hJ =>
      rintro S2 A S3 A' pre hA ⟨h1, h2, h3, h4⟩ hk hs hA'
      have l2 : bl < A.heap.size := by obtain ⟨v, hv, _⟩ := h4; exact (Array.getElem?_eq_some_iff.1 hv).1
      exact ⟨h1.step HKL.out hk (fun j hj e => e.elim id (fun e => by have := HKL.out j hj; omega)) hs, h2.stepK hk (fun j e => e.imp id (fun e => by omega)) hs, fun e => h3 (hs _ l2 e), h4.step hk (fun e => e.elim h3 (fun e => by omega)) (fun g g1 g2 _ e => e.elim g1 (fun e => by omega)) hs⟩
    case hX => rintro j S2 pre A A' hf; exact hf.elim
    case hL => rintro j S2 pre A hpre hf; exact hf.elim
    case hE =>
      rintro S2 A hA ⟨h1, h2, h3, h4⟩ nD hd hsz
      obtain ⟨v, hv, hn, hg⟩ := h4
      have hfl : [ch b].flatten = ch b := by simp
      rw [hfl] at hn
      obtain ⟨D, hD⟩ : ∃ D, D = w7.heap.size := ⟨_, rfl⟩
      rw [← hD] at hg nD hd hsz ⊢
      obtain ⟨av, cv, rfl⟩ := hn.shape
      have hso := sort7 hn (by have := tidsE_len (entsC (ch b)) d; omega)
      obtain ⟨m, hm⟩ : ∃ m, m = (tidsE (entsC (ch b)) d).length := ⟨_, rfl⟩
      have HM := Lib.hid hm
      rw [← hm] at hso hv hn hg
      have c1 := cellE hv
      have HSO := Lib.hid hso
      have HEA := Lib.hid (And.intro hA (And.intro h2 (And.intro h3 (And.intro hv (And.intro hg (And.intro nD hd))))))
      have HD := Lib.hid hD
      clear hA h1 h2 h3 hv hn hg nD hd hso hm hD hfl
      go_wp2_with fail
      refine HSO.out.mono ?_
      rintro y A2 ⟨rfl, P, hp1, hp2, hp3, hk⟩
      obtain ⟨hA, h2, h3, hv, hg, nD, hd⟩ := HEA.out
      have hDe := HD.out
      have hv2 := (hk.block bl (Array.getElem?_eq_some_iff.1 hv).1 (fun e => by have := (hg bl e).2; omega)).trans hv
      have c2 := cellE hv2
      have hA2 : ActV J B S2 c h G A2 := hA.kept hk (fun j e _ => ⟨(hg j e).1, by have := (hg j e).2; omega⟩)
      have h22 : Turn S w S2 A2 := h2.stepK hk (fun j e => .inr (by have := (hg j e).2; omega)) (fun _ _ e => e)
      have hd2 := (hk.block D (Array.getElem?_eq_some_iff.1 hd).1 (fun e => by have := (hg D e).2; omega)).trans hd
      have hpl : P.length = m := by rw [HM.out]; exact hp1.length_eq
      have hn3 : NumsI (A2.putObj D (.deferred none)) (.slice av P.length cv) P := by
        rw [hpl]
        exact hp3.kept (kept_put A2 D _) (fun g hgg e => by have := (hg g hgg).2; have e' : g = D := e; omega)
      obtain ⟨e1, e2⟩ := end_put (D := D) h22 hA2 ⟨by omega, nD, by omega⟩
      have HPP : Hid (FdPost J B S c h G w n ch d (.returned (.tuple #[.slice av m cv, .int .i64 0])) (A2.putObj D (.deferred none))) := Lib.hid ⟨S2, av, P, cv, by rw [hpl, HU1.out], hn3, hp2, fun _ => by rw [← HBK.out]; exact hp1, fun e => absurd HU1.out e, e1, e2, fun g hgg => by rw [hpl] at hgg; exact (hg g hgg).1⟩
      have HDD := Lib.hid hd2
      clear hA h2 h3 hv hg nD hd hDe hv2 hA2 h22 hd2 hpl hn3 e1 e2 hp1 hp2 hp3 hk HEA HSO c1
      go_wp2
      show bodyPostM Fence.wide 30 Tryz.prog Tryz.f43 _ .ret _ _
      refine ⟨by simp, .inl ⟨_, _, rfl, run_takeDeferred HDD.out, ?_⟩⟩
      exact ⟨_, by simp [results, Tryz.results43, go_sem], HPP.out⟩
    case hR =>
      rintro S2 pre q le nx sb A A' hA ⟨j1, j2, j3, j4⟩ hpf hsh hnx hs nsb hsb ⟨r₀, hlr⟩
      have hpf' : pre ++ [(q, le)] <+: ch b := by simpa using hpf
      have hsl := hs.lt
      have HEN : Hid (∀ k, CallsIn Fence.wide k Tryz.prog 78 #[.pointer (some ⟨sb, 0, none⟩)] A' fun e w' => e = .returned (.func (.func 128) #[] #[.pointer (some ⟨A'.heap.size, 0, none⟩)]) ∧ w' = A'.alloc (.cells #[.pointer (some ⟨sb, 0, none⟩)] 144)) := Lib.hid fun k => callsIn_wide.2 (entries_any sb A')
      have hF1 : Fence.wide.fn 78 := trivial
      have hF2 : Fence.wide.fn 96 := trivial
      have hF3 : Fence.wide.fn 97 := trivial
      have HJJ := Lib.hid (And.intro hA (And.intro j1 (And.intro j2 (And.intro j3 (And.intro j4 (And.intro hpf' (And.intro hsh (And.intro hs (And.intro nsb hlr)))))))))
      clear hA j1 j2 j3 j4 hpf hpf' hsh hs nsb hlr
      gi_wp2_with fail
      refine ⟨by first | rfl | trivial, ?_⟩
      gi_wp2_with fail
      refine (CallsIn.inRound _ (HEN.out _)).mono ?_
      rintro y A2 ⟨rfl, hA2⟩
      have HA2 := Lib.hid hA2
      clear hA2
      gi_wp2_with fail
      obtain ⟨hA, j1, j2, j3, j4, hpf', hsh, hs, nsb, hlr⟩ := HJJ.out
      have hA2 := HA2.out
      have z2 : A2.heap.size = A'.heap.size + 1 := by rw [hA2, World.size_alloc]
      have hbA2 : Below A'.heap.size A' A2 := by rw [hA2]; exact (Below.refl _ _).alloc (Nat.le_refl _) _
      have hbx2 : A2.heap[A'.heap.size]? = some (.cells #[.pointer (some ⟨sb, 0, none⟩)] 144 (0, 0)) := by rw [hA2]; exact heap_alloc_new A' _
      have hlr2 := (hbA2.block _ (Array.getElem?_eq_some_iff.1 hlr).1).trans hlr
      have hll := (Array.getElem?_eq_some_iff.1 hlr).1
      have hlowS2 : ∀ j, S2 j → j < A'.heap.size := fun j hj => (hA.low j hj).2
      have hle : ∀ k, (tidsE (entsC pre ++ le.take k) d).length ≤ 1000000 := fun k => by
        have h1 := tidsE_len (entsC pre ++ le.take k) d
        obtain ⟨dd, hdd⟩ := hpf'
        have h2 : (entsC (pre ++ [(q, le)])).length ≤ (entsC (ch b)).length := by rw [← hdd, entsC_app (pre ++ [(q, le)])]; simp
        have h3 : entsC (pre ++ [(q, le)]) = entsC pre ++ le := by rw [entsC_app]; simp [entsC]
        rw [h3, List.length_append] at h2
        rw [List.length_append, List.length_take] at h1
        omega
      have hF0 : ActV J B S2 c h G A2 ∧ Kept (fun j => j = bl ∨ (w7.heap.size + 3 ≤ j ∧ j ≠ sb)) A' A2 ∧ A2.heap[A'.heap.size]? = some (.cells #[.pointer (some ⟨sb, 0, none⟩)] 144 (0, 0)) ∧ NumCell bl (w7.heap.size + 3) S2 (tidsE (entsC pre ++ le.take 0) d) A2 :=
        ⟨hA.below hbA2, Kept.ofBelow hbA2, hbx2, by rw [List.take_zero, List.append_nil]; exact j4.step (Kept.ofBelow (S := fun _ => False) hbA2) (fun e => e) (fun _ _ _ _ e => e) (fun _ _ e => e)⟩
      have HFE : Hid (∀ A, ActV J B S2 c h G A ∧ Kept (fun j => j = bl ∨ (w7.heap.size + 3 ≤ j ∧ j ≠ sb)) A' A ∧ A.heap[A'.heap.size]? = some (.cells #[.pointer (some ⟨sb, 0, none⟩)] 144 (0, 0)) ∧ NumCell bl (w7.heap.size + 3) S2 (tidsE (entsC pre ++ le.take le.length) d) A →
          ∃ S', TurnX (fun j => j = bl ∨ (w7.heap.size + 3 ≤ j ∧ j ≠ sb)) S2 A' S' A ∧ ActV J B S' c h G A ∧ Stay w7 Ks S' A ∧ Turn S w S' A ∧ ¬ S' bl ∧ NumCell bl (w7.heap.size + 3) S' (tidsE (entsC (pre ++ [(q, le)])) d) A) := Lib.hid fun A ⟨f1, f2, f3, f4⟩ => by
        have h3 : entsC (pre ++ [(q, le)]) = entsC pre ++ le := by rw [entsC_app]; simp [entsC]
        rw [List.take_length] at f4
        exact ⟨S2, ⟨f2.mono (fun _ e => .inr e), fun _ _ e => e⟩, f1, j1.step HKL.out f2 (fun j hj e => by
          have h4 := HKL.out j hj
          have h5 := (hKs.out j).1 hj
          have h6 := HNB.out
          rcases e with e | e
          · omega
          · omega) (fun _ _ e => e), j2.stepK f2 (fun j e => .inr (by omega)) (fun _ _ e => e), j3, by rw [h3]; exact f4⟩
      have HHS := Lib.hid (And.intro hs (And.intro hsh.fit hsh.ok))
      have HC0 : Hid (∀ A, Kept (fun j => j = bl ∨ (w7.heap.size + 3 ≤ j ∧ j ≠ sb)) A' A → A.cell? ⟨bb, 0, none⟩ = some (.string sk)) := Lib.hid fun A hk => by
        have mbb := (hKs.out bb).2 (by omega)
        have h4 := HKL.out bb mbb
        have h6 := HNB.out
        have h7 := (hk.block bb (j1.lt mbb h4) (fun e => by omega)).trans ((j1 bb mbb).2.trans H7.out.2.2.2)
        exact cellE h7
      have HLS := Lib.hid hlowS2
      have HN3 : Hid (¬ S2 bl) := Lib.hid j3
      have HLE := Lib.hid hle
      have hfit := hsh.fit
      have hok := hsh.ok
      clear j1 j2 j3 j4 hpf' hsh nsb hA2 hbA2 hbx2 hlr hA HJJ HA2 HEN hlowS2 hle
      refine range_entries (d := 24) (sb := sb) (q := q) (nx := nx) (bx := A'.heap.size) (l₀ := w7.heap.size + 1) (r₀ := r₀) (le := le) (by omega) hfit hok rfl hlr2 rfl
        (fun k A => ActV J B S2 c h G A ∧ Kept (fun j => j = bl ∨ (w7.heap.size + 3 ≤ j ∧ j ≠ sb)) A' A ∧ A.heap[A'.heap.size]? = some (.cells #[.pointer (some ⟨sb, 0, none⟩)] 144 (0, 0)) ∧ NumCell bl (w7.heap.size + 3) S2 (tidsE (entsC pre ++ le.take k) d) A) (fun _ _ _ => False) ?eI ?eJ ?eX ?eR ?eE ?eL hF0
      case eI =>
        rintro k A ⟨f1, f2, f3, f4⟩
        exact ⟨HHS.out.1.kept f2 (fun e => by omega), cellE f3⟩
      case eJ =>
        rintro k A B' ⟨f1, f2, f3, f4⟩ hlp hk
        have hn1 : A'.heap.size ≤ A2.heap.size := by omega
        refine ⟨f1.kept hk (fun j e _ => by have e' : j = A2.heap.size := e; rw [e']; exact ⟨fun hs => by have := HLS.out _ hs; omega, by omega⟩), f2.trans hk (fun j e => .inr (by have e' : j = A2.heap.size := e; omega)), (hk.block _ (Array.getElem?_eq_some_iff.1 f3).1 (fun e => by have e' : A'.heap.size = A2.heap.size := e; omega)).trans f3, f4.step hk (fun e => by have e' : bl = A2.heap.size := e; omega) (fun g _ _ hc e => ?_) (fun _ _ e => e)⟩
        have e' : g = A2.heap.size := e
        obtain ⟨cur, hc⟩ := hc
        rw [e'] at hc
        rcases hlp with hlp | ⟨rr, hlp⟩
        · have := (Array.getElem?_eq_some_iff.1 hc).1
          omega
        · rw [hlp] at hc; cases hc
      case eX => rintro j k A B' hf; exact hf.elim
      case eL => rintro j k A hk hf; exact hf.elim
      case eE =>
        rintro A hf
        have HFF := Lib.hid (HFE.out A hf)
        clear hf HFE
        gi_wp2
        exact HFF.out
      case eR =>
        rintro k ce A3 A4 hce ⟨f1, f2, f3, f4⟩ ⟨rl, hrl⟩
        have hic := hok ce (List.mem_of_getElem? hce)
        obtain ⟨t, ht⟩ : ∃ t : ByteArray, t = ⟨(heldE ce).toArray⟩ := ⟨_, rfl⟩
        obtain ⟨z, hz⟩ : ∃ z, z = offE le k := ⟨_, rfl⟩
        rw [← ht, ← hz]
        have g0 := HC0.out A4 f2
        have HIS : Hid (∀ j, CallsIn Fence.wide j Tryz.prog 96 #[.string t, .string sk] A4 fun y w' => y = .returned (.bool (decide (ce.1 = d))) ∧ ∃ k, w' = A4.drewN k) := Lib.hid fun j => callsIn_wide.2 (by rw [ht, HSK.out]; exact isOf_h ce d hic.1 HI.out A4)
        obtain ⟨y0, hy0⟩ : ∃ y0, y0 = ce.2.toNat := ⟨_, rfl⟩
        have HTD : Hid (∀ j W, CallsIn Fence.wide j Tryz.prog 97 #[.string t] W fun y w' => y = .returned (.int .i64 (y0 : Nat)) ∧ ∃ k, w' = W.drewN k) := Lib.hid fun j W => callsIn_wide.2 (by
          rw [ht, hy0, show ((ce.2.toNat : Nat) : Int) = ce.2 from Int.toNat_of_nonneg hic.2.1]
          exact tidOf_h ce hic W)
        have HLP : Hid (∀ W, Below A4.heap.size A4 W → (ActV J B S2 c h G W ∧ Kept (fun j => j = bl ∨ (w7.heap.size + 3 ≤ j ∧ j ≠ sb)) A' W ∧ W.heap[A'.heap.size]? = some (.cells #[.pointer (some ⟨sb, 0, none⟩)] 144 (0, 0)) ∧ NumCell bl (w7.heap.size + 3) S2 (tidsE (entsC pre ++ le.take k) d) W)) := Lib.hid fun W hW =>
          ⟨f1.below hW, f2.trans (Kept.ofBelow (S := fun _ => False) hW) (fun _ e => e.elim), (hW.block _ (Array.getElem?_eq_some_iff.1 f3).1).trans f3, f4.step (Kept.ofBelow (S := fun _ => False) hW) (fun e => e) (fun _ _ _ _ e => e) (fun _ _ e => e)⟩
        have hz4 : w7.heap.size + 3 ≤ A4.heap.size := by have := f2.size; omega
        have htk := tidsE_take (l := entsC pre) (d := d) hce
        rw [← hy0] at htk
        have HGO : Hid (ce.1 ≠ d → ∀ W, Below A4.heap.size A4 W → W.heap[A2.heap.size]? = A4.heap[A2.heap.size]? ∧ ActV J B S2 c h G W ∧ Kept (fun j => j = bl ∨ (w7.heap.size + 3 ≤ j ∧ j ≠ sb)) A' W ∧ W.heap[A'.heap.size]? = some (.cells #[.pointer (some ⟨sb, 0, none⟩)] 144 (0, 0)) ∧ NumCell bl (w7.heap.size + 3) S2 (tidsE (entsC pre ++ le.take (k + 1)) d) W) := Lib.hid fun hne W hW => by
          obtain ⟨p1, p2, p3, p4⟩ := HLP.out W hW
          rw [if_neg hne, List.append_nil] at htk
          exact ⟨hW.block _ (Array.getElem?_eq_some_iff.1 hrl).1, p1, p2, p3, by rw [htk]; exact p4⟩
        obtain ⟨vl, hvl⟩ : ∃ v, A4.heap[bl]? = some (.cells #[v] 57 (0, 0)) := by obtain ⟨v, h1, _⟩ := f4; exact ⟨v, h1⟩
        obtain ⟨av, mv, cv, hvs⟩ : ∃ a m c, vl = .slice a m c := by
          obtain ⟨v, h1, h2, _⟩ := f4
          rw [h1] at hvl
          cases hvl
          obtain ⟨a, c, h3⟩ := h2.shape
          exact ⟨a, _, c, h3⟩
        subst hvs
        have HPU : Hid (ce.1 = d → ∀ W, Below A4.heap.size A4 W → ∃ a n cp w', (Builtin.append_ #[57, 57] 57 #[.slice av mv cv, .slice (some ⟨W.heap.size, 0, none⟩) 1 1]).run Tryz.prog (W.alloc (.cells #[.int .i64 (y0 : Nat)] 3)) = .ok (.slice a n cp) w' ∧ w'.cell? ⟨bl, 0, none⟩ = some (.slice av mv cv) ∧ w'.frozen? ⟨bl, 0, none⟩ = false ∧
            ((w'.setCell ⟨bl, 0, none⟩ (.slice a n cp)).heap[A2.heap.size]? = A4.heap[A2.heap.size]? ∧ ActV J B S2 c h G (w'.setCell ⟨bl, 0, none⟩ (.slice a n cp)) ∧ Kept (fun j => j = bl ∨ (w7.heap.size + 3 ≤ j ∧ j ≠ sb)) A' (w'.setCell ⟨bl, 0, none⟩ (.slice a n cp)) ∧ (w'.setCell ⟨bl, 0, none⟩ (.slice a n cp)).heap[A'.heap.size]? = some (.cells #[.pointer (some ⟨sb, 0, none⟩)] 144 (0, 0)) ∧ NumCell bl (w7.heap.size + 3) S2 (tidsE (entsC pre ++ le.take (k + 1)) d) (w'.setCell ⟨bl, 0, none⟩ (.slice a n cp)))) := Lib.hid fun hde W hW => by
          obtain ⟨p1, p2, p3, p4⟩ := HLP.out W hW
          have hvW := (hW.block bl (Array.getElem?_eq_some_iff.1 hvl).1).trans hvl
          obtain ⟨a, n', cp, w', hr1, c1, c2, n1, k1⟩ := p4.push (by have := hW.size; omega) (by omega) (fun j hj => (p1.low j hj).2) (HLE.out k) y0 57 hvW
          rw [if_pos hde] at htk
          rw [← htk] at n1
          have hlW : W.heap[A2.heap.size]? = some (.loop rl) := (hW.block _ (Array.getElem?_eq_some_iff.1 hrl).1).trans hrl
          have hsW := HHS.out.1.kept p2 (fun e => by omega)
          have nS2 : ∀ j, j = bl ∨ (w7.heap.size + 3 ≤ j ∧ ¬ S2 j ∧ ∃ cur, W.heap[j]? = some (.cells cur 3 (0, 0))) → ¬ S2 j ∧ 1 ≤ j := fun j hj => ⟨fun hs => by
            rcases hj with rfl | ⟨_, hj, _⟩
            · exact HN3.out hs
            · exact hj hs, by have := HHB.out.1; omega⟩
          refine ⟨a, n', cp, w', hr1, c1, c2, ?_, p1.kept k1 (fun j hj _ => nS2 j hj), p2.trans k1 (fun j hj => ?_), (k1.block _ (Array.getElem?_eq_some_iff.1 p3).1 (fun e => ?_)).trans p3, n1⟩
          · rw [k1.block _ (Array.getElem?_eq_some_iff.1 hlW).1 (fun e => ?_), hlW, hrl]
            rcases e with e | ⟨_, _, cur, e⟩
            · omega
            · rw [hlW] at e; cases e
          · rcases hj with hj | ⟨hj, _, cur, hc⟩
            · exact .inl (.inl hj)
            · refine .inl (.inr ⟨hj, fun e => ?_⟩)
              unfold HsAt at hsW
              rw [e, hsW] at hc
              exact absurd (Obj.cells.inj (Option.some.inj hc)).2.1 (by decide)
          · rcases e with e | ⟨_, _, cur, e⟩
            · omega
            · rw [p3] at e
              exact absurd (Obj.cells.inj (Option.some.inj e)).2.1 (by decide)
        have HCB : Hid (∀ W, Below A4.heap.size A4 W → W.cell? ⟨bl, 0, none⟩ = some (.slice av mv cv) ∧ (W.alloc (.cells #[.int .i64 (y0 : Nat)] 3)).cell? ⟨bl, 0, none⟩ = some (.slice av mv cv)) := Lib.hid fun W hW => by
          have hvW := (hW.block bl (Array.getElem?_eq_some_iff.1 hvl).1).trans hvl
          exact ⟨cellE hvW, (((Below.refl _ _).alloc (Nat.le_refl _) _).cell (p := ⟨bl, 0, none⟩) (Array.getElem?_eq_some_iff.1 hvW).1).trans (cellE hvW)⟩
        clear f1 f2 f3 f4 ht hz hvl htk hrl hy0
        by_cases hde : ce.1 = d
        · have HPU2 := Lib.hid (HPU.out hde)
          have hdc : decide (ce.1 = d) = true := decide_eq_true hde
          rw [hdc] at HIS
          clear HPU HGO hde hdc
          gi_wp2_with fail
          refine ⟨by first | rfl | trivial, ?_⟩
          gi_wp2_with fail
          refine (CallsIn.inRound _ (HIS.out _)).mono ?_
          rintro y A5 ⟨rfl, kk0, hw5⟩
          subst A5
          obtain ⟨A5, hA5⟩ : ∃ A5, A5 = A4.drewN kk0 := ⟨_, rfl⟩
          have hb5 : Below A4.heap.size A4 A5 := by rw [hA5]; exact below_drewN _ _
          have HB5 := Lib.hid hb5
          rw [← hA5]
          clear hA5 hb5
          obtain ⟨hq1, hq2⟩ := HCB.out A5 HB5.out
          gi_wp2
          refine wpIn_region_any (by assumption) ?_
          try (change wpAnyIn _ _ _ _ _ _ _ _ _ (World.drew _))
          refine wpAnyIn_ready (rs := [0, 1]) (by kernel_rfl) (by simp) ?_
          refine AllReadyIn.cons rfl (fun K hK => ?_) (AllReadyIn.cons rfl (fun K hK => ?_) AllReadyIn.nil)
          · go_simp
            refine hK _ _ ?_
            clear hK K
            refine wpAnyIn_ready (rs := [1]) (by kernel_rfl) (by simp) ?_
            refine AllReadyIn.cons rfl (fun K hK => ?_) AllReadyIn.nil
            go_simp
            refine hK _ _ ?_
            clear hK K
            refine wpAnyIn_ready (rs := [2]) (by kernel_rfl) (by simp) ?_
            refine AllReadyIn.cons rfl (fun K hK => ?_) AllReadyIn.nil
            go_simp
            gi_wp2_with (gi_at_call 97; refine (CallsIn.inRound _ (HTD.out _ _)).mono ?_; rintro e w9 ⟨rfl, kk, hw9⟩; subst w9)
            try (refine hK _ _ ?_)
            try clear hK K
            obtain ⟨av1, nv1, cv1, w5, hrun, c5, fz5, hx6⟩ := HPU2.out (A5.drewN (1 + kk)) (belS HB5.out (below_drewN A5 _))
            have HRUN := Lib.hid hrun
            have HX6 := Lib.hid hx6
            obtain ⟨hq3, hq4⟩ := HCB.out (A5.drewN (1 + kk)) (belS HB5.out (below_drewN A5 _))
            clear hrun hx6
            refine wpAnyIn_ready (rs := [3]) (by kernel_rfl) (by simp) ?_
            refine AllReadyIn.cons rfl (fun K hK => ?_) AllReadyIn.nil
            go_simp
            refine hK _ _ ?_
            clear hK K
            refine wpAnyIn_ready (rs := [4]) (by kernel_rfl) (by simp) ?_
            refine AllReadyIn.cons rfl (fun K hK => ?_) AllReadyIn.nil
            refine step_app_in rfl _ _ 57 rfl _ _ _ (by rfl) (by rfl) HRUN.out ?_
            refine hK _ _ ?_
            clear hK K
            refine wpAnyIn_ready (rs := [5]) (by kernel_rfl) (by simp) ?_
            refine AllReadyIn.cons rfl (fun K hK => ?_) AllReadyIn.nil
            go_simp
            refine hK _ _ ?_
            clear hK K
            refine wpAnyIn_done (by kernel_rfl) ?_ _
            gi_wp2
            exact HX6.out
          · go_simp
            refine hK _ _ ?_
            clear hK K
            refine wpAnyIn_ready (rs := [0, 2]) (by kernel_rfl) (by simp) ?_
            refine AllReadyIn.cons rfl (fun K hK => ?_) (AllReadyIn.cons rfl (fun K hK => ?_) AllReadyIn.nil)
            · go_simp
              refine hK _ _ ?_
              clear hK K
              refine wpAnyIn_ready (rs := [2]) (by kernel_rfl) (by simp) ?_
              refine AllReadyIn.cons rfl (fun K hK => ?_) AllReadyIn.nil
              go_simp
              gi_wp2_with (gi_at_call 97; refine (CallsIn.inRound _ (HTD.out _ _)).mono ?_; rintro e w9 ⟨rfl, kk, hw9⟩; subst w9)
              try (refine hK _ _ ?_)
              try clear hK K
              obtain ⟨av1, nv1, cv1, w5, hrun, c5, fz5, hx6⟩ := HPU2.out (A5.drewN (1 + kk)) (belS HB5.out (below_drewN A5 _))
              have HRUN := Lib.hid hrun
              have HX6 := Lib.hid hx6
              obtain ⟨hq3, hq4⟩ := HCB.out (A5.drewN (1 + kk)) (belS HB5.out (below_drewN A5 _))
              clear hrun hx6
              refine wpAnyIn_ready (rs := [3]) (by kernel_rfl) (by simp) ?_
              refine AllReadyIn.cons rfl (fun K hK => ?_) AllReadyIn.nil
              go_simp
              refine hK _ _ ?_
              clear hK K
              refine wpAnyIn_ready (rs := [4]) (by kernel_rfl) (by simp) ?_
              refine AllReadyIn.cons rfl (fun K hK => ?_) AllReadyIn.nil
              refine step_app_in rfl _ _ 57 rfl _ _ _ (by rfl) (by rfl) HRUN.out ?_
              refine hK _ _ ?_
              clear hK K
              refine wpAnyIn_ready (rs := [5]) (by kernel_rfl) (by simp) ?_
              refine AllReadyIn.cons rfl (fun K hK => ?_) AllReadyIn.nil
              go_simp
              refine hK _ _ ?_
              clear hK K
              refine wpAnyIn_done (by kernel_rfl) ?_ _
              gi_wp2
              exact HX6.out
            · go_simp
              gi_wp2_with (gi_at_call 97; refine (CallsIn.inRound _ (HTD.out _ _)).mono ?_; rintro e w9 ⟨rfl, kk, hw9⟩; subst w9)
              try (refine hK _ _ ?_)
              try clear hK K
              obtain ⟨av1, nv1, cv1, w5, hrun, c5, fz5, hx6⟩ := HPU2.out (A5.drewN (1 + kk)) (belS HB5.out (below_drewN A5 _))
              have HRUN := Lib.hid hrun
              have HX6 := Lib.hid hx6
              obtain ⟨hq3, hq4⟩ := HCB.out (A5.drewN (1 + kk)) (belS HB5.out (below_drewN A5 _))
              clear hrun hx6
              refine wpAnyIn_ready (rs := [0, 3]) (by kernel_rfl) (by simp) ?_
              refine AllReadyIn.cons rfl (fun K hK => ?_) (AllReadyIn.cons rfl (fun K hK => ?_) AllReadyIn.nil)
              · go_simp
                refine hK _ _ ?_
                clear hK K
                refine wpAnyIn_ready (rs := [3]) (by kernel_rfl) (by simp) ?_
                refine AllReadyIn.cons rfl (fun K hK => ?_) AllReadyIn.nil
                go_simp
                refine hK _ _ ?_
                clear hK K
                refine wpAnyIn_ready (rs := [4]) (by kernel_rfl) (by simp) ?_
                refine AllReadyIn.cons rfl (fun K hK => ?_) AllReadyIn.nil
                refine step_app_in rfl _ _ 57 rfl _ _ _ (by rfl) (by rfl) HRUN.out ?_
                refine hK _ _ ?_
                clear hK K
                refine wpAnyIn_ready (rs := [5]) (by kernel_rfl) (by simp) ?_
                refine AllReadyIn.cons rfl (fun K hK => ?_) AllReadyIn.nil
                go_simp
                refine hK _ _ ?_
                clear hK K
                refine wpAnyIn_done (by kernel_rfl) ?_ _
                gi_wp2
                exact HX6.out
              · go_simp
                refine hK _ _ ?_
                clear hK K
                refine wpAnyIn_ready (rs := [0]) (by kernel_rfl) (by simp) ?_
                refine AllReadyIn.cons rfl (fun K hK => ?_) AllReadyIn.nil
                go_simp
                refine hK _ _ ?_
                clear hK K
                refine wpAnyIn_ready (rs := [4]) (by kernel_rfl) (by simp) ?_
                refine AllReadyIn.cons rfl (fun K hK => ?_) AllReadyIn.nil
                refine step_app_in rfl _ _ 57 rfl _ _ _ (by rfl) (by rfl) HRUN.out ?_
                refine hK _ _ ?_
                clear hK K
                refine wpAnyIn_ready (rs := [5]) (by kernel_rfl) (by simp) ?_
                refine AllReadyIn.cons rfl (fun K hK => ?_) AllReadyIn.nil
                go_simp
                refine hK _ _ ?_
                clear hK K
                refine wpAnyIn_done (by kernel_rfl) ?_ _
                gi_wp2
                exact HX6.out
        · have HGO2 := Lib.hid (HGO.out hde)
          have hdc : decide (ce.1 = d) = false := decide_eq_false hde
          rw [hdc] at HIS
          clear HPU HGO hde hdc HCB
          gi_wp2_with fail
          refine ⟨by first | rfl | trivial, ?_⟩
          gi_wp2_with fail
          refine (CallsIn.inRound _ (HIS.out _)).mono ?_
          rintro y A5 ⟨rfl, kk0, hw5⟩
          subst A5
          have HG3 := Lib.hid (HGO2.out _ (below_drewN A4 kk0))
          clear HGO2
          gi_wp2
          exact HG3.out
end
end Go.Proofs.YtefddiikdamnbaaGreatDoor.Dm
