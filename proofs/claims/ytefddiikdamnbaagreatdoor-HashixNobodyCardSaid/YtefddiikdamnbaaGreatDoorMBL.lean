/- Texts of the same proof, one behind the other: XY, XZ, XAA, XAB, XAC, XAD, XAE. -/
import Derived.Test.YtefddiikdamnbaaGreatDoorMBK
import Derived.Test.YtefddiikdamnbaaGreatDoorMBJ
import Derived.Deep.RegionHeld
import Derived.Test.YtefddiikdamnbaaGreatDoorMBF
/- Contract: a sheet that has less, or nothing any more. -/
set_option maxRecDepth 100000
namespace Go.Proofs.YtefddiikdamnbaaGreatDoor.Dm
open Go Go.RowKit

section
variable {J : List RawOp → Prop} {B : Nat} {S : Nat → Prop} {c : Ac} {h : Hd} {G : Nat → List UInt8} {w : World} {hb r n cnt tb sb ab q nx qa nxa pg b : Nat} {F : Nat → Nat} {l la : List Et}
theorem neq_nil_sheet_h (w : World) (a : Addr) : (binOp .eql 144 (.pointer (some a)) (.pointer none)).run Tryz.prog w = .ok (.bool false) w := by
  have h : ∀ d : Nat, (Op.equalIn (d + 1) 144 (.pointer (some a)) (.pointer none)).run Tryz.prog w = .ok false w := fun d => by
    simp [Op.equalIn, run_underlying Tryz.underlying144, sizeOf, typeInfo]
  simp only [binOp]
  simp [Op.equal, Op.maxDepth, h 9999]
end
end Go.Proofs.YtefddiikdamnbaaGreatDoor.Dm

/- The statement of a range over the sheets of chains, outside rounds: what is to be shown of a round and behind it. -/
set_option maxRecDepth 100000
namespace Go.Proofs.YtefddiikdamnbaaGreatDoor.Dm
open Go Go.RowKit Go.Shelf

theorem kept_put (w : World) (k : Nat) (o : Obj) : Kept (fun j => j = k) w (w.putObj k o) := ⟨rfl, rfl, rfl, by simp, fun _ _ hj => World.putObj_heap_other hj⟩
/-- What is asked of a round's body at its end. -/
def BdPost (J : List RawOp → Prop) (B : Nat) (c : Ac) (h : Hd) (G : Nat → List UInt8) (M : Nat) (sb : Nat) (C : Nat → Prop) (Js : (Nat → Prop) → List (Nat × List Et) → World → Prop) (Jx : Code → (Nat → Prop) → List (Nat × List Et) → World → Prop) (S : Nat → Prop) (s : List (Nat × List Et)) (w : World) : Exit → Act → World → Prop
  | .normal, _, w' => ∃ S', TurnX (fun k => C k ∨ (M ≤ k ∧ k ≠ sb)) S w S' w' ∧ ActV J B S' c h G w' ∧ Js S' s w'
  | .ret, _, w' => ∃ S', TurnX (fun k => C k ∨ M ≤ k) S w S' w' ∧ Jx .ret S' s w'
  | .exit id, _, w' => ∃ S', TurnX (fun k => C k ∨ M ≤ k) S w S' w' ∧ Jx (.exit id) S' s w'
  | _, _, _ => False
theorem TurnX.mono {C C' S S' : Nat → Prop} {w w' : World} (h : TurnX C S w S' w') (hC : ∀ k, C k → C' k) : TurnX C' S w S' w' := ⟨h.1.mono (fun _ e => e.imp id (hC _)), h.2⟩
theorem TurnX.trans {C S S' S'' : Nat → Prop} {w w' w'' : World} (h : TurnX C S w S' w') (k : TurnX C S' w' S'' w'') : TurnX C S w S'' w'' :=
  ⟨h.1.trans k.1 (fun i hi => by
    by_cases hl : i < w.heap.size
    · exact .inl (hi.imp (fun h1 => h.2 i hl h1) id)
    · exact .inr (by omega)), fun i hl hs => h.2 i hl (k.2 i (Nat.lt_of_lt_of_le hl h.1.size) hs)⟩
theorem turnX_put {C S : Nat → Prop} (w : World) {k : Nat} (hk : C k) (o : Obj) : TurnX C S w S (w.putObj k o) := ⟨(kept_put w k o).mono (fun j e => .inr (by have e' : j = k := e; rw [e']; exact hk)), fun _ _ hs => hs⟩

set_option maxHeartbeats 1600000 in
theorem range_along {J : List RawOp → Prop} {B : Nat} {c : Ac} {h : Hd} {G : Nat → List UInt8} {hb r tb o m cp b1 b2 b3 d n pg nb cnt : Nat} {F : Nat → Nat} {cs : List Chn} (hd1 : 1 ≤ d)
    (hm : cs.length = m) (hom : o + m ≤ 250) (hF : ∀ i (hi : i < cs.length), F (o + i) = fstP (cs[i]'hi)) (hon : ∀ ch ∈ cs, ChOn h G pg ch) (hnd : (pgsC cs.flatten).Nodup) (hpg : pg < 4096)
    {g : Operand} {ps : Array Tmp} {assign body : Code} {Q : Exit → Act → World → Prop} {a : Act} {w : World} (hps : ps.size = 1)
    (hg : a.eval g = .func (.func 177) #[] #[.pointer (some ⟨b2, 0, none⟩), .pointer (some ⟨b3, 0, none⟩), .pointer (some ⟨b1, 0, none⟩)])
    (C : Nat → Prop) (Js : (Nat → Prop) → List (Nat × List Et) → World → Prop) (Jx : Code → (Nat → Prop) → List (Nat × List Et) → World → Prop) (S : Nat → Prop) (hC : ∀ k, C k → k < w.heap.size) (hw1 : 1 ≤ w.heap.size)
    (hI : ∀ S s A, Js S s A → HxAt A hb c.a r ∧ ¬ S hb ∧ IterAt A hb tb o m cp b1 b2 b3 ∧ TbAt A tb pg nb cnt F)
    (hJ : ∀ S A S' B' s, ActV J B S c h G A → Js S s A → Kept (fun k => S k ∨ w.heap.size ≤ k ∧ k < w.heap.size + 3) A B' → (∀ k, k < A.heap.size → S' k → S k) → ActV J B S' c h G B' → Js S' s B')
    (hX : ∀ j S s A B', Jx j S s A → ¬ S (w.heap.size + 1) → Kept (fun k => k = w.heap.size + 1) A B' → Jx j S s B')
    (hR : ∀ S pre q (le : List Et) nx sb A A', ActV J B S c h G A' → Js S pre A' → pre ++ [(q, le)] <+: cs.flatten → ShOn h G pg nx q le → nx < 4096 → HsAt A' sb q nx le → ¬ S sb → w.heap.size + 3 ≤ sb → (∃ r₀, A'.heap[w.heap.size + 1]? = some (.loop r₀)) →
      assign.wpIn (Fence.wide.inRound (w.heap.size + 1)) (d - 1) Tryz.prog (Exit.then (fun a₁ w₁ => w₁ = A ∧ body.wpIn (Fence.wide.inRound (w.heap.size + 1)) (d - 1) Tryz.prog (BdPost J B c h G (w.heap.size + 3) sb C Js Jx S (pre ++ [(q, le)]) A') a₁ A') (fun _ _ _ => False))
        { tmps := (ps.zip #[.pointer (some ⟨sb, 0, none⟩)]).foldl (fun t (p, v) => t.setIfInBounds p v) a.tmps, defers := [] } A)
    (hE : ∀ S A, ActV J B S c h G A → Js S cs.flatten A → ¬ S w.heap.size → A.heap[w.heap.size]? = some (.deferred (some [])) → w.heap.size + 2 ≤ A.heap.size → Q .normal { a with defers := { target := .collected w.heap.size, args := #[] } :: a.defers } A)
    (hL : ∀ j S pre A, pre <+: cs.flatten → Jx j S pre A → ¬ S w.heap.size → A.heap[w.heap.size]? = some (.deferred (some [])) → j.wpIn Fence.wide n Tryz.prog Q { a with defers := { target := .collected w.heap.size, args := #[] } :: a.defers } A)
    (x : ActV J B S c h G w) (h0 : Js S [] w) :
    (Code.rangeFunc g ps assign body).wpIn Fence.wide n Tryz.prog Q a w := by
  refine range_outer (m := d) (gf := 177) (lb := #[.pointer (some ⟨b2, 0, none⟩), .pointer (some ⟨b3, 0, none⟩), .pointer (some ⟨b1, 0, none⟩)]) hg (enters_of Tryz.func177 (by kernel_rfl) rfl) ?_
  intro fn rec hrec
  obtain ⟨N, hN⟩ : ∃ N, N = w.heap.size := ⟨_, rfl⟩
  rw [← hN] at hrec hC hw1 hJ hX hR hE hL ⊢
  obtain ⟨W0, hW0⟩ : ∃ W0, W0 = (w.alloc (.deferred (some []))).alloc (.loop (rec .ready none)) := ⟨_, rfl⟩
  rw [← hW0]
  have z0 : W0.heap.size = N + 2 := by rw [hW0, World.size_alloc, World.size_alloc, ← hN]
  have hB0 : Below w.heap.size w W0 := by
    rw [hW0]
    exact ((Below.refl _ _).alloc (Nat.le_refl _) _).alloc (by rw [World.size_alloc]; exact Nat.le_succ _) _
  have g1 : W0.heap[N + 1]? = some (.loop (rec .ready none)) := by
    have := World.alloc_heap_new (w.alloc (.deferred (some []))) (.loop (rec .ready none))
    rw [World.size_alloc, ← hN] at this
    rw [hW0]; exact this
  have g0 : W0.heap[N]? = some (.deferred (some [])) := by
    rw [hW0, Below.heap_alloc _ _ _ (by rw [World.size_alloc]; omega), hN]; exact World.alloc_heap_new w _
  have x0 : ActV J B S c h G W0 := x.below hB0
  have hlow : ∀ k, S k → k < N := fun k hk => by have := (x.low k hk).2; omega
  have j0 : Js S [] W0 := hJ _ _ _ _ _ x h0 ((Kept.ofBelow hB0).mono (fun _ e => .inl e)) (fun _ _ e => e) x0
  refine CallsIn.mono (along2_in (d := d) (l := N + 1) (hb := hb) (r := r) (tb := tb) (o := o) (m := m) (cp := cp) (b1 := b1) (b2 := b2) (b3 := b3) (pg := pg) (n := nb) (cnt := cnt) (F := F) (cs := cs) hd1 hm hom hF hon hnd hpg
    (fun k => C k ∨ k = N + 1)
    (fun S s A => Js S s A ∧ ¬ S N ∧ ¬ S (N + 1) ∧ A.heap[N]? = some (.deferred (some [])) ∧ A.heap[N + 1]? = some (.loop (rec .ready none)))
    (fun S s A => ∃ j, Jx j S s A ∧ ¬ S N ∧ ¬ S (N + 1) ∧ A.heap[N]? = some (.deferred (some [])) ∧ A.heap[N + 1]? = some (.loop (rec .done (some j))))
    S W0 (by rintro k (hk | hk); have := hC k hk; omega; omega) (fun S s A hj => hI S s A hj.1) ?hJ ?hY x0 ⟨j0, fun hs => by have := hlow _ hs; omega, fun hs => by have := hlow _ hs; omega, g0, g1⟩) ?fin
  case hJ =>
    rintro S1 A S2 B2 s hA ⟨hj, n0, n1, d0, l1⟩ hk hs hB
    have t0 := (Array.getElem?_eq_some_iff.1 d0).1
    have t1 := (Array.getElem?_eq_some_iff.1 l1).1
    refine ⟨hJ _ _ _ _ _ hA hj (hk.mono (fun k e => e.imp id (fun e => by omega))) hs hB, fun e => n0 (hs _ t0 e), fun e => n1 (hs _ t1 e), ?_, ?_⟩
    · rw [hk.block N t0 (fun e => e.elim n0 (fun e => by omega))]; exact d0
    · rw [hk.block (N + 1) t1 (fun e => e.elim n1 (fun e => by omega))]; exact l1
  case hY =>
    rintro S1 pre q le nx sb A hA ⟨hj, n0, n1, d0, l1⟩ hpf hsh hnx4 hs nsb hsb
    have t0 := (Array.getElem?_eq_some_iff.1 d0).1
    have t1 := (Array.getElem?_eq_some_iff.1 l1).1
    obtain ⟨A', hA'⟩ : ∃ A', A' = A.putObj (N + 1) (.loop (rec .busy none)) := ⟨_, rfl⟩
    have hk1 : Kept (fun k => k = N + 1) A A' := by rw [hA']; exact kept_put A _ _
    have x1 : ActV J B S1 c h G A' := hA.kept hk1 (fun k e _ => by have e' : k = N + 1 := e; rw [e']; exact ⟨n1, by omega⟩)
    have j1 : Js S1 pre A' := hJ _ _ _ _ _ hA hj (hk1.mono (fun k e => .inr (by have e' : k = N + 1 := e; omega))) (fun _ _ e => e) x1
    have hs1 : HsAt A' sb q nx le := hs.kept hk1 (fun e => by have e' : sb = N + 1 := e; omega)
    have l2 : A'.heap[N + 1]? = some (.loop (rec .busy none)) := by rw [hA']; exact World.putObj_heap_same t1
    have d1 : A'.heap[N]? = some (.deferred (some [])) := (hk1.block N t0 (by omega)).trans d0
    have hT1 : TurnX (fun k => (C k ∨ k = N + 1) ∨ (W0.heap.size < k ∧ k ≠ sb)) S1 A S1 A' := by rw [hA']; exact turnX_put A (.inl (.inr rfl)) _
    have hz1 : A'.heap.size = A.heap.size := by rw [hA']; simp
    refine YieldAt.mono (yield_round (args := #[.pointer (some ⟨sb, 0, none⟩)]) hrec l1 (by rw [hps]; rfl) (fun b j W' => ∃ S', (b = true → TurnX (fun k => (C k ∨ k = N + 1) ∨ (W0.heap.size < k ∧ k ≠ sb)) S1 A S' W' ∧ ActV J B S' c h G W' ∧ Js S' (pre ++ [(q, le)]) W' ∧ ¬ S' N ∧ ¬ S' (N + 1) ∧ W'.heap[N]? = some (.deferred (some [])) ∧ W'.heap[N + 1]? = some (.loop (rec .ready none))) ∧
      (b = false → ∃ j, Jx j S' (pre ++ [(q, le)]) W' ∧ ¬ S' N ∧ ¬ S' (N + 1) ∧ W'.heap[N]? = some (.deferred (some [])) ∧ W'.heap[N + 1]? = some (.loop (rec .done (some j))))) (wpIn_mono (hR S1 pre q le nx sb A A' x1 j1 hpf hsh hnx4 hs1 nsb (by omega) ⟨_, l2⟩) ?_)) ?_
    · rintro e a2 w2 hp
      cases e with
      | normal =>
        obtain ⟨rfl, hbd⟩ := hp
        refine ⟨l1, ?_⟩
        rw [← hA']
        refine wpIn_mono hbd ?_
        have key : ∀ S3 w3, TurnX (fun k => C k ∨ N + 3 ≤ k) S1 A' S3 w3 → w3.heap[N + 1]? = some (.loop (rec .busy none)) ∧ ¬ S3 (N + 1) ∧ ¬ S3 N ∧ w3.heap[N]? = some (.deferred (some [])) := fun S3 w3 ht => by
          refine ⟨(ht.1.block (N + 1) (by omega) (fun e => e.elim n1 (fun e => e.elim (fun e => by have := hC _ e; omega) (fun e => by omega)))).trans l2, fun e => n1 (ht.2 _ (by omega) e), fun e => n0 (ht.2 _ (by omega) e), (ht.1.block N (by omega) (fun e => e.elim n0 (fun e => e.elim (fun e => by have := hC _ e; omega) (fun e => by omega)))).trans d1⟩
        rintro e a3 w3 hp3
        cases e with
        | normal =>
          obtain ⟨S3, ht, hx3, hj3⟩ := hp3
          obtain ⟨k1, k2, k3, k4⟩ := key S3 w3 (ht.mono (fun _ e => e.imp id (fun e => e.1)))
          have t3 := (Array.getElem?_eq_some_iff.1 k1).1
          have kp := kept_put w3 (N + 1) (.loop (rec .ready none))
          have x4 : ActV J B S3 c h G (w3.putObj (N + 1) (.loop (rec .ready none))) := hx3.kept kp (fun k e _ => by have e' : k = N + 1 := e; rw [e']; exact ⟨k2, by omega⟩)
          exact ⟨k1, S3, fun _ => ⟨(hT1.trans (ht.mono (fun _ e => e.elim (fun e => .inl (.inl e)) (fun e => .inr ⟨by omega, e.2⟩)))).trans (turnX_put w3 (.inl (.inr rfl)) _), x4, hJ _ _ _ _ _ hx3 hj3 (kp.mono (fun k e => .inr (by have e' : k = N + 1 := e; omega))) (fun _ _ e => e) x4, k3, k2, (World.putObj_heap_other (by omega)).trans k4, World.putObj_heap_same t3⟩, fun e => by cases e⟩
        | ret =>
          obtain ⟨S3, ht, hj3⟩ := hp3
          obtain ⟨k1, k2, k3, k4⟩ := key S3 w3 ht
          have t3 := (Array.getElem?_eq_some_iff.1 k1).1
          exact ⟨k1, S3, (fun e => by cases e), fun _ => ⟨.ret, hX _ _ _ _ _ hj3 k2 (kept_put w3 (N + 1) _), k3, k2, (World.putObj_heap_other (by omega)).trans k4, World.putObj_heap_same t3⟩⟩
        | exit id =>
          obtain ⟨S3, ht, hj3⟩ := hp3
          obtain ⟨k1, k2, k3, k4⟩ := key S3 w3 ht
          have t3 := (Array.getElem?_eq_some_iff.1 k1).1
          exact ⟨k1, S3, (fun e => by cases e), fun _ => ⟨.exit id, hX _ _ _ _ _ hj3 k2 (kept_put w3 (N + 1) _), k3, k2, (World.putObj_heap_other (by omega)).trans k4, World.putObj_heap_same t3⟩⟩
        | goto t => exact hp3.elim
        | panic ch => exact hp3.elim
        | outgrown => exact hp3.elim
      | ret => exact hp.elim
      | exit id => exact hp.elim
      | goto t => exact hp.elim
      | panic ch => exact hp.elim
      | outgrown => exact hp.elim
    · rintro e w' ⟨b, j, rfl, S', h1, h2⟩
      exact ⟨b, S', rfl, h1, h2⟩
  case fin =>
    rintro e A ⟨⟨v, rfl⟩, ⟨S2, hA, hj, n0, n1, d0, l1⟩ | ⟨S2, pre, hpre, j, hx2, n0, n1, d0, l1⟩⟩
    · have t0 := (Array.getElem?_eq_some_iff.1 d0).1
      have t1 := (Array.getElem?_eq_some_iff.1 l1).1
      have kp := kept_put A (N + 1) (.loop (rec .exhausted none))
      have x4 : ActV J B S2 c h G (A.putObj (N + 1) (.loop (rec .exhausted none))) := hA.kept kp (fun k e _ => by have e' : k = N + 1 := e; rw [e']; exact ⟨n1, by omega⟩)
      refine ⟨⟨_, rfl⟩, .inl ⟨l1, hE S2 _ x4 (hJ _ _ _ _ _ hA hj (kp.mono (fun k e => .inr (by have e' : k = N + 1 := e; omega))) (fun _ _ e => e) x4) n0 ((World.putObj_heap_other (by omega)).trans d0) (by have := kp.size; omega)⟩⟩
    · exact ⟨⟨_, rfl⟩, .inr ⟨j, l1, hL j S2 pre _ hpre (hX _ _ _ _ _ hx2 n1 (kept_put A (N + 1) _)) n0 ((World.putObj_heap_other (by omega)).trans d0)⟩⟩
end Go.Proofs.YtefddiikdamnbaaGreatDoor.Dm

/- The statement of a range over a sheet's entries, in a round: what is to be shown of its own round and behind it. -/
set_option maxRecDepth 100000
namespace Go.Proofs.YtefddiikdamnbaaGreatDoor.Dm
open Go Go.RowKit Go.Shelf

/-- What is asked of such a round's body at its end. -/
def BePost (N : Nat) (Ji : Nat → World → Prop) (Jx : Code → Nat → World → Prop) (k : Nat) (w : World) : Exit → Act → World → Prop
  | .normal, _, w' => w'.heap[N]? = w.heap[N]? ∧ Ji (k + 1) w'
  | .ret, _, w' => w'.heap[N]? = w.heap[N]? ∧ Jx .ret (k + 1) w'
  | .exit id, _, w' => w'.heap[N]? = w.heap[N]? ∧ Jx (.exit id) (k + 1) w'
  | _, _, _ => False

set_option maxHeartbeats 1600000 in
theorem range_entries {sb q nx bx d n l₀ : Nat} {r₀ : Loop} {le : List Et} (hd1 : 1 ≤ d) (hl : (bodyE le).length ≤ 510) (ho : ∀ c ∈ le, InE c)
    {g : Operand} {ps : Array Tmp} {assign body : Code} {Q : Exit → Act → World → Prop} {a : Act} {w : World} (hps : ps.size = 2) (hl₀ : w.heap[l₀]? = some (.loop r₀))
    (hg : a.eval g = .func (.func 128) #[] #[.pointer (some ⟨bx, 0, none⟩)])
    (Ji : Nat → World → Prop) (Jx : Code → Nat → World → Prop)
    (hI : ∀ k A, Ji k A → HsAt A sb q nx le ∧ A.cell? ⟨bx, 0, none⟩ = some (.pointer (some ⟨sb, 0, none⟩)))
    (hJ : ∀ k A B', Ji k A → (A.heap.size ≤ w.heap.size ∨ ∃ r, A.heap[w.heap.size]? = some (.loop r)) → Kept (fun j => j = w.heap.size) A B' → Ji k B')
    (hX : ∀ j k A B', Jx j k A → (A.heap.size ≤ w.heap.size ∨ ∃ r, A.heap[w.heap.size]? = some (.loop r)) → Kept (fun j => j = w.heap.size) A B' → Jx j k B')
    (hR : ∀ k ce A A', le[k]? = some ce → Ji k A' → (∃ r, A'.heap[w.heap.size]? = some (.loop r)) →
      assign.wpIn (Fence.wide.inRound w.heap.size) (d - 1) Tryz.prog (Exit.then (fun a₁ w₁ => w₁ = A ∧ body.wpIn (Fence.wide.inRound w.heap.size) (d - 1) Tryz.prog (BePost w.heap.size Ji Jx k A') a₁ A') (fun _ _ _ => False))
        { tmps := (ps.zip #[.int .i64 (offE le k : Nat), .string ⟨(heldE ce).toArray⟩]).foldl (fun t (p, v) => t.setIfInBounds p v) a.tmps, defers := [] } A)
    (hE : ∀ A, Ji le.length A → Q .normal a A)
    (hL : ∀ j k A, k ≤ le.length → Jx j k A → j.wpIn (Fence.wide.inRound l₀) n Tryz.prog Q a A)
    (h0 : Ji 0 w) :
    (Code.rangeFunc g ps assign body).wpIn (Fence.wide.inRound l₀) n Tryz.prog Q a w := by
  refine range_inner (m := d) (gf := 128) (lb := #[.pointer (some ⟨bx, 0, none⟩)]) hl₀ hg (enters_of Tryz.func128 (by kernel_rfl) rfl) ?_
  intro fn rec hrec
  obtain ⟨N, hN⟩ : ∃ N, N = w.heap.size := ⟨_, rfl⟩
  obtain ⟨W0, hW0⟩ : ∃ W0, W0 = w.alloc (.loop (rec .ready none)) := ⟨_, rfl⟩
  rw [← hN] at hJ hX hR ⊢
  rw [← hW0]
  have g1 : W0.heap[N]? = some (.loop (rec .ready none)) := by rw [hW0, hN]; exact World.alloc_heap_new w _
  have j0 : Ji 0 W0 := hJ 0 _ _ h0 (.inl (by rw [hN]; exact Nat.le_refl _)) (Kept.ofBelow (by rw [hW0]; exact (Below.refl _ _).alloc (Nat.le_refl _) _))
  refine CallsIn.mono (entries1_in (d := d) (sb := sb) (q := q) (nx := nx) (le := le) (bx := bx) (l := N) hd1 hl ho W0
    (fun k A => Ji k A ∧ A.heap[N]? = some (.loop (rec .ready none)))
    (fun k A => ∃ j, Jx j k A ∧ A.heap[N]? = some (.loop (rec .done (some j)))) (fun k A hj => hI k A hj.1) ?hY ⟨j0, g1⟩) ?fin
  case hY =>
    rintro k ce A hce ⟨hj, l1⟩
    have t1 := (Array.getElem?_eq_some_iff.1 l1).1
    obtain ⟨A', hA'⟩ : ∃ A', A' = A.putObj N (.loop (rec .busy none)) := ⟨_, rfl⟩
    have j1 : Ji k A' := hJ k _ _ hj (.inr ⟨_, l1⟩) (by rw [hA']; exact kept_put A _ _)
    have l2 : A'.heap[N]? = some (.loop (rec .busy none)) := by rw [hA']; exact World.putObj_heap_same t1
    refine YieldAt.mono (yield_round (args := #[.int .i64 (offE le k : Nat), .string ⟨(heldE ce).toArray⟩]) hrec l1 (by rw [hps]; rfl) (fun b j W' => (b = true → Ji (k + 1) W' ∧ W'.heap[N]? = some (.loop (rec .ready none))) ∧ (b = false → ∃ j, Jx j (k + 1) W' ∧ W'.heap[N]? = some (.loop (rec .done (some j))))) (wpIn_mono (hR k ce A A' hce j1 ⟨_, l2⟩) ?_)) ?_
    · rintro e a2 w2 hp
      cases e with
      | normal =>
        obtain ⟨rfl, hbd⟩ := hp
        refine ⟨l1, ?_⟩
        rw [← hA']
        refine wpIn_mono hbd ?_
        rintro e a3 w3 hp3
        cases e with
        | normal =>
          obtain ⟨k1, hj3⟩ := hp3
          rw [l2] at k1
          have t3 := (Array.getElem?_eq_some_iff.1 k1).1
          exact ⟨k1, fun _ => ⟨hJ _ _ _ hj3 (.inr ⟨_, k1⟩) (kept_put w3 N _), World.putObj_heap_same t3⟩, fun e => by cases e⟩
        | ret =>
          obtain ⟨k1, hj3⟩ := hp3
          rw [l2] at k1
          have t3 := (Array.getElem?_eq_some_iff.1 k1).1
          exact ⟨k1, (fun e => by cases e), fun _ => ⟨.ret, hX _ _ _ _ hj3 (.inr ⟨_, k1⟩) (kept_put w3 N _), World.putObj_heap_same t3⟩⟩
        | exit id =>
          obtain ⟨k1, hj3⟩ := hp3
          rw [l2] at k1
          have t3 := (Array.getElem?_eq_some_iff.1 k1).1
          exact ⟨k1, (fun e => by cases e), fun _ => ⟨.exit id, hX _ _ _ _ hj3 (.inr ⟨_, k1⟩) (kept_put w3 N _), World.putObj_heap_same t3⟩⟩
        | goto t => exact hp3.elim
        | panic ch => exact hp3.elim
        | outgrown => exact hp3.elim
      | ret => exact hp.elim
      | exit id => exact hp.elim
      | goto t => exact hp.elim
      | panic ch => exact hp.elim
      | outgrown => exact hp.elim
    · rintro e w' ⟨b, j, rfl, h1, h2⟩
      exact ⟨b, rfl, h1, h2⟩
  case fin =>
    rintro e A ⟨⟨v, rfl⟩, ⟨hj, l1⟩ | ⟨k, hk, j, hx2, l1⟩⟩
    · exact ⟨⟨_, rfl⟩, .inl ⟨l1, hE _ (hJ _ _ _ hj (.inr ⟨_, l1⟩) (kept_put A N _))⟩⟩
    · exact ⟨⟨_, rfl⟩, .inr ⟨j, l1, hL j k _ hk (hX _ _ _ _ hx2 (.inr ⟨_, l1⟩) (kept_put A N _))⟩⟩
end Go.Proofs.YtefddiikdamnbaaGreatDoor.Dm

/- Contracts: the table of an index that stands on pages; a bucket's chain under its iterator. -/
set_option maxRecDepth 100000
namespace Go.Proofs.YtefddiikdamnbaaGreatDoor.Dm
open Go Go.RowKit

/-- The first pages of buckets. -/
def fstF (ch : Nat → Chn) : Nat → Nat := fun b => fstP (ch b)
section
variable {J : List RawOp → Prop} {B : Nat} {S : Nat → Prop} {c : Ac} {h : Hd} {G : Nat → List UInt8} {w : World} {hb r nb top : Nat} {ch : Nat → Chn} {UL : List Nat}
theorem HxOn.first_lt (on : HxOn h G top nb ch UL) (hh : ∀ q, h.has q → q < 4096) (b : Nat) : fstP (ch b) < 4096 := by
  cases hc : ch b with
  | nil => show 0 < 4096; omega
  | cons y r =>
    have h1 := on.on b
    rw [hc] at h1
    exact hh _ h1.1.has
theorem table_on (x : ActV J B S c h G w) (ht : HxAt w hb c.a r) (hS : ¬ S hb) (hr : r < 16) (on : HxOn h G (h.root r) nb ch UL) (hc : cntE nb ch < 16777216) :
    Calls Tryz.prog 77 #[.pointer (some ⟨hb, 0, none⟩)] w (TbPost J B S c h G w (h.root r) nb (cntE nb ch) (fstF ch)) := by
  by_cases hz : h.root r = 0
  · obtain ⟨e1, e2⟩ := on.bare hz
    have e3 : fstF ch = fun _ => 0 := by
      funext b
      unfold fstF
      by_cases hb0 : b = 0
      · rw [hb0, e2]; rfl
      · rw [on.out b (by omega)]; rfl
    have e4 : cntE nb ch = 0 := by
      rw [e1]
      show cntE (0 + 1) ch = 0
      rw [cntE_succ, e2]
      rfl
    rw [hz, e1, e3]
    rw [e1] at e4
    rw [e4]
    exact table_none x ht hr hz
  · obtain ⟨h1, h2⟩ := on.tbl hz
    exact table_some x ht hS hr rfl h1 h2 on.nb.1 on.nb.2 hc (fun b => by have := on.first_lt (fun q hq => (x.has_lt hq).2) b; show fstP (ch b) < 65536; omega) (fun b hb => by show fstP (ch b) = 0; rw [on.out b hb]; rfl)
end
end Go.Proofs.YtefddiikdamnbaaGreatDoor.Dm

/- Contracts: Insert, Delete, Find, Bucket of what is no index. -/
set_option maxRecDepth 100000
namespace Go.Proofs.YtefddiikdamnbaaGreatDoor.Dm
open Go Go.RowKit

section
variable {w : World} {x : En}
set_option maxHeartbeats 1600000 in
theorem nohx_delete (v : Value) (hx : x.In w) (h : NoHxB v w) : Calls Tryz.prog 47 #[v, x.v] w fun e w' => e = .returned (.int .i64 1) ∧ Below w.heap.size w w' := by
  obtain ⟨w1, hw1⟩ : ∃ w1, w1 = w.alloc (.cells #[.int .i64 x.k, .int .i64 x.n, .string x.s, .slice x.a x.xs.length x.lc, .int .i64 x.t] 84) := ⟨_, rfl⟩
  obtain ⟨gb, hgb⟩ : ∃ gb, gb = w.heap.size := ⟨_, rfl⟩
  have hb1 : Below w.heap.size w w1 := by rw [hw1]; exact (Below.refl _ _).alloc (Nat.le_refl _) _
  have hlt1 : gb < w1.heap.size := by rw [hw1, hgb, World.size_alloc]; exact Nat.lt_succ_self _
  have hrow : w1.heap[gb]? = some (.cells #[.int .i64 x.k, .int .i64 x.n, .string x.s, .slice x.a x.xs.length x.lc, .int .i64 x.t] 84 (0, 0)) := by rw [hw1, hgb]; exact heap_alloc_new w _
  obtain ⟨u, hu⟩ : ∃ u, u = refusedE [1, 2] x.c := ⟨_, rfl⟩
  have HRF : Hid (∀ W, Below w1.heap.size w1 W → Calls Tryz.prog 75 #[v] W fun e w' => e = .returned (.int .i64 1) ∧ w' = W) := Lib.hid fun W hb => nohx_refuses v W (h W (hb1.trans (hb.mono hb1.size)))
  have HRE : Hid (∀ W, Below w1.heap.size w1 W → Calls Tryz.prog 88 #[x.v] W fun e w' => e = .returned (.int .i64 u) ∧ Below W.heap.size W w') := Lib.hid fun W hb => by
    rw [hu]; exact refusesEntry_h (hx.below (hb1.trans (hb.mono hb1.size)))
  have HOR : Hid (∀ W b, W.heap[b]? = some (.cells #[.int .i64 1, .int .i64 u] 23 (0, 0)) → Calls Tryz.prog 83 #[.slice (some ⟨b, 0, none⟩) 2 2] W fun e w' => e = .returned (.int .i64 1) ∧ w' = W) := Lib.hid fun W b hh => by
    have := or_errs b 2 1 u W ((Lib.cell_of_heap hh _).trans rfl) ((Lib.cell_of_heap hh _).trans rfl)
    exact this
  have HW1 := Lib.hid hw1
  have HGB := Lib.hid hgb
  have HB1 := Lib.hid hb1
  clear hx h hu hw1 hgb hb1
  obtain ⟨k, n, s, a, xs, lc, t⟩ := x
  simp only [En.v] at HRE hrow HW1 ⊢
  have c0 : w1.cell? ⟨gb, 0, none⟩ = some (.int .i64 k) := (Lib.cell_of_heap hrow _).trans rfl
  have c1 : w1.cell? ⟨gb, 1, none⟩ = some (.int .i64 n) := (Lib.cell_of_heap hrow _).trans rfl
  have c2 : w1.cell? ⟨gb, 2, none⟩ = some (.string s) := (Lib.cell_of_heap hrow _).trans rfl
  have c3 : w1.cell? ⟨gb, 3, none⟩ = some (.slice a xs.length lc) := (Lib.cell_of_heap hrow _).trans rfl
  have c4 : w1.cell? ⟨gb, 4, none⟩ = some (.int .i64 t) := (Lib.cell_of_heap hrow _).trans rfl
  have HS : Hid (∀ W, Below w1.heap.size w1 W → (W.cell? ⟨gb, 0, none⟩ = some (.int .i64 k) ∧ W.cell? ⟨gb, 1, none⟩ = some (.int .i64 n) ∧ W.cell? ⟨gb, 2, none⟩ = some (.string s) ∧ W.cell? ⟨gb, 3, none⟩ = some (.slice a xs.length lc) ∧ W.cell? ⟨gb, 4, none⟩ = some (.int .i64 t) ∧ Below w1.heap.size w1 W)) := Lib.hid fun W hb =>
    ⟨(hb.cell (p := ⟨gb, 0, none⟩) hlt1).trans c0, (hb.cell (p := ⟨gb, 1, none⟩) hlt1).trans c1, (hb.cell (p := ⟨gb, 2, none⟩) hlt1).trans c2, (hb.cell (p := ⟨gb, 3, none⟩) hlt1).trans c3, (hb.cell (p := ⟨gb, 4, none⟩) hlt1).trans c4, hb⟩
  clear hrow
  go_enter Tryz.func47, Tryz.ntmps47
  go_wp2
  rw [← HW1.out, ← HGB.out]
  go_region_held (fun w' => w'.cell? ⟨gb, 0, none⟩ = some (.int .i64 k) ∧ w'.cell? ⟨gb, 1, none⟩ = some (.int .i64 n) ∧ w'.cell? ⟨gb, 2, none⟩ = some (.string s) ∧ w'.cell? ⟨gb, 3, none⟩ = some (.slice a xs.length lc) ∧ w'.cell? ⟨gb, 4, none⟩ = some (.int .i64 t) ∧ Below w1.heap.size w1 w')
    ((refine HS.out _ ?_; first
      | exact Below.refl _ _
      | exact (Below.refl _ _).drew
      | exact (Below.refl _ _).drew.trans hb2
      | exact ((Below.refl _ _).drew.trans hb2).alloc hb2.size _))
    (first
    | (go_at_call 75; refine (HRF.out _ (by first | exact (Below.refl _ _).drew | exact (Below.refl _ _).drew.trans hb2)).mono ?_; rintro e wf ⟨rfl, hwf⟩; subst wf)
    | (go_at_call 88; refine (HRE.out _ (Below.refl _ _).drew).mono ?_; rintro e w2 ⟨rfl, hb2⟩)
    | (go_at_call 83; refine (HOR.out _ _ (heap_alloc_new _ _)).mono ?_; rintro e wf ⟨rfl, hwf⟩; subst wf))
  all_goals go_split_ands
  all_goals go_wp2
  all_goals go_ret
  all_goals exact ⟨rfl, HB1.out.trans (Below.mono (by assumption) HB1.out.size)⟩
set_option maxHeartbeats 1600000 in
theorem nohx_insert (v : Value) (hx : x.In w) (h : NoHxB v w) : Calls Tryz.prog 42 #[v, x.v] w fun e w' => e = .returned (.int .i64 1) ∧ Below w.heap.size w w' := by
  obtain ⟨w1, hw1⟩ : ∃ w1, w1 = w.alloc (.cells #[.int .i64 x.k, .int .i64 x.n, .string x.s, .slice x.a x.xs.length x.lc, .int .i64 x.t] 84) := ⟨_, rfl⟩
  obtain ⟨gb, hgb⟩ : ∃ gb, gb = w.heap.size := ⟨_, rfl⟩
  have hb1 : Below w.heap.size w w1 := by rw [hw1]; exact (Below.refl _ _).alloc (Nat.le_refl _) _
  have hlt1 : gb < w1.heap.size := by rw [hw1, hgb, World.size_alloc]; exact Nat.lt_succ_self _
  have hrow : w1.heap[gb]? = some (.cells #[.int .i64 x.k, .int .i64 x.n, .string x.s, .slice x.a x.xs.length x.lc, .int .i64 x.t] 84 (0, 0)) := by rw [hw1, hgb]; exact heap_alloc_new w _
  obtain ⟨u, hu⟩ : ∃ u, u = refusedE [1, 2] x.c := ⟨_, rfl⟩
  have HRF : Hid (∀ W, Below w1.heap.size w1 W → Calls Tryz.prog 75 #[v] W fun e w' => e = .returned (.int .i64 1) ∧ w' = W) := Lib.hid fun W hb => nohx_refuses v W (h W (hb1.trans (hb.mono hb1.size)))
  have HRE : Hid (∀ W, Below w1.heap.size w1 W → Calls Tryz.prog 88 #[x.v] W fun e w' => e = .returned (.int .i64 u) ∧ Below W.heap.size W w') := Lib.hid fun W hb => by
    rw [hu]; exact refusesEntry_h (hx.below (hb1.trans (hb.mono hb1.size)))
  have HOR : Hid (∀ W b, W.heap[b]? = some (.cells #[.int .i64 1, .int .i64 u] 23 (0, 0)) → Calls Tryz.prog 83 #[.slice (some ⟨b, 0, none⟩) 2 2] W fun e w' => e = .returned (.int .i64 1) ∧ w' = W) := Lib.hid fun W b hh => by
    have := or_errs b 2 1 u W ((Lib.cell_of_heap hh _).trans rfl) ((Lib.cell_of_heap hh _).trans rfl)
    exact this
  have HW1 := Lib.hid hw1
  have HGB := Lib.hid hgb
  have HB1 := Lib.hid hb1
  clear hx h hu hw1 hgb hb1
  obtain ⟨k, n, s, a, xs, lc, t⟩ := x
  simp only [En.v] at HRE hrow HW1 ⊢
  have c0 : w1.cell? ⟨gb, 0, none⟩ = some (.int .i64 k) := (Lib.cell_of_heap hrow _).trans rfl
  have c1 : w1.cell? ⟨gb, 1, none⟩ = some (.int .i64 n) := (Lib.cell_of_heap hrow _).trans rfl
  have c2 : w1.cell? ⟨gb, 2, none⟩ = some (.string s) := (Lib.cell_of_heap hrow _).trans rfl
  have c3 : w1.cell? ⟨gb, 3, none⟩ = some (.slice a xs.length lc) := (Lib.cell_of_heap hrow _).trans rfl
  have c4 : w1.cell? ⟨gb, 4, none⟩ = some (.int .i64 t) := (Lib.cell_of_heap hrow _).trans rfl
  have HS : Hid (∀ W, Below w1.heap.size w1 W → (W.cell? ⟨gb, 0, none⟩ = some (.int .i64 k) ∧ W.cell? ⟨gb, 1, none⟩ = some (.int .i64 n) ∧ W.cell? ⟨gb, 2, none⟩ = some (.string s) ∧ W.cell? ⟨gb, 3, none⟩ = some (.slice a xs.length lc) ∧ W.cell? ⟨gb, 4, none⟩ = some (.int .i64 t) ∧ Below w1.heap.size w1 W)) := Lib.hid fun W hb =>
    ⟨(hb.cell (p := ⟨gb, 0, none⟩) hlt1).trans c0, (hb.cell (p := ⟨gb, 1, none⟩) hlt1).trans c1, (hb.cell (p := ⟨gb, 2, none⟩) hlt1).trans c2, (hb.cell (p := ⟨gb, 3, none⟩) hlt1).trans c3, (hb.cell (p := ⟨gb, 4, none⟩) hlt1).trans c4, hb⟩
  clear hrow
  go_enter Tryz.func42, Tryz.ntmps42
  go_wp2
  rw [← HW1.out, ← HGB.out]
  go_region_held (fun w' => w'.cell? ⟨gb, 0, none⟩ = some (.int .i64 k) ∧ w'.cell? ⟨gb, 1, none⟩ = some (.int .i64 n) ∧ w'.cell? ⟨gb, 2, none⟩ = some (.string s) ∧ w'.cell? ⟨gb, 3, none⟩ = some (.slice a xs.length lc) ∧ w'.cell? ⟨gb, 4, none⟩ = some (.int .i64 t) ∧ Below w1.heap.size w1 w')
    ((refine HS.out _ ?_; first
      | exact Below.refl _ _
      | exact (Below.refl _ _).drew
      | exact (Below.refl _ _).drew.trans hb2
      | exact ((Below.refl _ _).drew.trans hb2).alloc hb2.size _))
    (first
    | (go_at_call 75; refine (HRF.out _ (by first | exact (Below.refl _ _).drew | exact (Below.refl _ _).drew.trans hb2)).mono ?_; rintro e wf ⟨rfl, hwf⟩; subst wf)
    | (go_at_call 88; refine (HRE.out _ (Below.refl _ _).drew).mono ?_; rintro e w2 ⟨rfl, hb2⟩)
    | (go_at_call 83; refine (HOR.out _ _ (heap_alloc_new _ _)).mono ?_; rintro e wf ⟨rfl, hwf⟩; subst wf))
  all_goals go_split_ands
  all_goals go_wp2
  all_goals go_ret
  all_goals exact ⟨rfl, HB1.out.trans (Below.mono (by assumption) HB1.out.size)⟩
set_option maxHeartbeats 1600000 in
theorem nohx_find (v : Value) (hx : x.In w) (h : NoHxB v w) : Calls Tryz.prog 43 #[v, x.dv] w fun e w' => e = .returned (.tuple #[.slice none 0 0, .int .i64 1]) ∧ Below w.heap.size w w' := by
  obtain ⟨w1, hw1⟩ : ∃ w1, w1 = w.alloc (.cells #[.int .i64 x.k, .int .i64 x.n, .string x.s, .slice x.a x.xs.length x.lc] 81) := ⟨_, rfl⟩
  obtain ⟨gb, hgb⟩ : ∃ gb, gb = w.heap.size := ⟨_, rfl⟩
  have hb1 : Below w.heap.size w w1 := by rw [hw1]; exact (Below.refl _ _).alloc (Nat.le_refl _) _
  have hlt1 : gb < w1.heap.size := by rw [hw1, hgb, World.size_alloc]; exact Nat.lt_succ_self _
  have hrow : w1.heap[gb]? = some (.cells #[.int .i64 x.k, .int .i64 x.n, .string x.s, .slice x.a x.xs.length x.lc] 81 (0, 0)) := by rw [hw1, hgb]; exact heap_alloc_new w _
  obtain ⟨u, hu⟩ : ∃ u, u = refK x.d := ⟨_, rfl⟩
  have HRF : Hid (∀ W, Below w1.heap.size w1 W → Calls Tryz.prog 75 #[v] W fun e w' => e = .returned (.int .i64 1) ∧ w' = W) := Lib.hid fun W hb => nohx_refuses v W (h W (hb1.trans (hb.mono hb1.size)))
  have HRE : Hid (∀ W, Below w1.heap.size w1 W → Calls Tryz.prog 84 #[x.dv] W fun e w' => e = .returned (.int .i64 u) ∧ Below W.heap.size W w') := Lib.hid fun W hb => by
    rw [hu]; exact refusesKey_h (hx.below (hb1.trans (hb.mono hb1.size)))
  have HOR : Hid (∀ W b, W.heap[b]? = some (.cells #[.int .i64 1, .int .i64 u] 23 (0, 0)) → Calls Tryz.prog 83 #[.slice (some ⟨b, 0, none⟩) 2 2] W fun e w' => e = .returned (.int .i64 1) ∧ w' = W) := Lib.hid fun W b hh => by
    have := or_errs b 2 1 u W ((Lib.cell_of_heap hh _).trans rfl) ((Lib.cell_of_heap hh _).trans rfl)
    exact this
  have HW1 := Lib.hid hw1
  have HGB := Lib.hid hgb
  have HB1 := Lib.hid hb1
  clear hx h hu hw1 hgb hb1
  obtain ⟨k, n, s, a, xs, lc, t⟩ := x
  simp only [En.dv] at HRE hrow HW1 ⊢
  have c0 : w1.cell? ⟨gb, 0, none⟩ = some (.int .i64 k) := (Lib.cell_of_heap hrow _).trans rfl
  have c1 : w1.cell? ⟨gb, 1, none⟩ = some (.int .i64 n) := (Lib.cell_of_heap hrow _).trans rfl
  have c2 : w1.cell? ⟨gb, 2, none⟩ = some (.string s) := (Lib.cell_of_heap hrow _).trans rfl
  have c3 : w1.cell? ⟨gb, 3, none⟩ = some (.slice a xs.length lc) := (Lib.cell_of_heap hrow _).trans rfl
  have HS : Hid (∀ W, Below w1.heap.size w1 W → (W.cell? ⟨gb, 0, none⟩ = some (.int .i64 k) ∧ W.cell? ⟨gb, 1, none⟩ = some (.int .i64 n) ∧ W.cell? ⟨gb, 2, none⟩ = some (.string s) ∧ W.cell? ⟨gb, 3, none⟩ = some (.slice a xs.length lc) ∧ Below w1.heap.size w1 W)) := Lib.hid fun W hb =>
    ⟨(hb.cell (p := ⟨gb, 0, none⟩) hlt1).trans c0, (hb.cell (p := ⟨gb, 1, none⟩) hlt1).trans c1, (hb.cell (p := ⟨gb, 2, none⟩) hlt1).trans c2, (hb.cell (p := ⟨gb, 3, none⟩) hlt1).trans c3, hb⟩
  clear hrow
  go_enter Tryz.func43, Tryz.ntmps43
  go_wp2
  rw [← HW1.out, ← HGB.out]
  go_region_held (fun w' => w'.cell? ⟨gb, 0, none⟩ = some (.int .i64 k) ∧ w'.cell? ⟨gb, 1, none⟩ = some (.int .i64 n) ∧ w'.cell? ⟨gb, 2, none⟩ = some (.string s) ∧ w'.cell? ⟨gb, 3, none⟩ = some (.slice a xs.length lc) ∧ Below w1.heap.size w1 w')
    ((refine HS.out _ ?_; first
      | exact Below.refl _ _
      | exact (Below.refl _ _).drew
      | exact (Below.refl _ _).drew.trans hb2
      | exact ((Below.refl _ _).drew.trans hb2).alloc hb2.size _))
    (first
    | (go_at_call 75; refine (HRF.out _ (by first | exact (Below.refl _ _).drew | exact (Below.refl _ _).drew.trans hb2)).mono ?_; rintro e wf ⟨rfl, hwf⟩; subst wf)
    | (go_at_call 84; refine (HRE.out _ (Below.refl _ _).drew).mono ?_; rintro e w2 ⟨rfl, hb2⟩)
    | (go_at_call 83; refine (HOR.out _ _ (heap_alloc_new _ _)).mono ?_; rintro e wf ⟨rfl, hwf⟩; subst wf))
  all_goals go_split_ands
  all_goals go_wp2
  all_goals go_ret2
  all_goals exact ⟨rfl, HB1.out.trans (Below.mono (by assumption) HB1.out.size)⟩
set_option maxHeartbeats 1600000 in
theorem nohx_bucket (v : Value) (hx : x.In w) (h : NoHxB v w) : Calls Tryz.prog 38 #[v, x.dv] w fun e w' => e = .returned (.tuple #[.int .i64 0, .int .i64 1]) ∧ Below w.heap.size w w' := by
  obtain ⟨w1, hw1⟩ : ∃ w1, w1 = w.alloc (.cells #[.int .i64 x.k, .int .i64 x.n, .string x.s, .slice x.a x.xs.length x.lc] 81) := ⟨_, rfl⟩
  obtain ⟨gb, hgb⟩ : ∃ gb, gb = w.heap.size := ⟨_, rfl⟩
  have hb1 : Below w.heap.size w w1 := by rw [hw1]; exact (Below.refl _ _).alloc (Nat.le_refl _) _
  have hlt1 : gb < w1.heap.size := by rw [hw1, hgb, World.size_alloc]; exact Nat.lt_succ_self _
  have hrow : w1.heap[gb]? = some (.cells #[.int .i64 x.k, .int .i64 x.n, .string x.s, .slice x.a x.xs.length x.lc] 81 (0, 0)) := by rw [hw1, hgb]; exact heap_alloc_new w _
  obtain ⟨u, hu⟩ : ∃ u, u = refK x.d := ⟨_, rfl⟩
  have HRF : Hid (∀ W, Below w1.heap.size w1 W → Calls Tryz.prog 75 #[v] W fun e w' => e = .returned (.int .i64 1) ∧ w' = W) := Lib.hid fun W hb => nohx_refuses v W (h W (hb1.trans (hb.mono hb1.size)))
  have HRE : Hid (∀ W, Below w1.heap.size w1 W → Calls Tryz.prog 84 #[x.dv] W fun e w' => e = .returned (.int .i64 u) ∧ Below W.heap.size W w') := Lib.hid fun W hb => by
    rw [hu]; exact refusesKey_h (hx.below (hb1.trans (hb.mono hb1.size)))
  have HOR : Hid (∀ W b, W.heap[b]? = some (.cells #[.int .i64 1, .int .i64 u] 23 (0, 0)) → Calls Tryz.prog 83 #[.slice (some ⟨b, 0, none⟩) 2 2] W fun e w' => e = .returned (.int .i64 1) ∧ w' = W) := Lib.hid fun W b hh => by
    have := or_errs b 2 1 u W ((Lib.cell_of_heap hh _).trans rfl) ((Lib.cell_of_heap hh _).trans rfl)
    exact this
  have HW1 := Lib.hid hw1
  have HGB := Lib.hid hgb
  have HB1 := Lib.hid hb1
  clear hx h hu hw1 hgb hb1
  obtain ⟨k, n, s, a, xs, lc, t⟩ := x
  simp only [En.dv] at HRE hrow HW1 ⊢
  have c0 : w1.cell? ⟨gb, 0, none⟩ = some (.int .i64 k) := (Lib.cell_of_heap hrow _).trans rfl
  have c1 : w1.cell? ⟨gb, 1, none⟩ = some (.int .i64 n) := (Lib.cell_of_heap hrow _).trans rfl
  have c2 : w1.cell? ⟨gb, 2, none⟩ = some (.string s) := (Lib.cell_of_heap hrow _).trans rfl
  have c3 : w1.cell? ⟨gb, 3, none⟩ = some (.slice a xs.length lc) := (Lib.cell_of_heap hrow _).trans rfl
  have HS : Hid (∀ W, Below w1.heap.size w1 W → (W.cell? ⟨gb, 0, none⟩ = some (.int .i64 k) ∧ W.cell? ⟨gb, 1, none⟩ = some (.int .i64 n) ∧ W.cell? ⟨gb, 2, none⟩ = some (.string s) ∧ W.cell? ⟨gb, 3, none⟩ = some (.slice a xs.length lc) ∧ Below w1.heap.size w1 W)) := Lib.hid fun W hb =>
    ⟨(hb.cell (p := ⟨gb, 0, none⟩) hlt1).trans c0, (hb.cell (p := ⟨gb, 1, none⟩) hlt1).trans c1, (hb.cell (p := ⟨gb, 2, none⟩) hlt1).trans c2, (hb.cell (p := ⟨gb, 3, none⟩) hlt1).trans c3, hb⟩
  clear hrow
  go_enter Tryz.func38, Tryz.ntmps38
  go_wp2
  rw [← HW1.out, ← HGB.out]
  go_region_held (fun w' => w'.cell? ⟨gb, 0, none⟩ = some (.int .i64 k) ∧ w'.cell? ⟨gb, 1, none⟩ = some (.int .i64 n) ∧ w'.cell? ⟨gb, 2, none⟩ = some (.string s) ∧ w'.cell? ⟨gb, 3, none⟩ = some (.slice a xs.length lc) ∧ Below w1.heap.size w1 w')
    ((refine HS.out _ ?_; first
      | exact Below.refl _ _
      | exact (Below.refl _ _).drew
      | exact (Below.refl _ _).drew.trans hb2
      | exact ((Below.refl _ _).drew.trans hb2).alloc hb2.size _))
    (first
    | (go_at_call 75; refine (HRF.out _ (by first | exact (Below.refl _ _).drew | exact (Below.refl _ _).drew.trans hb2)).mono ?_; rintro e wf ⟨rfl, hwf⟩; subst wf)
    | (go_at_call 84; refine (HRE.out _ (Below.refl _ _).drew).mono ?_; rintro e w2 ⟨rfl, hb2⟩)
    | (go_at_call 83; refine (HOR.out _ _ (heap_alloc_new _ _)).mono ?_; rintro e wf ⟨rfl, hwf⟩; subst wf))
  all_goals go_split_ands
  all_goals go_wp2
  all_goals go_ret2
  all_goals exact ⟨rfl, HB1.out.trans (Below.mono (by assumption) HB1.out.size)⟩
end
end Go.Proofs.YtefddiikdamnbaaGreatDoor.Dm

/- The book's Nobody at an index that nobody made. -/
set_option maxRecDepth 100000
namespace Go.Proofs.YtefddiikdamnbaaGreatDoor.Dm
open Go Go.RowKit

/-- Each call finds its function by the index's type. -/
theorem nobHx (A : Option Addr) : NobM 70 (.pointer A) 42 47 43 35 264 36 263 := by
  refine ⟨fun W => ⟨?_, ?_, ?_, ?_, ?_, ?_, ?_⟩, fun W => ⟨?_, ?_, ?_, ?_, ?_, ?_, ?_⟩, fun args W => ⟨?_, ?_, ?_, ?_, ?_, ?_, ?_⟩⟩
  all_goals kernel_rfl
theorem nobody_hx (A : Option Addr) (x : En) (w : World) (hx : x.In w) (h : NoHxB (.pointer A) w) :
    Calls Tryz.prog 44 #[.iface 70 (.pointer A), x.v] w fun r w' => r = .returned (.bool true) ∧ Below w.heap.size w w' := by
  refine nobody_any (nobHx A) x.k x.n x.s x.a x.xs.length x.lc x.t w ?_ ?_ ?_ ?_ ?_ ?_ ?_
  · exact fun W hW => nohx_find (x := x) _ (hx.below hW) (h.below hW)
  · exact fun W hW => nohx_insert (x := x) _ (hx.below hW) (h.below hW)
  · exact fun W hW => nohx_delete (x := x) _ (hx.below hW) (h.below hW)
  · exact fun W hW => (nohx_entries _ W (h W hW)).mono (fun r w' h => ⟨h.1, by rw [h.2]; exact Below.refl _ _⟩)
  · exact fun W hW => (nohx_pages _ W (h W hW)).mono (fun r w' h => ⟨h.1, by rw [h.2]; exact Below.refl _ _⟩)
  · exact fun W hW => (nohx_check _ W (h W hW)).mono (fun r w' h => ⟨h.1, by rw [h.2]; exact Below.refl _ _⟩)
  · exact fun W hW => (nohx_drop _ W (h W hW)).mono (fun r w' h => ⟨h.1, by rw [h.2]; exact Below.refl _ _⟩)
end Go.Proofs.YtefddiikdamnbaaGreatDoor.Dm

/- Contract: how many buckets an index has, and the next one that is split. -/
set_option maxRecDepth 100000
namespace Go.Proofs.YtefddiikdamnbaaGreatDoor.Dm
open Go Go.RowKit

section
variable {J : List RawOp → Prop} {B : Nat} {S : Nat → Prop} {c : Ac} {h : Hd} {G : Nat → List UInt8} {w : World} {hb r nb : Nat} {ch : Nat → Chn} {UL : List Nat}
set_option maxHeartbeats 1600000 in
theorem buckets_h (x : ActV J B S c h G w) (ht : HxAt w hb c.a r) (hS : ¬ S hb) (hr : r < 16) (on : HxOn h G (h.root r) nb ch UL) (hc : cntE nb ch < 16777216) :
    Calls Tryz.prog 37 #[.pointer (some ⟨hb, 0, none⟩)] w fun e w' => e = .returned (.tuple #[.int .i64 nb, .int .i64 ((nb - whole nb : Nat) : Int)]) ∧ ActPost J B S c h G w w' := by
  have HRF := Lib.hid (hx_live x ht hr)
  have HTB : Hid (∀ k, Calls Tryz.prog 77 #[.pointer (some ⟨hb, 0, none⟩)] (w.drewN k) (TbPost J B S c h G (w.drewN k) (h.root r) nb (cntE nb ch) (fstF ch))) := Lib.hid fun k =>
    table_on (x.below (below_drewN w k)) (ht.below (below_drewN w k)) hS hr on hc
  have hn1 := on.nb.1
  have hn2 := on.nb.2
  clear x ht hS on hc
  go_enter Tryz.func37, Tryz.ntmps37
  go_wp2_with fail
  refine HRF.out.mono ?_
  rintro e w1 ⟨rfl, k, hw⟩
  subst w1
  go_wp2_with fail
  refine (HTB.out k).mono ?_
  rintro e w2 ⟨tb, S', rfl, hlt, nst, hT, tu, x2⟩
  have c1 := hT.cells.2.1
  have HNS : Hid (∀ j, Calls Tryz.prog 82 #[.pointer (some ⟨tb, 0, none⟩)] (w2.drewN j) fun e w' => e = .returned (.int .i64 ((nb - whole nb : Nat) : Int)) ∧ ∃ k, w' = (w2.drewN j).drewN k) := Lib.hid fun j => nextSplit_h (hT.drewN j) hn1 (by omega)
  have HE : Hid (∀ j, ActPost J B S c h G w (w2.drewN j)) := Lib.hid fun j =>
    ⟨S', ((Turn.ofBelow (below_drewN w k)).trans tu).trans (Turn.ofBelow (below_drewN w2 j)), x2.below (below_drewN w2 j)⟩
  clear hT tu x2 nst hlt HTB HRF
  go_wp2_with fail
  go_region_with (go_at_call 82; refine (HNS.out 1).mono ?_; rintro e w3 ⟨rfl, j, hw⟩; subst w3)
  all_goals go_wp2
  all_goals go_ret2
  all_goals exact ⟨rfl, HE.out _⟩
end
end Go.Proofs.YtefddiikdamnbaaGreatDoor.Dm
