/- Texts of the same proof, one behind the other: XAF, XAG, XAH, XAI, XAK, XAX, XBA, XAM, XAJ. -/
import Derived.Test.YtefddiikdamnbaaGreatDoorMBL
import Derived.Test.YtefddiikdamnbaaGreatDoorMBK
import Derived.Test.YtefddiikdamnbaaGreatDoorMAE
/- An index on pages, in plain words: a sheet turns, a bucket grows, a sheet is taken out. No program's function is met here. -/
set_option maxRecDepth 100000
namespace Go.Proofs.YtefddiikdamnbaaGreatDoor.Dm
open Go Go.RowKit

/-- What is beside an index stays. -/
def HxTo (r : Nat) (UL : List Nat) (h : Hd) (G : Nat → List UInt8) (h' : Hd) (G' : Nat → List UInt8) : Prop := (∀ q ∈ UL, G' q = G q) ∧ ∀ j, j ≠ r → h'.root j = h.root j
theorem HxTo.trans {r : Nat} {UL : List Nat} {h h' h'' : Hd} {G G' G'' : Nat → List UInt8} (a : HxTo r UL h G h' G') (b : HxTo r UL h' G' h'' G'') : HxTo r UL h G h'' G'' := ⟨fun q hq => (b.1 q hq).trans (a.1 q hq), fun j hj => (b.2 j hj).trans (a.2 j hj)⟩
theorem shE_next {nx nx' : Nat} {l : List Et} (h : shE nx l = shE nx' l) (h1 : nx < 4096) (h2 : nx' < 4096) : nx = nx' := by
  unfold shE at h
  injection h with h3 h4
  injection h4 with h5 _
  have e1 := congrArg UInt8.toNat h3
  have e2 := congrArg UInt8.toNat h5
  rw [byt_nat', byt_nat'] at e1 e2
  omega
theorem fst_upd {ch : Nat → Chn} {b : Nat} {c : Chn} (h : fstP c = fstP (ch b)) : (fun j => fstP (upd ch b c j)) = fun j => fstP (ch j) := by
  funext j
  by_cases e : j = b
  · rw [e, upd_same, h]
  · rw [upd_other _ _ e]
section
variable {h h' : Hd} {G G' : Nat → List UInt8} {top n b q k p r : Nat} {l m : List Et} {c d : Chn} {ch : Nat → Chn} {UL : List Nat} {e : Et}
theorem entsC_mid {c d : Chn} {q : Nat} {l : List Et} : entsC (c ++ (q, l) :: d) = entsC c ++ (l ++ entsC d) := by rw [entsC_app, entsC_cons]
/-- A sheet is written anew, and the table kept. -/
theorem HxOn.sheet (x : HxOn h G top n ch UL) (hb : b < n) (ht : top ≠ 0) (hc : ch b = c ++ (q, l) :: d) (hm : m ≠ []) (hf : (bodyE m).length ≤ 510) (ho : ∀ e ∈ m, InE e) (hbel : ∀ e ∈ m, bktE n e.1 = b) (hnd : (entsC c ++ (m ++ entsC d)).Nodup) (hk : k + l.length = cntE n ch + m.length) :
    HxOn h (upd (upd G q (shE (fstP d) m)) top (tbE n k (fstF ch))) top n (upd ch b (c ++ (q, m) :: d)) UL := by
  have h1 := x.on b
  have h2 := x.nd b
  rw [hc] at h1 h2
  have h3 := ChOn.put h1 h2 hm hf ho
  have hqt : q ≠ top := (h1.has q (by rw [pgsC_app, pgsC_cons]; simp)).2
  have hp : pgsC (c ++ (q, m) :: d) = pgsC (ch b) := by rw [hc, pgsC_app, pgsC_app]; rfl
  have hcn : cntE n (upd ch b (c ++ (q, m) :: d)) = k := by
    have := cntE_upd (ch := ch) (c := c ++ (q, m) :: d) hb
    rw [hc, entsC_mid, entsC_mid] at this
    simp only [List.length_append] at this
    omega
  refine x.set hb ht (h3.congr fun j hj => ⟨(h3.has j hj).1, ?_, (h3.has j hj).2⟩) (hp ▸ x.nd b) (fun j hj => .inl (hp ▸ hj)) (fun e he => ?_) (by rw [entsC_mid]; exact hnd) (fun j hj hn ht2 => ⟨hj, ?_⟩) ⟨(x.tbl ht).1, ?_⟩ (fun j hj => .inl ⟨hj, fun h => hp ▸ h⟩)
  · rw [upd_other _ _ (h3.has j hj).2]
  · rw [entsC_mid] at he
    have h5 := x.bel b
    rw [hc, entsC_mid] at h5
    rcases List.mem_append.1 he with h4 | h4
    · exact h5 e (List.mem_append_left _ h4)
    · rcases List.mem_append.1 h4 with h4 | h4
      · exact hbel e h4
      · exact h5 e (List.mem_append_right _ (List.mem_append_right _ h4))
  · rw [upd_other _ _ ht2, upd_other]
    rintro rfl
    exact hn (by rw [hc, pgsC_app, pgsC_cons]; simp)
  · rw [upd_same, hcn, fst_upd (by rw [hc]; exact fstP_app c q m l d)]
    rfl
/-- One entry more on a sheet. -/
theorem HxOn.add (x : HxOn h G top n ch UL) (hb : b < n) (ht : top ≠ 0) (hc : ch b = c ++ (q, l) :: d) (he : InE e) (hbk : bktE n e.1 = b) (hn : e ∉ entsC (ch b)) (hf : (bodyE (l ++ [e])).length ≤ 510) :
    HxOn h (upd (upd G q (shE (fstP d) (l ++ [e]))) top (tbE n (cntE n ch + 1) (fstF ch))) top n (upd ch b (c ++ (q, l ++ [e]) :: d)) UL := by
  have h1 := x.on b
  have h2 := x.once b
  have h3 := x.bel b
  rw [hc] at h1 h2 h3 hn
  rw [entsC_mid] at h2 h3 hn
  have hl := (ChOn.app h1).1.ok
  refine x.sheet hb ht hc (by simp) hf (fun y hy => ?_) (fun y hy => ?_) ?_ (by simp; omega)
  · rcases List.mem_append.1 hy with h4 | h4
    · exact hl y h4
    · rw [List.mem_singleton.1 h4]; exact he
  · rcases List.mem_append.1 hy with h4 | h4
    · exact h3 y (List.mem_append_right _ (List.mem_append_left _ h4))
    · rw [List.mem_singleton.1 h4]; exact hbk
  · have e1 : (entsC c ++ ((l ++ [e]) ++ entsC d)).Perm (e :: (entsC c ++ (l ++ entsC d))) := by
      have e2 : entsC c ++ ((l ++ [e]) ++ entsC d) = (entsC c ++ l) ++ e :: entsC d := by simp
      rw [e2]
      refine List.perm_middle.trans ?_
      rw [List.append_assoc]
    exact e1.nodup_iff.2 (List.nodup_cons.2 ⟨hn, h2⟩)
/-- A bucket begins with a new sheet. -/
theorem HxOn.grow (x : HxOn h G top n ch UL) (hb : b < n) (ht : top ≠ 0) (t : Took h G [q] h' G') (he : InE e) (hbk : bktE n e.1 = b) (hn : e ∉ entsC (ch b)) (hf : (bodyE [e]).length ≤ 510) :
    HxOn h' (upd (upd G' q (shE (fstP (ch b)) [e])) top (tbE n (cntE n ch + 1) (upd (fstF ch) b q))) top n (upd ch b ((q, [e]) :: ch b)) UL := by
  obtain ⟨hqn, hql⟩ := t.new q (by simp)
  have htp := (x.tbl ht).1
  have hqt : q ≠ top := fun h => hqn (h ▸ htp)
  have h1 := x.on b
  have hcn : cntE n (upd ch b ((q, [e]) :: ch b)) = cntE n ch + 1 := by
    have := cntE_upd (ch := ch) (c := (q, [e]) :: ch b) hb
    rw [entsC_cons] at this
    simp only [List.length_append, List.length_singleton] at this
    omega
  have hG : ∀ j, h.has j → j ≠ top → upd (upd G' q (shE (fstP (ch b)) [e])) top (tbE n (cntE n ch + 1) (upd (fstF ch) b q)) j = G j := fun j hj hj2 => by
    rw [upd_other _ _ hj2, upd_other _ _ (fun e : j = q => hqn (e ▸ hj)), t.G j hj]
  refine x.set hb ht ⟨⟨(t.has q).2 (.inr (by simp)), hqt, ?_, by simp, hf, ?_⟩, h1.congr fun j hj => ⟨(t.has j).2 (.inl (h1.has j hj).1), hG j (h1.has j hj).1 (h1.has j hj).2, (h1.has j hj).2⟩⟩ ?_ (fun j hj => ?_) (fun y hy => ?_) ?_ (fun j hj hn ht2 => ⟨(t.has j).2 (.inl hj), hG j hj ht2⟩) ⟨(t.has top).2 (.inl htp), ?_⟩ (fun j hj => ?_)
  · rw [upd_other _ _ hqt, upd_same]
  · intro y hy
    rw [List.mem_singleton.1 hy]; exact he
  · rw [pgsC_cons]
    exact List.nodup_cons.2 ⟨fun hm => hqn (h1.has q hm).1, x.nd b⟩
  · rw [pgsC_cons] at hj
    rcases List.mem_cons.1 hj with rfl | hj
    · exact .inr hqn
    · exact .inl hj
  · rw [entsC_cons] at hy
    rcases List.mem_append.1 hy with h4 | h4
    · rw [List.mem_singleton.1 h4]; exact hbk
    · exact x.bel b y h4
  · rw [entsC_cons]
    exact List.nodup_cons.2 ⟨hn, x.once b⟩
  · rw [upd_same, hcn]
    refine congrArg (tbE n _) ?_
    funext j
    by_cases e1 : j = b
    · rw [e1, upd_same, upd_same]; rfl
    · rw [upd_other _ _ e1, upd_other _ _ e1]; rfl
  · rcases (t.has j).1 hj with h4 | h4
    · exact .inl ⟨h4, fun h5 => by rw [pgsC_cons]; exact List.mem_cons_of_mem _ h5⟩
    · exact .inr (by rw [pgsC_cons, List.mem_singleton.1 h4]; exact List.mem_cons_self ..)
/-- The first entry of all: a table and a sheet. -/
theorem HxOn.begin (x : HxOn h G 0 n ch UL) (hr : ∀ j, h'.has j ↔ h.has j ∨ j ∈ [q, p]) (hnew : ∀ j ∈ [q, p], ¬ h.has j ∧ j < 4096) (hne : q ≠ p) (hp0 : p ≠ 0) (hGu : ∀ j, h.has j → G' j = G j) (he : InE e) (hf : (bodyE [e]).length ≤ 510) :
    HxOn h' (upd (upd G' q (shE 0 [e])) p (tbE 1 1 (upd (fstF ch) 0 q))) p 1 (upd ch 0 [(q, [e])]) UL := by
  obtain ⟨n1, hc0⟩ := x.bare rfl
  have hall : ∀ j, ch j = [] := fun j => by
    by_cases e1 : j = 0
    · rw [e1]; exact hc0
    · exact x.out j (by omega)
  have hG : ∀ j, h.has j → upd (upd G' q (shE 0 [e])) p (tbE 1 1 (upd (fstF ch) 0 q)) j = G j := fun j hj => by
    rw [upd_other _ _ (fun e : j = p => (hnew p (by simp)).1 (e ▸ hj)), upd_other _ _ (fun e : j = q => (hnew q (by simp)).1 (e ▸ hj)), hGu j hj]
  have hcase : ∀ (P : Nat → Chn → Prop), P 0 [(q, [e])] → (∀ j, j ≠ 0 → P j []) → ∀ j, P j (upd ch 0 [(q, [e])] j) := fun P h1 h2 j => by
    by_cases hj : j = 0
    · subst hj; rw [upd_same]; exact h1
    · rw [upd_other _ _ hj, hall j]; exact h2 j hj
  have hbk : bktE 1 e.1 = 0 := by have := bkt_lt (n := 1) (by omega) e.1; omega
  refine ⟨by omega, hcase (fun _ d => ChOn h' _ p d) ⟨⟨(hr q).2 (.inr (by simp)), hne, ?_, by simp, hf, ?_⟩, trivial⟩ (fun _ _ => trivial), fun j hj => ?_, hcase (fun _ d => (pgsC d).Nodup) (by simp [pgsC]) (fun _ _ => List.nodup_nil), fun j j' y hjj hq hq' => ?_, hcase (fun j d => ∀ e ∈ entsC d, bktE 1 e.1 = j) ?_ (fun j _ y hy => by simp [entsC] at hy), hcase (fun _ d => (entsC d).Nodup) (by simp [entsC]) (fun _ _ => List.nodup_nil), fun h0 => absurd h0 hp0, fun _ => ⟨(hr p).2 (.inr (by simp)), ?_⟩, fun j hj => ?_, fun j hj => ?_⟩
  · rw [upd_other _ _ hne, upd_same]; rfl
  · intro y hy
    rw [List.mem_singleton.1 hy]; exact he
  · rw [upd_other _ _ (by omega)]; exact hall j
  · by_cases e1 : j = 0
    · rw [upd_other _ _ (by omega), hall j'] at hq'; simp [pgsC] at hq'
    · rw [upd_other _ _ e1, hall j] at hq; simp [pgsC] at hq
  · intro y hy
    have h1 : y = e := by simpa [entsC] using hy
    rw [h1]; exact hbk
  · rw [upd_same]
    have h1 : cntE 1 (upd ch 0 [(q, [e])]) = 1 := by
      show cntE (0 + 1) _ = 1
      rw [cntE_succ, upd_same]
      simp [cntE, entsC]
    rw [h1]
    refine congrArg (tbE 1 1) ?_
    funext j
    by_cases e1 : j = 0
    · rw [e1, upd_same, upd_same]; rfl
    · rw [upd_other _ _ e1, upd_other _ _ e1]; rfl
  · rcases (hr j).1 hj with h4 | h4
    · rcases x.own j h4 with h5 | ⟨b, h5⟩ | h5
      · exact absurd h4.1 (by omega)
      · rw [hall b] at h5; simp [pgsC] at h5
      · exact .inr (.inr h5)
    · rcases List.mem_cons.1 h4 with rfl | h4
      · exact .inr (.inl ⟨0, by rw [upd_same]; simp [pgsC]⟩)
      · exact .inl (List.mem_singleton.1 h4)
  · obtain ⟨h1, h2, h3⟩ := x.oth j hj
    refine ⟨(hr j).2 (.inl h1), fun h4 => (hnew p (by simp)).1 (h4 ▸ h1), fun b hb => ?_⟩
    by_cases e1 : b = 0
    · rw [e1, upd_same] at hb
      have h4 : j = q := by simpa [pgsC] using hb
      exact (hnew q (by simp)).1 (h4 ▸ h1)
    · rw [upd_other _ _ e1, hall b] at hb; simp [pgsC] at hb
end
end Go.Proofs.YtefddiikdamnbaaGreatDoor.Dm

/- Blocks that stand beside an action while it turns; how a call's memory is put together. -/
set_option maxRecDepth 100000
namespace Go.Proofs.YtefddiikdamnbaaGreatDoor.Dm
open Go Go.RowKit

theorem _root_.Go.Proofs.YtefddiikdamnbaaGreatDoor.Turn.stepK {S0 S S' T : Nat → Prop} {w A A' : World} (h : Turn S0 w S A) (k : Kept T A A') (hT : ∀ i, T i → S i ∨ w.heap.size ≤ i) (hs : ∀ i, i < A.heap.size → S' i → S i) : Turn S0 w S' A' :=
  ⟨h.1.trans k (fun i hi => (hT i hi).elim (fun h1 => by
      by_cases hl : i < w.heap.size
      · exact .inl (h.2 i hl h1)
      · exact .inr (by omega)) .inr), fun i hi h' => h.2 i hi (hs i (Nat.lt_of_lt_of_le hi h.1.size) h')⟩
/-- Blocks that stand as they were. -/
def Stay (w : World) (Ks : Nat → Prop) (S : Nat → Prop) (A : World) : Prop := ∀ k, Ks k → ¬ S k ∧ A.heap[k]? = w.heap[k]?
section
variable {w A A' : World} {Ks S S' T : Nat → Prop}
theorem Stay.refl (h : ∀ k, Ks k → ¬ S k) : Stay w Ks S w := fun k hk => ⟨h k hk, rfl⟩
theorem Stay.lt (f : Stay w Ks S A) {k : Nat} (hk : Ks k) (hw : k < w.heap.size) : k < A.heap.size := by
  have := (f k hk).2
  rw [Array.getElem?_eq_getElem hw] at this
  exact (Array.getElem?_eq_some_iff.1 this).1
theorem Stay.step (f : Stay w Ks S A) (hw : ∀ k, Ks k → k < w.heap.size) (k : Kept T A A') (hT : ∀ i, Ks i → T i → S i) (hs : ∀ i, i < A.heap.size → S' i → S i) : Stay w Ks S' A' := fun i hi =>
  ⟨fun h => (f i hi).1 (hs i (f.lt hi (hw i hi)) h), (k.block i (f.lt hi (hw i hi)) (fun h => (f i hi).1 (hT i hi h))).trans (f i hi).2⟩
theorem Stay.cell (f : Stay w Ks S A) {k : Nat} (hk : Ks k) (i : Nat) : A.cell? ⟨k, i, none⟩ = w.cell? ⟨k, i, none⟩ := World.cell?_of_block (f k hk).2
theorem Stay.mono {Ls : Nat → Prop} (f : Stay w Ks S A) (h : ∀ k, Ls k → Ks k) : Stay w Ls S A := fun k hk => f k (h k hk)
theorem Stay.hx {hb a r : Nat} (f : Stay w Ks S A) (hk : Ks hb) (h : HxAt w hb a r) : HxAt A hb a r := by unfold HxAt at h ⊢; exact (f hb hk).2.trans h
theorem Stay.tb {tb pg n cnt : Nat} {F : Nat → Nat} (f : Stay w Ks S A) (hk : Ks tb) (h : TbAt w tb pg n cnt F) : TbAt A tb pg n cnt F := by unfold TbAt at h ⊢; exact (f tb hk).2.trans h
theorem Stay.it {hb tb o m cp b1 b2 b3 : Nat} (f : Stay w Ks S A) (h1 : Ks b1) (h2 : Ks b2) (h3 : Ks b3) (h : IterAt w hb tb o m cp b1 b2 b3) : IterAt A hb tb o m cp b1 b2 b3 := ⟨(f b1 h1).2.trans h.1, (f b2 h2).2.trans h.2.1, (f b3 h3).2.trans h.2.2⟩
end
end Go.Proofs.YtefddiikdamnbaaGreatDoor.Dm

/- What an index holds behind a put, in plain words. -/
set_option maxRecDepth 100000
namespace Go.Proofs.YtefddiikdamnbaaGreatDoor.Dm
open Go Go.RowKit

section
variable {J : List RawOp → Prop} {B : Nat} {S : Nat → Prop} {c : Ac} {h h' h1 : Hd} {G G1 : Nat → List UInt8} {w : World} {r n b q pg : Nat} {ch : Nat → Chn} {UL : List Nat} {e : Et} {l : List Et} {p1 p2 : Chn} {ps : List Nat}
theorem root_took (k : h.Ok) (hr : h1.roots = h.roots) (hr16 : r < 16) (p j : Nat) : (h1.setRoot r p).root j = if j = r then p else h.root j := by
  rw [← Hd.root_setRoot h k r p j hr16]
  simp [Hd.root, Hd.setRoot, hr]
theorem ents_upd {d : Chn} (hd : ∀ y, y ∈ entsC d ↔ y ∈ entsC (ch b) ∨ y = e) (j : Nat) (y : Et) : y ∈ entsC (upd ch b d j) ↔ y ∈ entsC (ch j) ∨ j = b ∧ y = e := by
  by_cases hj : j = b
  · subst hj
    rw [upd_same, hd]
    simp
  · rw [upd_other _ _ hj]
    simp [hj]
/-- Behind a put: one entry more. -/
def PutIs (r n : Nat) (ch : Nat → Chn) (UL : List Nat) (h : Hd) (G : Nat → List UInt8) (e : Et) (h' : Hd) (G' : Nat → List UInt8) : Prop :=
  ∃ ch', HxOn h' G' (h'.root r) n ch' UL ∧ HxTo r UL h G h' G' ∧ h'.root r ≠ 0 ∧ (∀ j y, y ∈ entsC (ch' j) ↔ y ∈ entsC (ch j) ∨ j = bktE n e.1 ∧ y = e) ∧ cntE n ch' = cntE n ch + 1
theorem put_sheet (on : HxOn h G (h.root r) n ch UL) (hc : ch (bktE n e.1) = p1 ++ (q, l) :: p2) (he : InE e) (hn : e ∉ entsC (ch (bktE n e.1))) (hf : (bodyE (l ++ [e])).length ≤ 510) (ht : h.root r ≠ 0) :
    PutIs r n ch UL h G e h (upd (upd G q (shE (fstP p2) (l ++ [e]))) (h.root r) (tbE n (cntE n ch + 1) (fstF ch))) := by
  have hb := bkt_lt on.nb.1 e.1
  have hx := on.add hb ht hc he rfl hn hf
  refine ⟨_, hx, ⟨fun j hj => ?_, fun _ _ => rfl⟩, ht, ents_upd fun y => ?_, ?_⟩
  · obtain ⟨_, h2, h3⟩ := on.oth j hj
    rw [upd_other _ _ h2, upd_other]
    rintro rfl
    exact h3 (bktE n e.1) (by rw [hc, pgsC_app, pgsC_cons]; simp)
  · rw [hc, entsC_mid, entsC_mid]
    simp only [List.mem_append, List.mem_singleton]
    constructor
    · rintro (h | (h | h) | h)
      · exact .inl (.inl h)
      · exact .inl (.inr (.inl h))
      · exact .inr h
      · exact .inl (.inr (.inr h))
    · rintro ((h | h | h) | h)
      · exact .inl h
      · exact .inr (.inl (.inl h))
      · exact .inr (.inr h)
      · exact .inr (.inl (.inr h))
  · have := cntE_upd (ch := ch) (c := p1 ++ (q, l ++ [e]) :: p2) hb
    rw [hc, entsC_mid, entsC_mid] at this
    simp only [List.length_append, List.length_singleton] at this
    omega
theorem InE.fit1 (he : InE e) : (bodyE [e]).length ≤ 510 := by
  rw [bodyE_len]
  have := (held_len he).2
  simp [sizeE]
  omega
theorem put_grow (k : h.Ok) (hr : r < 16) (on : HxOn h G (h.root r) n ch UL) (he : InE e) (hn : e ∉ entsC (ch (bktE n e.1))) (tk : Took h G ps h1 G1)
    (hps : (h.root r ≠ 0 ∧ ps = [q] ∧ h' = h1 ∧ pg = h.root r) ∨ (h.root r = 0 ∧ ps = [q, pg] ∧ h' = h1.setRoot r pg)) :
    (h'.has q ∧ (G1 q).length = 512 ∧ h'.has pg ∧ pg ≠ q ∧ (G1 pg).length = 512) ∧ PutIs r n ch UL h G e h' (upd (upd G1 q (shE (fstF ch (bktE n e.1)) [e])) pg (tbE n (cntE n ch + 1) (upd (fstF ch) (bktE n e.1) q))) := by
  have hb := bkt_lt on.nb.1 e.1
  rcases hps with ⟨ht, rfl, rfl, rfl⟩ | ⟨h0, rfl, rfl⟩
  · have htp := on.tbl ht
    have hq := tk.new q (by simp)
    have hne : h.root r ≠ q := fun e => hq.1 (e ▸ htp.1)
    have hx := on.grow hb ht tk he rfl hn he.fit1
    have hroot : h'.root r = h.root r := by unfold Hd.root; rw [tk.roots]
    refine ⟨⟨(tk.has q).2 (.inr (by simp)), tk.len q (by simp), (tk.has _).2 (.inl htp.1), hne, ?_⟩, upd ch (bktE n e.1) ((q, [e]) :: ch (bktE n e.1)), ?_, ⟨fun j hj => ?_, fun j _ => ?_⟩, by rw [hroot]; exact ht, ents_upd fun y => ?_, ?_⟩
    · rw [tk.G _ htp.1, htp.2, tbE_len]
    · rw [hroot]; exact hx
    · obtain ⟨h1, h2, h3⟩ := on.oth j hj
      rw [upd_other _ _ h2, upd_other _ _ (fun e : j = q => hq.1 (e ▸ h1)), tk.G j h1]
    · unfold Hd.root; rw [tk.roots]
    · rw [entsC_cons]
      simp only [List.singleton_append, List.mem_cons]
      exact ⟨fun h => h.elim .inr .inl, fun h => h.elim .inr .inl⟩
    · have := cntE_upd (ch := ch) (c := (q, [e]) :: ch (bktE n e.1)) hb
      rw [entsC_cons] at this
      simp only [List.length_append, List.length_singleton] at this
      omega
  · have hroots := root_took k tk.roots hr pg
    have hrr : (h1.setRoot r pg).root r = pg := by rw [hroots, if_pos rfl]
    have hq := tk.new q (by simp)
    have hp := tk.new pg (by simp)
    have hnd := tk.nd
    have hne : q ≠ pg := by simpa using hnd
    rw [h0] at on
    obtain ⟨n1, hc0⟩ := on.bare rfl
    have hb0 : bktE n e.1 = 0 := by omega
    have hF0 : fstF ch 0 = 0 := by unfold fstF; rw [hc0]; rfl
    have hcn : cntE n ch = 0 := by
      rw [n1]
      show cntE (0 + 1) ch = 0
      rw [cntE_succ, hc0]
      rfl
    have hhas : ∀ j, (h1.setRoot r pg).has j ↔ h.has j ∨ j ∈ [q, pg] := fun j => tk.has j
    have hp0 : pg ≠ 0 := by have := ((hhas pg).2 (.inr (by simp))).1; omega
    have hx := on.begin (h' := h1.setRoot r pg) hhas tk.new hne hp0 tk.G he he.fit1
    refine ⟨⟨(hhas q).2 (.inr (by simp)), tk.len q (by simp), (hhas pg).2 (.inr (by simp)), fun e => hne e.symm, tk.len pg (by simp)⟩, upd ch 0 [(q, [e])], ?_, ⟨fun j hj => ?_, fun j hj => ?_⟩, by rw [hrr]; exact hp0, ?_, ?_⟩
    · rw [hrr, hb0, hF0, hcn, n1]; exact hx
    · obtain ⟨h1, h2, h3⟩ := on.oth j hj
      rw [upd_other _ _ (fun e : j = pg => hp.1 (e ▸ h1)), upd_other _ _ (fun e : j = q => hq.1 (e ▸ h1)), tk.G j h1]
    · rw [hroots, if_neg hj]
    · rw [hb0]
      refine ents_upd fun y => ?_
      rw [hc0]
      simp [entsC]
    · rw [hcn, n1]
      show cntE (0 + 1) _ = 1
      rw [cntE_succ, upd_same]
      simp [cntE, entsC]
end
end Go.Proofs.YtefddiikdamnbaaGreatDoor.Dm

/- What an index holds behind a take, in plain words. -/
set_option maxRecDepth 100000
namespace Go.Proofs.YtefddiikdamnbaaGreatDoor.Dm
open Go Go.RowKit

section
variable {h h' : Hd} {G : Nat → List UInt8} {r n q qa k : Nat} {ch : Nat → Chn} {UL : List Nat} {e : Et} {l la : List Et} {p1 p2 : Chn} {b : Nat}
/-- Behind a take: one entry less. -/
def TakeIs (r n : Nat) (ch : Nat → Chn) (UL : List Nat) (h : Hd) (G : Nat → List UInt8) (e : Et) (h' : Hd) (G' : Nat → List UInt8) : Prop :=
  ∃ ch', HxOn h' G' (h'.root r) n ch' UL ∧ HxTo r UL h G h' G' ∧ h'.root r ≠ 0 ∧ (∀ j y, y ∈ entsC (ch' j) ↔ y ∈ entsC (ch j) ∧ y ≠ e) ∧ cntE n ch' + 1 = cntE n ch
end
end Go.Proofs.YtefddiikdamnbaaGreatDoor.Dm

/- Contract: an entry is put into its bucket. -/
set_option maxRecDepth 100000
namespace Go.Proofs.YtefddiikdamnbaaGreatDoor.Dm
open Go Go.RowKit Go.Shelf
attribute [local go_sem] Oper.semAt_some

section
variable {J : List RawOp → Prop} {B : Nat} {S : Nat → Prop} {c : Ac} {h : Hd} {G : Nat → List UInt8} {w : World} {hb r n : Nat} {ch : Nat → Chn} {UL : List Nat} {e : Et}
/-- What put leaves. -/
def HPutPost (J : List RawOp → Prop) (B : Nat) (S : Nat → Prop) (c : Ac) (h : Hd) (G : Nat → List UInt8) (w : World) (r n : Nat) (ch : Nat → Chn) (UL : List Nat) (e : Et) (x : Ending) (w' : World) : Prop :=
  ∃ S', Turn S w S' w' ∧ ((e ∈ entsC (ch (bktE n e.1)) ∧ x = .returned (.int .i64 160) ∧ ActV J B S' c h G w') ∨
    (e ∉ entsC (ch (bktE n e.1)) ∧ x = .returned (.int .i64 0) ∧ ∃ h' G', ActV J B S' c h' G' w' ∧ PutIs r n ch UL h G e h' G'))
/-- The sheet that has room, so far. -/
def Roomy (G : Nat → List UInt8) (e : Et) (M cr : Nat) (S : Nat → Prop) (pre : Chn) (A : World) : Prop :=
  A.heap[cr]? = some (.cells #[.pointer none] 144 (0, 0)) ∨ ∃ sb q nx le p1 p2, A.heap[cr]? = some (.cells #[.pointer (some ⟨sb, 0, none⟩)] 144 (0, 0)) ∧ pre = p1 ++ (q, le) :: p2 ∧ HsAt A sb q nx le ∧ ¬ S sb ∧ M ≤ sb ∧ (bodyE le).length + (1 + (heldE e).length) ≤ 510 ∧ nx < 4096 ∧ G q = shE nx le
def PutJs (G : Nat → List UInt8) (w w5 : World) (S0 : Nat → Prop) (e : Et) (cv cr : Nat) (Ks : Nat → Prop) (S : Nat → Prop) (pre : Chn) (A : World) : Prop :=
  Stay w5 Ks S A ∧ Turn S0 w S A ∧ (¬ S cv ∧ A.heap[cv]? = some (.cells #[.int .i64 0] 23 (0, 0))) ∧ e ∉ entsC pre ∧ ¬ S cr ∧ Roomy G e (w5.heap.size + 3) cr S pre A
def PutJx (J : List RawOp → Prop) (B : Nat) (c : Ac) (h : Hd) (G : Nat → List UInt8) (w : World) (S0 : Nat → Prop) (e : Et) (cv : Nat) (j : Code) (S : Nat → Prop) (pre : Chn) (A : World) : Prop :=
  j = .ret ∧ Turn S0 w S A ∧ e ∈ entsC pre ∧ A.heap[cv]? = some (.cells #[.int .i64 160] 23 (0, 0)) ∧ ActV J B S c h G A
theorem Roomy.step {G : Nat → List UInt8} {e : Et} {M cr : Nat} {S S' T : Nat → Prop} {pre : Chn} {A A' : World} (h : Roomy G e M cr S pre A) (hk : Kept T A A') (hcr : ¬ T cr) (hT : ∀ k, T k → S k ∨ k < M) (hs : ∀ k, k < A.heap.size → S' k → S k) : Roomy G e M cr S' pre A' := by
  rcases h with h | ⟨sb, q, nx, le, p1, p2, h1, h2, h3, h4, h5, h6, h7⟩
  · exact .inl ((hk.block cr (Array.getElem?_eq_some_iff.1 h).1 hcr).trans h)
  · exact .inr ⟨sb, q, nx, le, p1, p2, (hk.block cr (Array.getElem?_eq_some_iff.1 h1).1 hcr).trans h1, h2, h3.kept hk (fun e => (hT sb e).elim h4 (fun e => by omega)), fun e => h4 (hs sb h3.lt e), h5, h6, h7⟩
theorem Roomy.more {G : Nat → List UInt8} {e : Et} {M cr : Nat} {S : Nat → Prop} {pre d : Chn} {A : World} (h : Roomy G e M cr S pre A) : Roomy G e M cr S (pre ++ d) A := by
  rcases h with h | ⟨sb, q, nx, le, p1, p2, h1, h2, h3⟩
  · exact .inl h
  · exact .inr ⟨sb, q, nx, le, p1, p2 ++ d, h1, by rw [h2]; simp, h3⟩
theorem cellE {w : World} {k : Nat} {v : Value} {T : TypeId} (h : w.heap[k]? = some (.cells #[v] T (0, 0))) : w.cell? ⟨k, 0, none⟩ = some v := (Lib.cell_of_heap h _).trans rfl
theorem PutJs.step {G : Nat → List UInt8} {w w5 : World} {S0 S S' T Ks : Nat → Prop} {e : Et} {cv cr : Nat} {pre : Chn} {A A' : World} (h : PutJs G w w5 S0 e cv cr Ks S pre A) (hw : w.heap.size ≤ w5.heap.size) (hKs : ∀ k, Ks k → k < w5.heap.size) (hcv : cv < w5.heap.size) (hcr : cr < w5.heap.size) (hk : Kept T A A') (hT : ∀ k, T k → S k ∨ (w5.heap.size ≤ k ∧ k < w5.heap.size + 3)) (hs : ∀ k, k < A.heap.size → S' k → S k) : PutJs G w w5 S0 e cv cr Ks S' pre A' := by
  obtain ⟨h1, h2, ⟨h3, h4⟩, h5, h6, h7⟩ := h
  have l1 := (Array.getElem?_eq_some_iff.1 h4).1
  have l2 : cr < A.heap.size := by
    rcases h7 with h7 | ⟨sb, q, nx, le, p1, p2, h8, _⟩
    · exact (Array.getElem?_eq_some_iff.1 h7).1
    · exact (Array.getElem?_eq_some_iff.1 h8).1
  exact ⟨h1.step hKs hk (fun k hk ht => (hT k ht).elim id (fun e => by have := hKs k hk; omega)) hs, h2.stepK hk (fun k ht => (hT k ht).imp id (fun e => by omega)) hs, ⟨fun e => h3 (hs _ l1 e), (hk.block cv l1 (fun ht => (hT _ ht).elim h3 (fun e => by omega))).trans h4⟩, h5, fun e => h6 (hs _ l2 e), h7.step hk (fun ht => (hT _ ht).elim h6 (fun e => by omega)) (fun k ht => (hT k ht).imp id (fun e => by omega)) hs⟩
end
end Go.Proofs.YtefddiikdamnbaaGreatDoor.Dm

/- Numbers of one's own, sorted. -/
set_option maxRecDepth 100000
namespace Go.Proofs.YtefddiikdamnbaaGreatDoor.Dm
open Go Go.RowKit

open Go.Sort in
theorem sorted_heap {w : World} {g n : Nat} {os : Array Obj} {cur : Array Value} {l : List Int} (hb : w.heap[g]? = some (.cells cur 3 (0, 0))) :
    (grow (putRow (Value.int .i64) (Sort.ahead w n) g 0 l.toArray) os).heap[g]? = some (.cells (putCells (Value.int .i64) 0 l.toArray cur) 3 (0, 0)) := by
  have hg : g < w.heap.size := (Array.getElem?_eq_some_iff.1 hb).1
  rw [heap_grow_old _ _ (by simpa using hg)]
  simp [putRow, mapBlock, Sort.ahead, Array.getElem?_modify, hb, onCells]
open Go.Sort in
/-- Numbers of one's own are sorted. -/
theorem sort7 {w1 : World} {v : Value} {xs : List Nat} (hn : NumsI w1 v xs) (hl : xs.length ≤ 1000000) :
    Calls Tryz.prog 98 #[v] w1 fun e w2 => e = .returned (.tuple #[]) ∧ ∃ P : List Nat, P.Perm xs ∧ P.Pairwise (fun a b => a ≤ b) ∧ NumsI w2 v P ∧ Kept (fun k => v.ownBlock = some k) w1 w2 := by
  rcases id hn.2 with ⟨rfl, h0⟩ | ⟨g, cap, cur, rfl, _, hg, hnc, hcm, hcs, htk⟩
  · obtain rfl : xs = [] := List.eq_nil_of_length_eq_zero h0
    refine (Tryz.slices_Sort_int_none none 0 _).mono ?_
    rintro e w2 ⟨rfl, rfl⟩
    exact ⟨rfl, [], List.Perm.refl _, List.Pairwise.nil, hn, Kept.refl _ _⟩
  · obtain ⟨ks, hks⟩ : ∃ ks : List Int, ks = xs.map fun x : Nat => (x : Int) := ⟨_, rfl⟩
    have hpk : (xs.map fun k : Nat => Value.int .i64 (k : Int)) = asInts ks := by rw [hks]; simp [asInts]
    have hkl : ks.length = xs.length := by rw [hks]; simp
    have hlt : g < w1.heap.size := (Array.getElem?_eq_some_iff.1 hg).1
    have htk' : cur.toList.take ks.length = asInts ks := by rw [← hpk, ← htk, hkl, Nat.mul_one]
    obtain ⟨so, hso⟩ : ∃ so, so = ks.mergeSort fun x y => decide (x ≤ y) := ⟨_, rfl⟩
    have hsl : so.length = ks.length := by rw [hso]; simp
    have hsp : so.Perm ks := by rw [hso]; exact List.mergeSort_perm _ _
    have hsr : so.Pairwise (fun x y => x ≤ y) := by
      rw [hso]
      refine (List.pairwise_mergeSort (le := fun x y : Int => decide (x ≤ y)) (fun a b c h1 h2 => ?_) (fun a b => ?_) ks).imp (fun h => of_decide_eq_true h)
      · simp at h1 h2 ⊢; omega
      · simp; omega
    have hsrt := Tryz.slices_Sort_int g 0 cap ks w1 (holds_ints hg htk') hlt (by omega)
    rw [hkl] at hsrt
    refine hsrt.mono ?_
    rintro e w2 ⟨rfl, nn, os, hw2⟩
    rw [← hso] at hw2
    obtain ⟨s1, s2, s3⟩ := sorted_ints (n := nn) (os := os) (l := so) hg (by omega)
    have hh := sorted_heap (n := nn) (os := os) (l := so) hg
    rw [← hw2] at s1 s2 s3 hh
    have hpos : so = (so.map Int.toNat).map fun x : Nat => (x : Int) := by
      rw [List.map_map]
      conv => lhs; rw [← List.map_id so]
      refine List.map_congr_left fun z hz => ?_
      have h1 : z ∈ ks := hsp.mem_iff.1 hz
      rw [hks] at h1
      obtain ⟨x, _, rfl⟩ := List.mem_map.1 h1
      simp
    refine ⟨rfl, so.map Int.toNat, ?_, ?_, ?_, ⟨s2.os, s2.tape, s2.output, s2.size, fun k hk hne => s2.block k hk (fun e => hne e.symm)⟩⟩
    · have h5 := hsp.map Int.toNat
      have h6 : ks.map Int.toNat = xs := by
        rw [hks, List.map_map]
        conv => rhs; rw [← List.map_id xs]
        exact List.map_congr_left fun x _ => by simp
      rw [h6] at h5; exact h5
    · rw [List.pairwise_map]
      exact hsr.imp fun h => by omega
    · have hcur : cur.size = cap := by omega
      refine ⟨by simp, .inr ⟨g, cap, _, ?_, Nat.zero_le _, hh, by simp; omega, hcm, by simp [putCells, hcur], ?_⟩⟩
      · simp; omega
      · have hm : ((so.map Int.toNat).map fun k : Nat => Value.int .i64 (k : Int)) = asInts so := by
          conv => rhs; rw [hpos]
          simp [asInts]
        rw [hm]
        refine List.ext_getElem? fun j => ?_
        rcases Nat.lt_or_ge j so.length with hj | hj
        · rw [List.getElem?_take_of_lt (by simp; omega)]
          have := s1 j (.int .i64 (so[j]'hj)) (by simp [asInts, hj])
          rw [Lib.cell_of_heap hh] at this
          rw [Array.getElem?_toList, this]
          simp [asInts, hj]
        · rw [List.getElem?_eq_none (by simp; omega), List.getElem?_eq_none (by simp [asInts]; omega)]

end Go.Proofs.YtefddiikdamnbaaGreatDoor.Dm

/- Numbers that a loop collects: their slice lies in a cell; a key's addresses. -/
set_option maxRecDepth 100000
namespace Go.Proofs.YtefddiikdamnbaaGreatDoor.Dm
open Go Go.RowKit

/-- An append, as a step of a region that draws its order inside a round, out of its run. -/
theorem step_app_in {F : Fence} {n : Nat} {ops : Array Oper} {o : Oper} {a : Act} {K : Act → World → Prop} {Q : Exit → Act → World → Prop} {E : Prop} {w w' : World} (hgd : o.guard = none) (s x : Operand) (t : TypeId)
    (ho : o.op = .call { callee := .builtin .append, args := #[s, x], argTypes := #[t, t] }) (sv xv v : Value) (hs : a.eval s = sv) (hx : a.eval x = xv) (hr : (Builtin.append_ #[t, t] o.type #[sv, xv]).run Tryz.prog w = .ok v w') (h : K (a.put o.dst v) w') :
    if Region.wanted o (yielded ops a.tmps) = true then Oper.wpIn F n Tryz.prog o a w K Q else E := by
  have hw : Region.wanted o (yielded ops a.tmps) = true := by simp [Region.wanted, hgd]
  rw [if_pos hw]
  unfold Oper.wpIn
  refine ⟨?_, ?_⟩
  · simp [Oper.about, ho, resolve, Target.leads, Sem.run_pure]
  · rw [Oper.semAt_plain F _ _ (by rw [ho]; intro c hc'; cases hc')]
    simp [execOp, ho, resolve, invoke, builtin, hs, hx, hr, Result.andThen]
    exact h

/-- The addresses of a key. -/
def tidsE (l : List Et) (d : Dt) : List Nat := (l.filter fun x => decide (x.1 = d)).map fun x => x.2.toNat
theorem tidsE_app (l m : List Et) (d : Dt) : tidsE (l ++ m) d = tidsE l d ++ tidsE m d := by simp [tidsE]
theorem tidsE_take {l le : List Et} {d : Dt} {k : Nat} {e : Et} (h : le[k]? = some e) : tidsE (l ++ le.take (k + 1)) d = tidsE (l ++ le.take k) d ++ (if e.1 = d then [e.2.toNat] else []) := by
  obtain ⟨hk, he⟩ := List.getElem?_eq_some_iff.1 h
  rw [List.take_succ_eq_append_getElem hk, he, ← List.append_assoc, tidsE_app (l ++ le.take k)]
  congr 1
  unfold tidsE
  by_cases hd : e.1 = d <;> simp [hd]
theorem tidsE_len (l : List Et) (d : Dt) : (tidsE l d).length ≤ l.length := by
  unfold tidsE
  rw [List.length_map]
  exact List.length_filter_le _ _
/-- Numbers in a row of one's own, whose slice lies in a cell. -/
def NumCell (bl M : Nat) (S : Nat → Prop) (m : List Nat) (A : World) : Prop := ∃ v, A.heap[bl]? = some (.cells #[v] 57 (0, 0)) ∧ NumsI A v m ∧ ∀ g, v.ownBlock = some g → ¬ S g ∧ M ≤ g
section
variable {bl M : Nat} {S S' T : Nat → Prop} {m : List Nat} {A A' : World}
theorem NumCell.step (h : NumCell bl M S m A) (hk : Kept T A A') (hbl : ¬ T bl) (hT : ∀ g, ¬ S g → M ≤ g → (∃ cur, A.heap[g]? = some (.cells cur 3 (0, 0))) → ¬ T g) (hs : ∀ k, k < A.heap.size → S' k → S k) : NumCell bl M S' m A' := by
  obtain ⟨v, h1, h2, h3⟩ := h
  refine ⟨v, (hk.block bl (Array.getElem?_eq_some_iff.1 h1).1 hbl).trans h1, h2.kept hk (fun g hg => hT g (h3 g hg).1 (h3 g hg).2 (h2.block g hg)), fun g hg => ?_⟩
  obtain ⟨cur, hc⟩ := h2.block g hg
  exact ⟨fun e => (h3 g hg).1 (hs g (Array.getElem?_eq_some_iff.1 hc).1 e), (h3 g hg).2⟩
/-- One number more. -/
theorem NumCell.push (h : NumCell bl M S m A) (hM : M ≤ A.heap.size) (hbl : bl < M) (hS : ∀ k, S k → k < A.heap.size) (hl : m.length ≤ 1000000) (y : Nat) (ty : TypeId) {v : Value} (hv : A.heap[bl]? = some (.cells #[v] 57 (0, 0))) :
    ∃ a n cp w', (Builtin.append_ #[57, 57] ty #[v, .slice (some ⟨A.heap.size, 0, none⟩) 1 1]).run Tryz.prog (A.alloc (.cells #[.int .i64 y] 3)) = .ok (.slice a n cp) w' ∧ w'.cell? ⟨bl, 0, none⟩ = some v ∧ w'.frozen? ⟨bl, 0, none⟩ = false ∧
      NumCell bl M S (m ++ [y]) (w'.setCell ⟨bl, 0, none⟩ (.slice a n cp)) ∧ Kept (fun k => k = bl ∨ (M ≤ k ∧ ¬ S k ∧ ∃ cur, A.heap[k]? = some (.cells cur 3 (0, 0)))) A (w'.setCell ⟨bl, 0, none⟩ (.slice a n cp)) := by
  obtain ⟨v0, h1, h2, h3⟩ := h
  rw [h1] at hv
  cases hv
  have hb : Below A.heap.size A (A.alloc (.cells #[.int .i64 y] 3)) := (Below.refl _ _).alloc (Nat.le_refl _) _
  obtain ⟨v', w', hr, hn, hg1, hg2⟩ := nums_push A v m y h2 hl ty
  obtain ⟨a, cp, hv'⟩ := hn.shape
  subst hv'
  have hk : Kept (fun k => v.ownBlock = some k) A w' := ⟨hg1.os, hg1.tape, hg1.output, Nat.le_trans hb.size hg1.size, fun k hk1 hk2 => by
    rw [hg1.block k (Nat.lt_of_lt_of_le hk1 hb.size) (fun e => hk2 e.symm)]
    exact hb.block k hk1⟩
  have hl1 : bl < A.heap.size := (Array.getElem?_eq_some_iff.1 h1).1
  have hn1 : ¬ v.ownBlock = some bl := fun e => by have := (h3 _ e).2; omega
  have b1 := (hk.block _ hl1 hn1).trans h1
  have hks : Kept (fun k => k = bl) w' (w'.setCell ⟨bl, 0, none⟩ (.slice a (m ++ [y]).length cp)) := Kept.setCell (fun k => k = bl) w' rfl _
  refine ⟨a, _, cp, w', hr, cellE b1, Lib.frozen_of_heap b1 0, ⟨_, (heap_set_at b1 0 _).trans rfl, hn.kept hks (fun g hg e => ?_), fun g hg => ?_⟩, (hk.mono fun k e => .inr ⟨(h3 k e).2, (h3 k e).1, h2.block k e⟩).trans hks (fun k e => .inl (.inl e))⟩
  · have e' : g = bl := e
    rcases hg2 g hg with e2 | e2
    · have := (h3 g e2).2; omega
    · rw [World.size_alloc] at e2; omega
  · rcases hg2 g hg with e2 | e2
    · exact h3 g e2
    · rw [World.size_alloc] at e2
      exact ⟨fun e => by have := hS g e; omega, by omega⟩
end
end Go.Proofs.YtefddiikdamnbaaGreatDoor.Dm

/- The end of a change: a sheet and the table in hand, all else stands. -/
set_option maxRecDepth 100000
namespace Go.Proofs.YtefddiikdamnbaaGreatDoor.Dm
open Go Go.RowKit

section
variable {J : List RawOp → Prop} {B : Nat} {S0 S Ks : Nat → Prop} {c : Ac} {h : Hd} {G : Nat → List UInt8} {w R A : World} {hb r n cnt tb sb q nx pg : Nat} {F : Nat → Nat} {le : List Et} {e : Et}
/-- What stands beside a sheet and the table. -/
structure TailF (w R : World) (Ks : Nat → Prop) (c : Ac) (hb r tb sb : Nat) : Prop where
  ks : ∀ k, Ks k → k < R.heap.size ∧ k ≠ sb ∧ k ≠ tb
  mh : Ks hb
  hx : HxAt R hb c.a r
  ne : sb ≠ tb
  low : w.heap.size ≤ tb ∧ w.heap.size ≤ sb ∧ 1 ≤ tb ∧ 1 ≤ sb
structure TailT (J : List RawOp → Prop) (B : Nat) (c : Ac) (w R : World) (S0 Ks : Nat → Prop) (tb n sb q nx pg cnt : Nat) (F : Nat → Nat) (le : List Et) (h : Hd) (G : Nat → List UInt8) (S : Nat → Prop) (A : World) : Prop where
  act : ActV J B S c h G A
  turn : Turn S0 w S A
  stay : Stay R Ks S A
  sh : HsAt A sb q nx le ∧ ¬ S sb
  tb : TbAt A tb pg n cnt F ∧ ¬ S tb

theorem tail_turn {A' : World} {S' : Nat → Prop} {h' : Hd} {G' : Nat → List UInt8} (f : TailF w R Ks c hb r tb sb) (t : TailT J B c w R S0 Ks tb n sb q nx pg cnt F le h G S A) (tu : Turn S A S' A') (x : ActV J B S' c h' G' A') : TailT J B c w R S0 Ks tb n sb q nx pg cnt F le h' G' S' A' :=
  ⟨x, t.turn.trans tu, t.stay.step (fun k hk => (f.ks k hk).1) tu.1 (fun _ _ e => e) tu.2, ⟨t.sh.1.kept tu.1 t.sh.2, fun e => t.sh.2 (tu.2 _ t.sh.1.lt e)⟩, ⟨t.tb.1.kept tu.1 t.tb.2, fun e => t.tb.2 (tu.2 _ t.tb.1.lt e)⟩⟩
theorem tail_sheet {A' : World} {le' : List Et} (f : TailF w R Ks c hb r tb sb) (t : TailT J B c w R S0 Ks tb n sb q nx pg cnt F le h G S A) (hk : Kept (fun k => k = sb) A A') (hs : HsAt A' sb q nx le') : TailT J B c w R S0 Ks tb n sb q nx pg cnt F le' h G S A' :=
  ⟨t.act.kept hk (fun k e _ => by have e' : k = sb := e; rw [e']; exact ⟨t.sh.2, f.low.2.2.2⟩), t.turn.stepK hk (fun k e => by have e' : k = sb := e; exact .inr (by have := f.low; omega)) (fun _ _ e => e), t.stay.step (fun k hk => (f.ks k hk).1) hk (fun k hk e => absurd e (f.ks k hk).2.1) (fun _ _ e => e), ⟨hs, t.sh.2⟩, ⟨t.tb.1.kept hk (fun e => f.ne e.symm), t.tb.2⟩⟩
theorem tail_table {A' : World} {cnt' pg' : Nat} {F' : Nat → Nat} (f : TailF w R Ks c hb r tb sb) (t : TailT J B c w R S0 Ks tb n sb q nx pg cnt F le h G S A) (hk : Kept (fun k => k = tb) A A') (hs : TbAt A' tb pg' n cnt' F') : TailT J B c w R S0 Ks tb n sb q nx pg' cnt' F' le h G S A' :=
  ⟨t.act.kept hk (fun k e _ => by have e' : k = tb := e; rw [e']; exact ⟨t.tb.2, f.low.2.2.1⟩), t.turn.stepK hk (fun k e => by have e' : k = tb := e; exact .inr (by have := f.low; omega)) (fun _ _ e => e), t.stay.step (fun k hk => (f.ks k hk).1) hk (fun k hk e => absurd e (f.ks k hk).2.2) (fun _ _ e => e), ⟨t.sh.1.kept hk (fun e => f.ne e), t.sh.2⟩, ⟨hs, t.tb.2⟩⟩
theorem tail_hb (f : TailF w R Ks c hb r tb sb) (t : TailT J B c w R S0 Ks tb n sb q nx pg cnt F le h G S A) : HxAt A hb c.a r ∧ ¬ S hb := ⟨t.stay.hx f.mh f.hx, (t.stay hb f.mh).1⟩
theorem tail_count (f : TailF w R Ks c hb r tb sb) (t : TailT J B c w R S0 Ks tb n sb q nx pg cnt F le h G S A) (v : Nat) : TailT J B c w R S0 Ks tb n sb q nx pg v F le h G S (A.setCell ⟨tb, 2, none⟩ (.int .i64 v)) :=
  tail_table f t (Kept.setCell (fun k => k = tb) A (b := tb) (i := 2) rfl _) (t.tb.1.setCnt v)
theorem tail_add (f : TailF w R Ks c hb r tb sb) (t : TailT J B c w R S0 Ks tb n sb q nx pg cnt F le h G S A) (he : InE e) (hl : (bodyE le).length ≤ 1000) (k : Nat) :
    CallsIn Fence.wide k Tryz.prog 144 #[.pointer (some ⟨sb, 0, none⟩), .string ⟨(heldE e).toArray⟩] A fun y A' => y = .returned (.tuple #[]) ∧ TailT J B c w R S0 Ks tb n sb q nx pg cnt F (le ++ [e]) h G S A' :=
  callsIn_wide.2 ((add_any t.sh.1 e he hl).mono fun _ _ ⟨h1, h2, h3⟩ => ⟨h1, tail_sheet f t h3 h2⟩)
theorem tail_write (f : TailF w R Ks c hb r tb sb) (t : TailT J B c w R S0 Ks tb n sb q nx pg cnt F le h G S A) (hq : h.has q) (hl : (bodyE le).length ≤ 510) (hnx : nx < 4096) (hG : (G q).length = 512) (k : Nat) :
    CallsIn Fence.wide k Tryz.prog 145 #[.pointer (some ⟨hb, 0, none⟩), .pointer (some ⟨sb, 0, none⟩)] A fun y A' => y = .returned (.tuple #[]) ∧ ∃ S', TailT J B c w R S0 Ks tb n sb q nx pg cnt F le h (upd G q (shE nx le)) S' A' :=
  callsIn_wide.2 ((write_h t.act (tail_hb f t).1 (tail_hb f t).2 t.sh.1 t.sh.2 hq hl hnx hG).mono fun _ _ ⟨h1, S', h2, h3⟩ => ⟨h1, S', tail_turn f t h2 h3⟩)
theorem tail_keep (f : TailF w R Ks c hb r tb sb) (t : TailT J B c w R S0 Ks tb n sb q nx pg cnt F le h G S A) (hq : h.has pg) (hG : (G pg).length = 512) (k : Nat) :
    CallsIn Fence.wide k Tryz.prog 146 #[.pointer (some ⟨hb, 0, none⟩), .pointer (some ⟨tb, 0, none⟩)] A fun y A' => y = .returned (.tuple #[]) ∧ ∃ S', TailT J B c w R S0 Ks tb n sb q nx pg cnt F le h (upd G pg (tbE n cnt F)) S' A' :=
  callsIn_wide.2 ((keep_h t.act (tail_hb f t).1 (tail_hb f t).2 t.tb.1 t.tb.2 hq hG).mono fun _ _ ⟨h1, S', h2, h3⟩ => ⟨h1, S', tail_turn f t h2 h3⟩)
end
end Go.Proofs.YtefddiikdamnbaaGreatDoor.Dm

/- A bucket is split, in plain words. -/
set_option maxRecDepth 100000
namespace Go.Proofs.YtefddiikdamnbaaGreatDoor.Dm
open Go Go.RowKit

/-- The bucket that is split. -/
def frE (n : Nat) : Nat := n - whole n
section
variable {h h' : Hd} {G G' : Nat → List UInt8} {top n b q : Nat} {c1 c2 : Chn} {ch : Nat → Chn} {UL : List Nat}
/-- The chains behind a split. -/
def spl (ch : Nat → Chn) (n : Nat) (c1 c2 : Chn) : Nat → Chn := upd (upd ch (frE n) c1) n c2
end
end Go.Proofs.YtefddiikdamnbaaGreatDoor.Dm
