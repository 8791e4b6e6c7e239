/- What a pool's pages hold and how often each is pinned, whichever frames they are in. No program's function is met here. -/
import Derived.Test.YtnmeobbbcccgjaaPJ
set_option maxRecDepth 100000
namespace Go.Proofs.Ytnmeobbbcccgjaa
open Go.RowKit

theorem pageOf_get (F : List UInt8) (q j : Nat) : (pageOf F q)[j]? = if j < 512 then some ((F[q * 512 + j]?).getD 0) else none := by
  have hl : ((F.drop (q * 512)).take 512).length = min 512 (F.length - q * 512) := by simp
  unfold pageOf
  simp only
  by_cases h : j < 512
  · rw [if_pos h]
    by_cases h2 : j < F.length - q * 512
    · rw [List.getElem?_append_left (by omega), List.getElem?_take, if_pos h, List.getElem?_drop, List.getElem?_eq_getElem (by omega)]
      rfl
    · rw [List.getElem?_append_right (by omega), List.getElem?_replicate, if_pos (by omega), List.getElem?_eq_none (by omega)]
      rfl
  · rw [if_neg h, List.getElem?_eq_none]
    have := pageOf_length F q
    unfold pageOf at this
    simp only at this
    omega

theorem putL_get (F : List UInt8) (a : Nat) (cs : List UInt8) (j : Nat) : ((putL F a cs)[j]?).getD 0 = if a ≤ j ∧ j < a + cs.length then (cs[j - a]?).getD 0 else (F[j]?).getD 0 := by
  unfold putL
  rw [splice_get _ _ _ (by simp; omega)]
  by_cases h : a ≤ j ∧ j < a + cs.length
  · rw [if_pos h, if_pos h]
  · rw [if_neg h, if_neg h]
    by_cases h1 : j < F.length
    · rw [List.getElem?_append_left h1]
    · rw [List.getElem?_append_right (by omega), List.getElem?_replicate, List.getElem?_eq_none (show F.length ≤ j by omega)]
      split <;> rfl

theorem pageOf_put (F : List UInt8) (q q' : Nat) (bs : List UInt8) (hb : bs.length = 512) : pageOf (putL F (q * 512) bs) q' = if q' = q then bs else pageOf F q' := by
  apply List.ext_getElem?
  intro j
  rw [pageOf_get, putL_get, hb]
  by_cases hq : q' = q
  · subst hq
    rw [if_pos rfl]
    by_cases hj : j < 512
    · rw [if_pos hj, if_pos (by omega), show q' * 512 + j - q' * 512 = j by omega, List.getElem?_eq_getElem (by omega)]
      rfl
    · rw [if_neg hj, List.getElem?_eq_none (by omega)]
  · rw [if_neg hq, pageOf_get]
    by_cases hj : j < 512
    · rw [if_pos hj, if_pos hj, if_neg]
      rintro ⟨h1, h2⟩
      have : q' < q ∨ q < q' := by omega
      omega
    · rw [if_neg hj, if_neg hj]

def cb : Option Fr → Nat
  | some f => if f.changed then 1 else 0
  | none => 0
def chg : Nat → (Nat → Option Fr) → Nat
  | 0, _ => 0
  | n + 1, fr => chg n fr + cb (fr n)
theorem chg_ge {n i : Nat} {fr : Nat → Option Fr} (x : Option Fr) (h : n ≤ i) : chg n (upd fr i x) = chg n fr := by
  induction n with
  | zero => rfl
  | succ n ih => rw [chg, chg, ih (by omega), upd_other _ _ (by omega)]
theorem chg_upd {n i : Nat} (fr : Nat → Option Fr) (x : Option Fr) (h : i < n) : chg n (upd fr i x) + cb (fr i) = chg n fr + cb x := by
  induction n with
  | zero => omega
  | succ n ih =>
    rw [chg, chg]
    by_cases hi : i = n
    · subst hi
      rw [chg_ge x (Nat.le_refl _), upd_same]; omega
    · rw [upd_other _ _ (fun e => hi e.symm)]
      have := ih (by omega)
      omega
theorem chg_same {n : Nat} {fr fr' : Nat → Option Fr} (h : ∀ i, cb (fr' i) = cb (fr i)) : chg n fr' = chg n fr := by
  induction n with
  | zero => rfl
  | succ n ih => rw [chg, chg, ih, h]

/-- What the pages hold and how often each is pinned, said by what the frames and the disk hold. -/
structure View (n : Nat) (fr : Nat → Option Fr) (ops : List RawOp) (C : Nat → List UInt8) (P : Nat → Nat) (N : Nat) : Prop where
  held : ∀ i f, fr i = some f → C f.page = f.bytes ∧ P f.page = f.pins ∧ (f.changed = false → f.bytes = pageOf (play ops 1) f.page)
  free : ∀ q, (∀ i f, fr i = some f → f.page ≠ q) → C q = pageOf (play ops 1) q ∧ P q = 0
  cost : ops.length + chg n fr ≤ N
  bnd : ∀ q, P q ≤ N

theorem play_put (ops : List RawOp) (q : Nat) (bs : List UInt8) : play (ops ++ [.put 1 (q * 512) ⟨bs.toArray⟩]) 1 = putL (play ops 1) (q * 512) bs := by
  rw [play_snoc, RawOp.run, upd_same]

section
variable {n N : Nat} {fr fr' : Nat → Option Fr} {ops : List RawOp} {C : Nat → List UInt8} {P : Nat → Nat}
theorem View.more (h : View n fr ops C P N) {M : Nat} (hM : N ≤ M) : View n fr ops C P M := ⟨h.held, h.free, Nat.le_trans h.cost hM, fun q => Nat.le_trans (h.bnd q) hM⟩

/-- A frame's marks do not matter. -/
theorem View.late (h : View n fr ops C P N) (hl : Late fr fr') : View n fr' ops C P N := by
  have hb : ∀ i f', fr' i = some f' → ∃ f, fr i = some f ∧ f'.page = f.page ∧ f'.pins = f.pins ∧ f'.changed = f.changed ∧ f'.bytes = f.bytes := fun i f' hi => by
    obtain ⟨b, hb⟩ := hl i
    rw [hi] at hb
    cases hf : fr i with
    | none => rw [hf] at hb; cases hb
    | some f => rw [hf] at hb; simp at hb; subst hb; exact ⟨f, rfl, rfl, rfl, rfl, rfl⟩
  have hb2 : ∀ i f, fr i = some f → ∃ f', fr' i = some f' ∧ f'.page = f.page := fun i f hi => by
    obtain ⟨b, hb⟩ := hl i
    rw [hi] at hb
    exact ⟨_, hb, rfl⟩
  refine ⟨fun i f' hi => ?_, fun q hq => h.free q (fun i f hi => ?_), ?_, h.bnd⟩
  · obtain ⟨f, hf, e1, e2, e3, e4⟩ := hb i f' hi
    rw [e1, e2, e3, e4]
    exact h.held i f hf
  · obtain ⟨f', hf', e⟩ := hb2 i f hi
    rw [← e]; exact hq i f' hf'
  · rw [chg_same (fr := fr)]
    · exact h.cost
    · intro i
      obtain ⟨b, hb⟩ := hl i
      rw [hb]
      cases fr i <;> rfl

/-- A changed frame is saved. -/
theorem View.save (h : View n fr ops C P N) (one : ∀ i j f g, fr i = some f → fr j = some g → f.page = g.page → i = j) {i : Nat} {f : Fr} (hi : fr i = some f) (hin : i < n) (hb : f.bytes.length = 512) (hc : f.changed = true) :
    View n (upd fr i (some { f with changed := false })) (ops ++ [.put 1 (f.page * 512) ⟨f.bytes.toArray⟩]) C P N := by
  have hpl := play_put ops f.page f.bytes
  refine ⟨fun j g hg => ?_, fun q hq => ?_, ?_, h.bnd⟩
  · by_cases hj : j = i
    · subst hj; rw [upd_same] at hg; cases hg
      obtain ⟨h1, h2, _⟩ := h.held j f hi
      exact ⟨h1, h2, fun _ => by rw [hpl, pageOf_put _ _ _ _ hb, if_pos rfl]⟩
    · rw [upd_other _ _ hj] at hg
      obtain ⟨h1, h2, h3⟩ := h.held j g hg
      refine ⟨h1, h2, fun hc' => ?_⟩
      rw [hpl, pageOf_put _ _ _ _ hb, if_neg (fun e => hj (one j i g f hg hi e))]
      exact h3 hc'
  · have hqf : q ≠ f.page := fun e => hq i _ (upd_same _ _ _) e.symm
    obtain ⟨h1, h2⟩ := h.free q (fun j g hg => by
      by_cases hj : j = i
      · subst hj; rw [hi] at hg; cases hg; exact fun e => hqf e.symm
      · exact hq j g (by rw [upd_other _ _ hj]; exact hg))
    rw [hpl, pageOf_put _ _ _ _ hb, if_neg hqf]
    exact ⟨h1, h2⟩
  · have := chg_upd fr (some { f with changed := false }) hin
    have hcb : cb (fr i) = 1 := by rw [hi]; simp [cb, hc]
    have hcb2 : cb (some { f with changed := false }) = 0 := rfl
    have := h.cost
    simp only [List.length_append, List.length_cons, List.length_nil]
    omega

/-- A frame that is not changed, and not pinned, is let go. -/
theorem View.drop (h : View n fr ops C P N) {i : Nat} {f : Fr} (hi : fr i = some f) (hin : i < n) (hc : f.changed = false) (hp : f.pins = 0) : View n (upd fr i none) ops C P N := by
  refine ⟨fun j g hg => ?_, fun q hq => ?_, ?_, h.bnd⟩
  · by_cases hj : j = i
    · subst hj; rw [upd_same] at hg; cases hg
    · rw [upd_other _ _ hj] at hg; exact h.held j g hg
  · by_cases hqf : f.page = q
    · obtain ⟨h1, h2, h3⟩ := h.held i f hi
      subst hqf
      exact ⟨by rw [h1]; exact h3 hc, by rw [h2, hp]⟩
    · refine h.free q (fun j g hg e => ?_)
      by_cases hj : j = i
      · subst hj; rw [hi] at hg; cases hg; exact hqf e
      · exact hq j g (by rw [upd_other _ _ hj]; exact hg) e
  · have := chg_upd fr none hin
    have hcb : cb (fr i) = 0 := by rw [hi]; simp [cb, hc]
    have hcb2 : cb none = 0 := rfl
    have := h.cost
    omega

/-- A frame is taken for another page: it was saved where it was changed. -/
theorem View.evict (h : View n fr ops C P N) (one : ∀ i j f g, fr i = some f → fr j = some g → f.page = g.page → i = j) {i : Nat} {f : Fr} (hi : fr i = some f) (hin : i < n) (hb : f.bytes.length = 512) (hp : f.pins = 0) : View n (upd fr i none) (saved f ops) C P N := by
  unfold saved
  cases hc : f.changed
  · exact h.drop hi hin hc hp
  · have h1 := h.save one hi hin hb hc
    have h2 := h1.drop (upd_same _ _ _) hin rfl hp
    have : upd (upd fr i (some { f with changed := false })) i none = upd fr i none := by
      funext j
      by_cases hj : j = i
      · subst hj; rw [upd_same, upd_same]
      · rw [upd_other _ _ hj, upd_other _ _ hj, upd_other _ _ hj]
    rw [this] at h2
    exact h2

/-- A page comes into a free frame, pinned once. -/
theorem View.load (h : View n fr ops C P N) {i q : Nat} (hi : fr i = none) (hin : i < n) (hno : ∀ j f, fr j = some f → f.page ≠ q) : View n (upd fr i (some ⟨q, 1, true, false, pageOf (play ops 1) q⟩)) ops C (upd P q 1) (N + 1) := by
  refine ⟨fun j g hg => ?_, fun x hx => ?_, ?_, fun x => ?_⟩
  · by_cases hj : j = i
    · subst hj; rw [upd_same] at hg; cases hg
      exact ⟨(h.free q hno).1, upd_same _ _ _, fun _ => rfl⟩
    · rw [upd_other _ _ hj] at hg
      obtain ⟨h1, h2, h3⟩ := h.held j g hg
      exact ⟨h1, by rw [upd_other _ _ (hno j g hg)]; exact h2, h3⟩
  · have hxq : x ≠ q := fun e => hx i _ (upd_same _ _ _) e.symm
    obtain ⟨h1, h2⟩ := h.free x (fun j g hg => by
      by_cases hj : j = i
      · subst hj; rw [hi] at hg; cases hg
      · exact hx j g (by rw [upd_other _ _ hj]; exact hg))
    exact ⟨h1, by rw [upd_other _ _ hxq]; exact h2⟩
  · have := chg_upd fr (some (⟨q, 1, true, false, pageOf (play ops 1) q⟩ : Fr)) hin
    have hcb2 : cb (some (⟨q, 1, true, false, pageOf (play ops 1) q⟩ : Fr)) = 0 := rfl
    have := h.cost
    omega
  · by_cases hxq : x = q
    · subst hxq; rw [upd_same]; omega
    · rw [upd_other _ _ hxq]; have := h.bnd x; omega

/-- A frame's pins and bytes turn. -/
theorem View.turn (h : View n fr ops C P N) (one : ∀ i j f g, fr i = some f → fr j = some g → f.page = g.page → i = j) {i : Nat} {f f' : Fr} (hi : fr i = some f) (hin : i < n) (hpg : f'.page = f.page) (hc : f'.changed = false → f.changed = false ∧ f'.bytes = f.bytes) (hN : f'.pins ≤ N + 1) :
    View n (upd fr i (some f')) ops (upd C f.page f'.bytes) (upd P f.page f'.pins) (N + 1) := by
  refine ⟨fun j g hg => ?_, fun x hx => ?_, ?_, fun x => ?_⟩
  · by_cases hj : j = i
    · subst hj; rw [upd_same] at hg; cases hg
      rw [hpg]
      refine ⟨upd_same _ _ _, upd_same _ _ _, fun hc' => ?_⟩
      obtain ⟨h1, h2⟩ := hc hc'
      rw [h2]; exact (h.held j f hi).2.2 h1
    · rw [upd_other _ _ hj] at hg
      have hne : g.page ≠ f.page := fun e => hj (one j i g f hg hi e)
      rw [upd_other _ _ hne, upd_other _ _ hne]
      exact h.held j g hg
  · have hxq : x ≠ f.page := fun e => hx i f' (upd_same _ _ _) (by rw [hpg, e])
    rw [upd_other _ _ hxq, upd_other _ _ hxq]
    refine h.free x (fun j g hg => ?_)
    by_cases hj : j = i
    · subst hj; rw [hi] at hg; cases hg; exact fun e => hxq e.symm
    · exact hx j g (by rw [upd_other _ _ hj]; exact hg)
  · have := chg_upd fr (some f') hin
    have hle : cb (some f') ≤ 1 := by unfold cb; simp only; split <;> omega
    have := h.cost
    omega
  · by_cases hxq : x = f.page
    · subst hxq; rw [upd_same]; exact hN
    · rw [upd_other _ _ hxq]; have := h.bnd x; omega
end
end Go.Proofs.Ytnmeobbbcccgjaa
