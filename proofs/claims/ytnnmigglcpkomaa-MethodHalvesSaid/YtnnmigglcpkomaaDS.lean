/- Entries in order, in plain words: lists that rise, and are one where they hold the same. No program's function is met here. -/
import Derived.Test.YtnnmigglcpkomaaDQ
import Derived.Test.YtnnmigglcpkomaaOO
set_option maxRecDepth 100000
namespace Go.Proofs.Ytnnmigglcpkomaa.Dm
open Go Go.RowKit

/-- An entry whose key may be, its numbers ints. -/
def FitE (c : Et) : Prop := c.1.ok = true ∧ c.1.nums
theorem ahead_iff {a b : Et} : aheadE a b = true ↔ lt a.1.kb b.1.kb ∨ a.1.kb = b.1.kb ∧ a.2 < b.2 := by
  unfold aheadE lt
  simp
theorem ahead_irrefl (a : Et) : aheadE a a = false := by
  cases h : aheadE a a with
  | false => rfl
  | true =>
    rcases ahead_iff.1 h with h | ⟨_, h⟩
    · exact absurd h (lt_irrefl _)
    · omega
theorem ahead_trans {a b c : Et} (h : aheadE a b = true) (k : aheadE b c = true) : aheadE a c = true := by
  rw [ahead_iff] at h k ⊢
  rcases h with h | ⟨h1, h2⟩
  · rcases k with k | ⟨k1, k2⟩
    · exact .inl (lt_trans h k)
    · exact .inl (k1 ▸ h)
  · rcases k with k | ⟨k1, k2⟩
    · exact .inl (h1 ▸ k)
    · exact .inr ⟨h1.trans k1, by omega⟩
theorem ahead_asymm {a b : Et} (h : aheadE a b = true) : aheadE b a = false := by
  cases k : aheadE b a with
  | false => rfl
  | true => have := ahead_trans h k; rw [ahead_irrefl] at this; cases this
theorem ahead_tri {a b : Et} (ha : FitE a) (hb : FitE b) : aheadE a b = true ∨ a = b ∨ aheadE b a = true := by
  rcases lt_tri a.1.kb b.1.kb with h | h | h
  · exact .inl (ahead_iff.2 (.inl h))
  · have e := kb_inj ha.1 hb.1 ha.2 hb.2 h
    rcases (by omega : a.2 < b.2 ∨ a.2 = b.2 ∨ b.2 < a.2) with k | k | k
    · exact .inl (ahead_iff.2 (.inr ⟨h, k⟩))
    · exact .inr (.inl (Prod.ext e k))
    · exact .inr (.inr (ahead_iff.2 (.inr ⟨h.symm, k⟩)))
  · exact .inr (.inr (ahead_iff.2 (.inl h)))

/-- Entries in order, each once. -/
def RiseE (l : List Et) : Prop := l.Pairwise fun a b => aheadE a b = true
theorem withE_nil (e : Et) : withE [] e = [e] := rfl
theorem withE_cons (y : Et) (l : List Et) (e : Et) : withE (y :: l) e = if aheadE e y = true then e :: y :: l else y :: withE l e := by
  unfold withE
  cases h : aheadE e y with
  | true => simp [h]
  | false => simp [h]
theorem withE_mem {l : List Et} {e x : Et} : x ∈ withE l e ↔ x = e ∨ x ∈ l := by
  induction l with
  | nil => simp [withE_nil]
  | cons y l ih =>
    rw [withE_cons]
    split
    · simp only [List.mem_cons]
    · simp only [List.mem_cons, ih]
      constructor
      · rintro (h | h | h)
        · exact .inr (.inl h)
        · exact .inl h
        · exact .inr (.inr h)
      · rintro (h | h | h)
        · exact .inr (.inl h)
        · exact .inl h
        · exact .inr (.inr h)
theorem withE_length (l : List Et) (e : Et) : (withE l e).length = l.length + 1 := by
  induction l with
  | nil => rfl
  | cons y l ih =>
    rw [withE_cons]
    split
    · rfl
    · rw [List.length_cons, ih, List.length_cons]
theorem withE_rise {l : List Et} {e : Et} (h : RiseE l) (hf : ∀ x, x ∈ l → FitE x) (he : FitE e) (hn : e ∉ l) : RiseE (withE l e) := by
  induction l with
  | nil => exact List.pairwise_singleton _ _
  | cons y l ih =>
    obtain ⟨h1, h2⟩ := List.pairwise_cons.1 h
    rw [withE_cons]
    split
    · rename_i ha
      refine List.pairwise_cons.2 ⟨fun x hx => ?_, h⟩
      rcases List.mem_cons.1 hx with rfl | hx
      · exact ha
      · exact ahead_trans ha (h1 x hx)
    · rename_i ha
      have hy : aheadE y e = true := by
        rcases ahead_tri he (hf y (List.mem_cons_self ..)) with k | k | k
        · exact absurd k ha
        · exact absurd (k ▸ List.mem_cons_self ..) hn
        · exact k
      refine List.pairwise_cons.2 ⟨fun x hx => ?_, ih h2 (fun x hx => hf x (List.mem_cons_of_mem _ hx)) (fun hx => hn (List.mem_cons_of_mem _ hx))⟩
      rcases withE_mem.1 hx with rfl | hx
      · exact hy
      · exact h1 x hx
theorem withoutE_mem {l : List Et} {e x : Et} : x ∈ withoutE l e ↔ x ∈ l ∧ x ≠ e := by
  unfold withoutE
  rw [List.mem_filter, decide_eq_true_eq]
theorem withoutE_rise {l : List Et} {e : Et} (h : RiseE l) : RiseE (withoutE l e) := List.Pairwise.filter _ h
/-- Lists that rise and hold the same are one. -/
theorem rise_one : ∀ {l m : List Et}, RiseE l → RiseE m → (∀ x, x ∈ l ↔ x ∈ m) → l = m
  | [], [], _, _, _ => rfl
  | [], y :: m, _, _, h => by have := (h y).2 (List.mem_cons_self ..); cases this
  | x :: l, [], _, _, h => by have := (h x).1 (List.mem_cons_self ..); cases this
  | x :: l, y :: m, hl, hm, h => by
    obtain ⟨l1, l2⟩ := List.pairwise_cons.1 hl
    obtain ⟨m1, m2⟩ := List.pairwise_cons.1 hm
    have e : x = y := by
      rcases List.mem_cons.1 ((h x).1 (List.mem_cons_self ..)) with e | e
      · exact e
      · rcases List.mem_cons.1 ((h y).2 (List.mem_cons_self ..)) with k | k
        · exact k.symm
        · have := ahead_trans (m1 x e) (l1 y k)
          rw [ahead_irrefl] at this; cases this
    subst e
    rw [rise_one l2 m2 (fun z => by
      constructor
      · intro hz
        rcases List.mem_cons.1 ((h z).1 (List.mem_cons_of_mem _ hz)) with e | e
        · subst e
          have := l1 z hz
          rw [ahead_irrefl] at this; cases this
        · exact e
      · intro hz
        rcases List.mem_cons.1 ((h z).2 (List.mem_cons_of_mem _ hz)) with e | e
        · subst e
          have := m1 z hz
          rw [ahead_irrefl] at this; cases this
        · exact e)]

/-- A method's entries: they rise, each may be. -/
structure Goods (kinds : List Int) (l : List Et) : Prop where
  rise : RiseE l
  fit : ∀ x, x ∈ l → FitE x
  may : ∀ x, x ∈ l → refusedE kinds x = 0
theorem Goods.nil (kinds : List Int) : Goods kinds [] := ⟨List.Pairwise.nil, (fun x hx => by cases hx), (fun x hx => by cases hx)⟩
theorem refusedE_ok {kinds : List Int} {c : Et} (h : refusedE kinds c = 0) : c.1.ok = true := by
  unfold refusedE mayE at h
  split at h
  · rename_i h1
    rw [Bool.and_eq_true] at h1
    exact h1.2
  · cases h
theorem insL_mem {kinds : List Int} {l : List Et} {c x : Et} : x ∈ insL kinds l c ↔ x ∈ l ∨ x = c ∧ refusedE kinds c = 0 := by
  unfold insL insR
  by_cases hr : refusedE kinds c = 0
  · rw [if_pos hr]
    by_cases hm : c ∈ l
    · rw [if_pos hm, if_neg (by decide)]
      exact ⟨.inl, fun h => h.elim id (fun h => h.1 ▸ hm)⟩
    · rw [if_neg hm, if_pos rfl, withE_mem]
      exact ⟨fun h => h.elim (fun h => .inr ⟨h, hr⟩) .inl, fun h => h.elim .inr (fun h => .inl h.1)⟩
  · rw [if_neg hr, if_neg hr]
    exact ⟨.inl, fun h => h.elim id (fun h => absurd h.2 hr)⟩
theorem Goods.ins {kinds : List Int} {l : List Et} {c : Et} (h : Goods kinds l) (hn : c.1.nums) : Goods kinds (insL kinds l c) := by
  refine ⟨?_, fun x hx => ?_, fun x hx => ?_⟩
  · unfold insL insR
    by_cases hr : refusedE kinds c = 0
    · rw [if_pos hr]
      by_cases hm : c ∈ l
      · rw [if_pos hm, if_neg (by decide)]; exact h.rise
      · rw [if_neg hm, if_pos rfl]; exact withE_rise h.rise h.fit ⟨refusedE_ok hr, hn⟩ hm
    · rw [if_neg hr, if_neg hr]; exact h.rise
  · rcases insL_mem.1 hx with hx | ⟨rfl, hr⟩
    · exact h.fit x hx
    · exact ⟨refusedE_ok hr, hn⟩
  · rcases insL_mem.1 hx with hx | ⟨rfl, hr⟩
    · exact h.may x hx
    · exact hr
theorem Goods.del {kinds : List Int} {l : List Et} {c : Et} (h : Goods kinds l) : Goods kinds (delL kinds l c) := by
  unfold delL
  split
  · exact ⟨withoutE_rise h.rise, fun x hx => h.fit x (withoutE_mem.1 hx).1, fun x hx => h.may x (withoutE_mem.1 hx).1⟩
  · exact h
theorem Goods.does {kinds : List Int} {l : List Et} {x : OpE} (h : Goods kinds l) (hn : x.e.d.nums) : Goods kinds (doE kinds l x) := by
  unfold doE
  split
  · exact h.ins hn
  · split
    · exact h.del
    · split
      · exact Goods.nil kinds
      · exact h
theorem play_goods {kinds : List Int} {ops : List OpE} (hn : ∀ x, x ∈ ops → x.e.d.nums) : Goods kinds (playE kinds ops) := by
  unfold playE
  have : ∀ (ops : List OpE) (l : List Et), Goods kinds l → (∀ x, x ∈ ops → x.e.d.nums) → Goods kinds (ops.foldl (doE kinds) l) := by
    intro ops
    induction ops with
    | nil => exact fun l h _ => h
    | cons x ops ih => exact fun l h hn => ih _ (h.does (hn x (List.mem_cons_self ..))) (fun y hy => hn y (List.mem_cons_of_mem _ hy))
  exact this ops [] (Goods.nil kinds) hn
theorem In_nums {w : World} {e : En} (h : e.In w) : e.d.nums := ⟨h.n, fun c hc => by
  obtain ⟨x, hx, rfl⟩ := List.mem_map.1 hc
  exact h.ns x hx⟩

/-- Entries put one behind the other. -/
def putsE (kinds : List Int) (cs : List Et) : List Et := cs.foldl (insL kinds) []
theorem puts_goods {kinds : List Int} {cs : List Et} (hn : ∀ c, c ∈ cs → c.1.nums) : Goods kinds (putsE kinds cs) ∧ ∀ x, x ∈ putsE kinds cs ↔ x ∈ cs ∧ refusedE kinds x = 0 := by
  unfold putsE
  have : ∀ (cs : List Et) (l : List Et), Goods kinds l → (∀ c, c ∈ cs → c.1.nums) → Goods kinds (cs.foldl (insL kinds) l) ∧ ∀ x, x ∈ cs.foldl (insL kinds) l ↔ x ∈ l ∨ x ∈ cs ∧ refusedE kinds x = 0 := by
    intro cs
    induction cs with
    | nil => exact fun l h _ => ⟨h, fun x => by simp⟩
    | cons c cs ih =>
      intro l h hn
      obtain ⟨h1, h2⟩ := ih _ (h.ins (hn c (List.mem_cons_self ..))) (fun y hy => hn y (List.mem_cons_of_mem _ hy))
      refine ⟨h1, fun x => ?_⟩
      rw [List.foldl_cons, h2 x, insL_mem, List.mem_cons]
      constructor
      · rintro ((h | ⟨rfl, h⟩) | ⟨h, k⟩)
        · exact .inl h
        · exact .inr ⟨.inl rfl, h⟩
        · exact .inr ⟨.inr h, k⟩
      · rintro (h | ⟨rfl | h, k⟩)
        · exact .inl (.inl h)
        · exact .inl (.inr ⟨rfl, k⟩)
        · exact .inr ⟨h, k⟩
  obtain ⟨h1, h2⟩ := this cs [] (Goods.nil kinds) hn
  exact ⟨h1, fun x => (h2 x).trans ⟨fun h => h.elim (fun h => by cases h) id, .inr⟩⟩
/-- In whatever order they are put, the same is held. -/
theorem puts_one {kinds : List Int} {cs ds : List Et} (hc : ∀ c, c ∈ cs → c.1.nums) (hm : ∀ x, x ∈ cs ↔ x ∈ ds) : putsE kinds cs = putsE kinds ds := by
  obtain ⟨h1, h2⟩ := puts_goods (kinds := kinds) hc
  obtain ⟨k1, k2⟩ := puts_goods (kinds := kinds) (cs := ds) (fun c h => hc c ((hm c).2 h))
  exact rise_one h1.rise k1.rise (fun x => by rw [h2, k2, hm])
end Go.Proofs.Ytnnmigglcpkomaa.Dm
