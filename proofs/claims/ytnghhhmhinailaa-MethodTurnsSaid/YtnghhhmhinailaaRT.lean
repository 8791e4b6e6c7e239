/- Find by what is held; the name; what must come (awake). -/
import Derived.Test.YtnghhhmhinailaaRR
set_option maxRecDepth 100000
namespace Go.Proofs.Ytnghhhmhinailaa.Dm
open Go Go.RowKit

theorem filter_yes {α : Type} {p : α → Bool} {a : α} {l : List α} (h : p a = true) : (a :: l).filter p = a :: l.filter p := by simp [h]
theorem filter_no {α : Type} {p : α → Bool} {a : α} {l : List α} (h : p a = false) : (a :: l).filter p = l.filter p := by simp [h]
theorem tw_yes {α : Type} {p : α → Bool} {a : α} {l : List α} (h : p a = true) : (a :: l).takeWhile p = a :: l.takeWhile p := by simp [h]
theorem tw_no {α : Type} {p : α → Bool} {a : α} {l : List α} (h : p a = false) : (a :: l).takeWhile p = [] := by simp [h]
theorem find_list {l : List Et} {ky : ByteArray} : Goods [1, 2, 3] l → (∀ c, c ∈ l → 0 ≤ c.2) →
    (((l.map hOf).filter fun y => decide (¬ cmpH y (ky, 0) < 0)).takeWhile fun y => decide (y.1 = ky)).map (·.2) = (l.filter fun c => decide (c.1.kb = ky.data.toList)).map (·.2) := by
  induction l with
  | nil => intro _ _; rfl
  | cons c l ih =>
    intro hg ht
    have hg' : Goods [1, 2, 3] l := ⟨(List.pairwise_cons.1 hg.rise).2, fun x hx => hg.fit x (by simp [hx]), fun x hx => hg.may x (by simp [hx])⟩
    have h1 := ih hg' (fun x hx => ht x (by simp [hx]))
    have htc := ht c (by simp)
    have hE : (hOf c).1 = ky ↔ c.1.kb = ky.data.toList := ⟨fun h => by rw [← h]; rfl, fun h => ba_eq h⟩
    have hcmp : cmpH (hOf c) (ky, 0) = if Lib.compareBytes c.1.kb ky.data.toList = 0 then cmpI c.2 0 else Lib.compareBytes c.1.kb ky.data.toList := rfl
    have hI : ¬ cmpI c.2 0 < 0 := by unfold cmpI; split <;> (try split) <;> omega
    rw [List.map_cons]
    by_cases h0 : Lib.compareBytes c.1.kb ky.data.toList = 0
    · have hk := cb_zero _ _ h0
      have hn : ¬ cmpH (hOf c) (ky, 0) < 0 := by rw [hcmp, if_pos h0]; exact hI
      rw [filter_yes (p := fun y : Hd => decide (¬ cmpH y (ky, 0) < 0)) (decide_eq_true hn), tw_yes (p := fun y : Hd => decide (y.1 = ky)) (decide_eq_true (hE.2 hk)), filter_yes (p := fun c : Et => decide (c.1.kb = ky.data.toList)) (decide_eq_true hk), List.map_cons, List.map_cons, h1]
      rfl
    · have hk : ¬ c.1.kb = ky.data.toList := fun h => h0 (by rw [h]; exact cb_self _)
      rw [filter_no (p := fun c : Et => decide (c.1.kb = ky.data.toList)) (decide_eq_false hk)]
      by_cases hlt : Lib.compareBytes c.1.kb ky.data.toList < 0
      · have hn : cmpH (hOf c) (ky, 0) < 0 := by rw [hcmp, if_neg h0]; exact hlt
        rw [filter_no (p := fun y : Hd => decide (¬ cmpH y (ky, 0) < 0)) (decide_eq_false (fun h => h hn)), h1]
      · have hn : ¬ cmpH (hOf c) (ky, 0) < 0 := by rw [hcmp, if_neg h0]; exact hlt
        rw [filter_yes (p := fun y : Hd => decide (¬ cmpH y (ky, 0) < 0)) (decide_eq_true hn), tw_no (p := fun y : Hd => decide (y.1 = ky)) (decide_eq_false (fun h => hk (hE.1 h)))]
        have : l.filter (fun c => decide (c.1.kb = ky.data.toList)) = [] := by
          rw [List.filter_eq_nil_iff]
          intro d hd
          rw [decide_eq_true_eq]
          intro he
          have h3 := (hOf_less c d).2 ((List.pairwise_cons.1 hg.rise).1 d hd)
          have h4 : cmpH (hOf c) (hOf d) = if Lib.compareBytes c.1.kb d.1.kb = 0 then cmpI c.2 d.2 else Lib.compareBytes c.1.kb d.1.kb := rfl
          rw [he, if_neg h0] at h4
          omega
        rw [this]
        rfl

theorem find_kb {l : List Et} {d : Dt} (hg : Goods [1, 2, 3] l) (hd : d.ok = true) (nd : d.nums) : (l.filter fun c => decide (c.1.kb = d.kb)).map (·.2) = findE l d := by
  unfold findE
  congr 1
  refine List.filter_congr (fun c hc => ?_)
  have hf := hg.fit c hc
  rw [decide_eq_decide]
  exact ⟨fun h => kb_inj hf.1 hd hf.2 nd h, fun h => by rw [h]⟩

theorem may_tid {c : Et} (h : refusedE [1, 2, 3] c = 0) : 0 ≤ c.2 := by
  rw [refused_may] at h
  by_cases hm : mayE c = true
  · unfold mayE at hm
    rw [Bool.and_eq_true, decide_eq_true_eq] at hm
    exact hm.1.1
  · rw [if_neg hm] at h; cases h

/-- Find. -/
theorem find_st {P : Nat} {S : Nat → Prop} {w : World} {l : List Et} {e : En} (h : PlSt P S w l) (hl : l.length < 1000000000) (hI : e.In w) :
    Calls Try.prog 30 #[.pointer (some ⟨P, 0, none⟩), e.dv] w fun r w' => ∃ v, r = .returned (.tuple #[v, .int .i64 (if e.ok = true then 0 else 1)]) ∧ IRow w.heap.size w' v (if e.ok = true then findE l e.d else []) ∧ Below w.heap.size w w' := by
  obtain ⟨v, ss, hP, hF, hS⟩ := h.ex
  cases hok : e.ok with
  | false =>
    refine (find_bad P e w hP.self hP.rack.lt hI.sl hok).mono ?_
    rintro r w' ⟨rfl, hb⟩
    exact ⟨_, rfl, World.ownsRow_nil _ _ _ _, hb⟩
  | true =>
    have hsrt : SrtH (Sh.lists ss).flatten := by rw [hF]; exact rise_srt h.good.rise
    have h2 := callsIn_wide.1 (find_in 4 (Nat.le_refl _) P v ss e w ((Sh.lists ss).flatten.filter fun y => decide (¬ cmpH y (keyS e.k e.n e.s e.xs, 0) < 0)) hP hsrt (by rw [hF, List.length_map]; exact hl) hI.sl hok (fun i at' th hk => seek_rest hk hsrt))
    refine h2.mono ?_
    rintro r w' ⟨v', rfl, hr, hb⟩
    refine ⟨v', rfl, ?_, hb⟩
    have h3 := find_list (ky := keyS e.k e.n e.s e.xs) h.good (fun c hc => may_tid (h.good.may c hc))
    rw [hF, h3] at hr
    have h4 : (keyS e.k e.n e.s e.xs).data.toList = e.d.kb := by rw [e.kb_d]; rfl
    rw [h4, find_kb h.good (by rw [e.ok_d]; exact hok) (In_nums hI)] at hr
    rw [if_pos rfl]
    exact hr

set_option maxHeartbeats 400000 in
theorem name_st {P : Nat} {S : Nat → Prop} {w : World} {l : List Et} (h : PlSt P S w l) : Calls Try.prog 23 #[.pointer (some ⟨P, 0, none⟩)] w fun r w' => r = .returned (.string ⟨#[112, 108, 97, 105, 110]⟩) ∧ w' = w := by
  obtain ⟨v, ss, hP, -, -⟩ := h.ex
  have HG := Lib.hid (given_yes P w hP.self)
  clear hP h
  go_enter Try.func23, Try.ntmps23
  go_wp2_with (go_at_call 27; refine (HG.out).mono ?_; rintro e w' ⟨rfl, rfl⟩)
  go_ret
  exact ⟨rfl, rfl⟩
end Go.Proofs.Ytnghhhmhinailaa.Dm
