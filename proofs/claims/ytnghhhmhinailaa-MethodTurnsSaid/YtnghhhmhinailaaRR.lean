/- NewPlain; a method in hand by what it holds: Insert and Find, where no shelf is full. -/
import Derived.Test.YtnghhhmhinailaaRQ
import Derived.Test.YtnghhhmhinailaaRM
import Derived.Test.YtnghhhmhinailaaDS
set_option maxRecDepth 100000
namespace Go.Proofs.Ytnghhhmhinailaa.Dm
open Go Go.RowKit

theorem hOf_less (a b : Et) : cmpH (hOf a) (hOf b) < 0 ↔ aheadE a b = true := by
  unfold cmpH hOf aheadE
  simp only []
  have h0 := cb_less a.1.kb b.1.kb
  have h1 := cb_zero a.1.kb b.1.kb
  rw [Bool.or_eq_true, Bool.and_eq_true, beq_iff_eq, decide_eq_true_eq]
  by_cases hz : Lib.compareBytes a.1.kb b.1.kb = 0
  · rw [if_pos hz]
    have he := h1 hz
    have hn : Op.bytesLess a.1.kb b.1.kb = false := by
      rw [he]; exact bytesLess_self _
    rw [hn]
    have : cmpI a.2 b.2 < 0 ↔ a.2 < b.2 := by unfold cmpI; split <;> (try split) <;> omega
    rw [this]
    exact ⟨fun h => .inr ⟨he, h⟩, fun h => h.elim (fun h => by cases h) (fun h => h.2)⟩
  · rw [if_neg hz, h0]
    refine ⟨.inl, fun h => h.elim id (fun h => ?_)⟩
    exact absurd (by rw [h.1]; exact cb_self _) hz
theorem hOf_inj {a b : Et} (ha : a.1.ok = true) (hb : b.1.ok = true) (na : a.1.nums) (nb : b.1.nums) (h : hOf a = hOf b) : a = b := by
  unfold hOf at h
  have h1 := congrArg Prod.fst h
  have h2 := congrArg Prod.snd h
  simp only [ByteArray.mk.injEq] at h1 h2
  have h3 : a.1.kb = b.1.kb := by simpa using congrArg Array.toList h1
  exact Prod.ext (kb_inj ha hb na nb h3) h2

/-- A method in hand holds l, in the blocks S. -/
structure PlSt (P : Nat) (S : Nat → Prop) (w : World) (l : List Et) : Prop where
  ex : ∃ v ss, PlAt w P v ss ∧ (Sh.lists ss).flatten = l.map hOf ∧ ∀ k, bl P v ss k ↔ S k
  good : Goods [1, 2, 3] l
theorem PlSt.bound {P : Nat} {S : Nat → Prop} {w : World} {l : List Et} (h : PlSt P S w l) (k : Nat) (hk : S k) : k < w.heap.size := by
  obtain ⟨v, ss, h1, _, h3⟩ := h.ex
  exact h1.rack.bl_lt k ((h3 k).2 hk)
theorem PlSt.frame {P : Nat} {S : Nat → Prop} {w w' : World} {l : List Et} (h : PlSt P S w l) (hk : Kept (fun k => ¬ S k) w w') : PlSt P S w' l := by
  obtain ⟨v, ss, h1, h2, h3⟩ := h.ex
  have hb : ∀ k, bl P v ss k → w'.heap[k]? = w.heap[k]? := fun k hb => hk.block k (h1.rack.bl_lt k hb) (fun hn => hn ((h3 k).1 hb))
  exact ⟨⟨v, ss, ⟨(World.cell?_of_block (w := w) (a := ⟨P, 0, none⟩) (hb P (.inl rfl))).trans h1.self, h1.rack.of_blocks hb⟩, h2, h3⟩, h.good⟩
theorem PlSt.below {P : Nat} {S : Nat → Prop} {w w' : World} {l : List Et} (h : PlSt P S w l) (hb : Below w.heap.size w w') : PlSt P S w' l := h.frame (Kept.ofBelow hb)

theorem kind_may {c : Et} (h : c.1.ok = true) : c.1.1 ∈ ([1, 2, 3] : List Int) := by
  unfold Dt.ok dOk at h
  split at h
  · rename_i h3; rw [h3]; decide
  · rcases (itemOk_true h).2 with h1 | h1
    · rw [h1.1]; decide
    · rw [h1.1]; decide
theorem refused_may {c : Et} : refusedE [1, 2, 3] c = if mayE c = true then 0 else 1 := by
  unfold refusedE
  by_cases h : mayE c = true
  · rw [if_pos h, if_pos h, if_pos]
    refine kind_may ?_
    unfold mayE at h
    rw [Bool.and_eq_true] at h
    exact h.2
  · rw [if_neg h, if_neg h]

theorem rise_srt {l : List Et} (h : RiseE l) : SrtH (l.map hOf) := by
  unfold SrtH
  rw [List.pairwise_map]
  exact h.imp (fun hab => (hOf_less _ _).2 hab)

/-- Between those ahead and those behind: where it is put. -/
theorem put_list {l : List Et} {e : Et} {A B : List Hd} (h : Goods [1, 2, 3] l) (he : FitE e) (hn : e ∉ l) (hl : l.map hOf = A ++ B) (hA : ∀ a, a ∈ A → cmpH a (hOf e) < 0) (hB : ∀ b, b ∈ B → 0 < cmpH b (hOf e)) : A ++ [hOf e] ++ B = (withE l e).map hOf := by
  obtain ⟨l1, l2, rfl, rfl, rfl⟩ := List.map_eq_append_iff.1 hl
  have hr := List.pairwise_append.1 h.rise
  have e1 : l1 ++ [e] ++ l2 = withE (l1 ++ l2) e := by
    refine rise_one ?_ (withE_rise h.rise h.fit he hn) (fun x => ?_)
    · unfold RiseE
      rw [List.append_assoc]
      refine List.pairwise_append.2 ⟨hr.1, List.pairwise_cons.2 ⟨fun b hb => ?_, hr.2.1⟩, fun a ha b hb => ?_⟩
      · rw [← hOf_less]
        have := hB _ (List.mem_map.2 ⟨b, hb, rfl⟩)
        have := cmpH_swap (hOf e) (hOf b)
        omega
      · rcases List.mem_cons.1 hb with rfl | hb
        · exact (hOf_less _ _).1 (hA _ (List.mem_map.2 ⟨a, ha, rfl⟩))
        · exact hr.2.2 a ha b hb
    · rw [withE_mem]
      simp only [List.mem_append, List.mem_singleton]
      constructor
      · rintro ((h1 | h1) | h1)
        · exact .inr (.inl h1)
        · exact .inl h1
        · exact .inr (.inr h1)
      · rintro (h1 | h1 | h1)
        · exact .inl (.inr h1)
        · exact .inl (.inl h1)
        · exact .inr h1
  rw [← e1]
  simp

/-- put of an entry that is not there, where no shelf is full. -/
theorem put_low (P : Nat) (v : Value) (ss : List Sh) (x : Hd) (w : World) (hR : RackAt w P v ss) (hs : SrtH (Sh.lists ss).flatten) (hl : (Sh.lists ss).flatten.length < 512) (hx : x ∉ (Sh.lists ss).flatten) :
    ∃ A B, (Sh.lists ss).flatten = A ++ B ∧ (∀ a, a ∈ A → cmpH a x < 0) ∧ (∀ b, b ∈ B → 0 < cmpH b x) ∧ ∀ W, RackAt W P v ss → Calls Try.prog 39 #[.pointer (some ⟨P, 1, none⟩), hdV x] W (RkPost P v ss (A ++ [x] ++ B) W) := by
  obtain ⟨i, at', th, hk, hS⟩ := seek_all P v ss x w hR hs (by omega)
  have hth : th = false := by
    cases th with
    | false => rfl
    | true =>
      obtain ⟨r, hr⟩ := hk.hit rfl
      exact absurd (by rw [hk.split, hr]; simp) hx
  subst hth
  refine ⟨_, _, hk.split, hk.low, hk.high rfl, fun W hW => ?_⟩
  rcases hk.shape with ⟨h1, rfl, rfl⟩ | hi
  · have hss : ss = [] := List.map_eq_nil_iff.1 h1
    subst hss
    have := put_first P v x W hW (fun W' hb => hS W' (hW.below hb))
    simpa [Sh.lists] using this
  · have hi' : i < ss.length := by simpa [Sh.lists] using hi
    obtain ⟨a, c, rfl⟩ := hR.form
    have hdec : ss = ss.take i ++ ss[i] :: ss.drop (i + 1) := by rw [List.getElem_cons_drop, List.take_append_drop]
    have hAl : (ss.take i).length = i := by rw [List.length_take]; omega
    obtain ⟨sb, hsb, _, _⟩ := hW.at i hi'
    subst hsb
    have hLi : (Sh.lists ss).getD i [] = ss[i].hs := by simp [Sh.lists, hi']
    have hfit := hk.fits
    rw [hLi] at hfit
    have hlt : ss[i].hs.length ≤ (Sh.lists ss).flatten.length := flat_get_le _ _ (List.mem_map.2 ⟨_, List.getElem_mem hi', rfl⟩)
    have h2 := put_new P sb c (ss.take i) (ss.drop (i + 1)) ss[i] x W at' (by rw [← hdec]; exact hW) hfit (by omega) (fun h => by omega) (fun W' hb => by
      rw [hAl]
      exact hS W' (hW.below hb))
    rw [← hdec] at h2
    have e1 : (Sh.lists ss).take i = Sh.lists (ss.take i) := by simp [Sh.lists, List.map_take]
    have e2 : (Sh.lists ss).drop (i + 1) = Sh.lists (ss.drop (i + 1)) := by simp [Sh.lists, List.map_drop]
    rw [hLi, e1, e2]
    have e3 : (Sh.lists (ss.take i)).flatten ++ ss[i].hs.take at' ++ [x] ++ (ss[i].hs.drop at' ++ (Sh.lists (ss.drop (i + 1))).flatten) = (Sh.lists (ss.take i)).flatten ++ (ss[i].hs.take at' ++ [x] ++ ss[i].hs.drop at') ++ (Sh.lists (ss.drop (i + 1))).flatten := by simp [List.append_assoc]
    rw [e3]
    exact h2

/-- Insert, where few are held. -/
theorem ins_st {P : Nat} {S : Nat → Prop} {w : World} {l : List Et} {e : En} (h : PlSt P S w l) (hl : l.length < 512) (hI : e.In w) :
    Calls Try.prog 24 #[.pointer (some ⟨P, 0, none⟩), e.v] w fun r w' => ∃ S', r = .returned (.int .i64 (insR [1, 2, 3] l e.c)) ∧ PlSt P S' w' (insL [1, 2, 3] l e.c) ∧ Kept S w w' ∧ ∀ k, S' k → S k ∨ w.heap.size ≤ k := by
  obtain ⟨v, ss, hP, hF, hS⟩ := h.ex
  have hPl := hP.rack.lt
  have hsrt : SrtH (Sh.lists ss).flatten := by rw [hF]; exact rise_srt h.good.rise
  have hlen : (Sh.lists ss).flatten.length = l.length := by rw [hF, List.length_map]
  cases hm : mayE e.c with
  | false =>
    have hr : refusedE [1, 2, 3] e.c = 1 := by rw [refused_may, hm]; rfl
    have hR : insR [1, 2, 3] l e.c = 1 := by unfold insR; rw [hr]; rfl
    have hL : insL [1, 2, 3] l e.c = l := by unfold insL; rw [hR]; rfl
    rw [hR, hL]
    refine (ins_bad P e w hP.self hPl hI hm).mono ?_
    rintro r w' ⟨rfl, hb⟩
    exact ⟨S, rfl, h.below hb, Kept.ofBelow hb, fun k hk => .inl hk⟩
  | true =>
    have hr : refusedE [1, 2, 3] e.c = 0 := by rw [refused_may, hm]; rfl
    have hfit : FitE e.c := ⟨refusedE_ok hr, In_nums hI⟩
    by_cases hmem : e.c ∈ l
    · have hR : insR [1, 2, 3] l e.c = 160 := by unfold insR; rw [hr, if_pos rfl, if_pos hmem]
      have hL : insL [1, 2, 3] l e.c = l := by unfold insL; rw [hR]; rfl
      rw [hR, hL]
      refine (ins_any P e w false (fun W w' => Below W.heap.size W w') hP.self hPl hI hm (fun W hW => ?_)).mono ?_
      · exact put_have P ss (hOf e.c) W (fun W' hb => seek_any P v ss _ W' ((hP.rack.below hW).below hb) hsrt (by omega)) (by rw [hF]; exact List.mem_map.2 ⟨_, hmem, rfl⟩)
      · rintro r w' ⟨rfl, W, hb, hb2⟩
        have hbb := hb.trans (hb2.mono hb.size)
        exact ⟨S, rfl, h.below hbb, Kept.ofBelow hbb, fun k hk => .inl hk⟩
    · have hR : insR [1, 2, 3] l e.c = 0 := by unfold insR; rw [hr, if_pos rfl, if_neg hmem]
      have hL : insL [1, 2, 3] l e.c = withE l e.c := by unfold insL; rw [hR]; rfl
      have hgood := h.good.ins (c := e.c) (In_nums hI)
      rw [hL] at hgood
      rw [hR, hL]
      have hx : hOf e.c ∉ (Sh.lists ss).flatten := by
        rw [hF]
        intro hx
        obtain ⟨c, hc, hce⟩ := List.mem_map.1 hx
        have hfc := h.good.fit c hc
        rw [hOf_inj hfc.1 hfit.1 hfc.2 hfit.2 hce] at hc
        exact hmem hc
      obtain ⟨A, B, hAB, hA, hB, hput⟩ := put_low P v ss (hOf e.c) w hP.rack hsrt (by omega) hx
      refine (ins_any P e w true (fun W w' => RkPost P v ss (A ++ [hOf e.c] ++ B) W (.returned (.bool true)) w') hP.self hPl hI hm (fun W hW => ?_)).mono ?_
      · refine (hput W (hP.rack.below hW)).mono ?_
        rintro r w' hq
        have hr2 : r = .returned (.bool true) := by obtain ⟨_, _, h1, _⟩ := hq; exact h1
        exact ⟨hr2, hr2 ▸ hq⟩
      · rintro r w' ⟨rfl, W, hb, v', ss', -, hR', hF', hK, hbl, h0⟩
        refine ⟨bl P v' ss', rfl, ⟨⟨v', ss', ⟨?_, hR'⟩, ?_, fun _ => Iff.rfl⟩, hgood⟩, ?_, fun k hk => ?_⟩
        · rw [h0]
          exact (hb.cell (p := ⟨P, 0, none⟩) hPl).trans hP.self
        · rw [hF']
          exact put_list h.good hfit hmem (by rw [← hF]; exact hAB) hA hB
        · exact (Kept.ofBelow hb).trans (hK.mono (fun k hk => (hS k).1 hk)) (fun k hk => .inl hk)
        · rcases hbl k hk with h1 | h1
          · exact .inl ((hS k).1 h1)
          · exact .inr (Nat.le_trans hb.size h1)

set_option maxHeartbeats 400000 in
theorem newPlain_any (w : World) : Calls Try.prog 9 #[] w fun r w' => r = .returned (.pointer (some ⟨w.heap.size, 0, none⟩)) ∧ PlSt w.heap.size (fun k => k = w.heap.size) w' [] ∧ Below w.heap.size w w' := by
  go_enter Try.func9, Try.ntmps9
  go_wp2
  go_ret
  refine ⟨rfl, ⟨⟨.slice none 0 0, [], ⟨by simp, ⟨by simp, by simp, World.ownsRow_nil _ _ _ _, fun s hs => (by cases hs), fun s hs => (by cases hs), by simp [Value.ownBlock], fun s hs => (by cases hs), List.Pairwise.nil⟩⟩, rfl, fun k => ?_⟩, Goods.nil _⟩, (Below.refl _ _).alloc (Nat.le_refl _) _⟩
  unfold bl
  simp [Value.ownBlock]
end Go.Proofs.Ytnghhhmhinailaa.Dm
