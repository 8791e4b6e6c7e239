/- Texts of the same proof, one behind the other: RR, QD, RT. -/
import Derived.Test.YtnnmigglcpkomaaRQ
import Derived.Test.YtnnmigglcpkomaaRM
import Derived.Test.YtnnmigglcpkomaaQB
import Derived.Test.YtnnmigglcpkomaaQC
import Derived.Test.YtnnmigglcpkomaaDS
/- NewPlain; a method in hand by what it holds: Insert and Find, where no shelf is full. -/
set_option maxRecDepth 100000
namespace Go.Proofs.Ytnnmigglcpkomaa.Dm
open Go Go.RowKit

theorem hOf_less (a b : Et) : cmpH (hOf a) (hOf b) < 0 ↔ aheadE a b = true := by
  unfold cmpH hOf aheadE
  simp only []
  have h0 := cb_less a.1.kb b.1.kb
  have h1 := cb_zero a.1.kb b.1.kb
  rw [Bool.or_eq_true, Bool.and_eq_true, beq_iff_eq, decide_eq_true_eq]
  by_cases hz : Lib.compareBytes a.1.kb b.1.kb = 0
  · rw [if_pos hz]
    have he := h1 hz
    have hn : Op.bytesLess a.1.kb b.1.kb = false := by
      rw [he]; exact bytesLess_self _
    rw [hn]
    have : cmpI a.2 b.2 < 0 ↔ a.2 < b.2 := by unfold cmpI; split <;> (try split) <;> omega
    rw [this]
    exact ⟨fun h => .inr ⟨he, h⟩, fun h => h.elim (fun h => by cases h) (fun h => h.2)⟩
  · rw [if_neg hz, h0]
    refine ⟨.inl, fun h => h.elim id (fun h => ?_)⟩
    exact absurd (by rw [h.1]; exact cb_self _) hz
theorem hOf_inj {a b : Et} (ha : a.1.ok = true) (hb : b.1.ok = true) (na : a.1.nums) (nb : b.1.nums) (h : hOf a = hOf b) : a = b := by
  unfold hOf at h
  have h1 := congrArg Prod.fst h
  have h2 := congrArg Prod.snd h
  simp only [ByteArray.mk.injEq] at h1 h2
  have h3 : a.1.kb = b.1.kb := by simpa using congrArg Array.toList h1
  exact Prod.ext (kb_inj ha hb na nb h3) h2

/-- A method in hand holds l, in the blocks S. -/
structure PlSt (P : Nat) (S : Nat → Prop) (w : World) (l : List Et) : Prop where
  ex : ∃ v ss, PlAt w P v ss ∧ (Sh.lists ss).flatten = l.map hOf ∧ ∀ k, bl P v ss k ↔ S k
  good : Goods [1, 2, 3] l
theorem PlSt.bound {P : Nat} {S : Nat → Prop} {w : World} {l : List Et} (h : PlSt P S w l) (k : Nat) (hk : S k) : k < w.heap.size := by
  obtain ⟨v, ss, h1, _, h3⟩ := h.ex
  exact h1.rack.bl_lt k ((h3 k).2 hk)
theorem PlSt.frame {P : Nat} {S : Nat → Prop} {w w' : World} {l : List Et} (h : PlSt P S w l) (hk : Kept (fun k => ¬ S k) w w') : PlSt P S w' l := by
  obtain ⟨v, ss, h1, h2, h3⟩ := h.ex
  have hb : ∀ k, bl P v ss k → w'.heap[k]? = w.heap[k]? := fun k hb => hk.block k (h1.rack.bl_lt k hb) (fun hn => hn ((h3 k).1 hb))
  exact ⟨⟨v, ss, ⟨(World.cell?_of_block (w := w) (a := ⟨P, 0, none⟩) (hb P (.inl rfl))).trans h1.self, h1.rack.of_blocks hb, h1.few⟩, h2, h3⟩, h.good⟩
theorem PlSt.below {P : Nat} {S : Nat → Prop} {w w' : World} {l : List Et} (h : PlSt P S w l) (hb : Below w.heap.size w w') : PlSt P S w' l := h.frame (Kept.ofBelow hb)

theorem kind_may {c : Et} (h : c.1.ok = true) : c.1.1 ∈ ([1, 2, 3] : List Int) := by
  unfold Dt.ok dOk at h
  split at h
  · rename_i h3; rw [h3]; decide
  · rcases (itemOk_true h).2 with h1 | h1
    · rw [h1.1]; decide
    · rw [h1.1]; decide
theorem refused_may {c : Et} : refusedE [1, 2, 3] c = if mayE c = true then 0 else 1 := by
  unfold refusedE
  by_cases h : mayE c = true
  · rw [if_pos h, if_pos h, if_pos]
    refine kind_may ?_
    unfold mayE at h
    rw [Bool.and_eq_true] at h
    exact h.2
  · rw [if_neg h, if_neg h]

theorem rise_srt {l : List Et} (h : RiseE l) : SrtH (l.map hOf) := by
  unfold SrtH
  rw [List.pairwise_map]
  exact h.imp (fun hab => (hOf_less _ _).2 hab)

/-- Between those ahead and those behind: where it is put. -/
theorem put_list {l : List Et} {e : Et} {A B : List Hd} (h : Goods [1, 2, 3] l) (he : FitE e) (hn : e ∉ l) (hl : l.map hOf = A ++ B) (hA : ∀ a, a ∈ A → cmpH a (hOf e) < 0) (hB : ∀ b, b ∈ B → 0 < cmpH b (hOf e)) : A ++ [hOf e] ++ B = (withE l e).map hOf := by
  obtain ⟨l1, l2, rfl, rfl, rfl⟩ := List.map_eq_append_iff.1 hl
  have hr := List.pairwise_append.1 h.rise
  have e1 : l1 ++ [e] ++ l2 = withE (l1 ++ l2) e := by
    refine rise_one ?_ (withE_rise h.rise h.fit he hn) (fun x => ?_)
    · unfold RiseE
      rw [List.append_assoc]
      refine List.pairwise_append.2 ⟨hr.1, List.pairwise_cons.2 ⟨fun b hb => ?_, hr.2.1⟩, fun a ha b hb => ?_⟩
      · rw [← hOf_less]
        have := hB _ (List.mem_map.2 ⟨b, hb, rfl⟩)
        have := cmpH_swap (hOf e) (hOf b)
        omega
      · rcases List.mem_cons.1 hb with rfl | hb
        · exact (hOf_less _ _).1 (hA _ (List.mem_map.2 ⟨a, ha, rfl⟩))
        · exact hr.2.2 a ha b hb
    · rw [withE_mem]
      simp only [List.mem_append, List.mem_singleton]
      constructor
      · rintro ((h1 | h1) | h1)
        · exact .inr (.inl h1)
        · exact .inl h1
        · exact .inr (.inr h1)
      · rintro (h1 | h1 | h1)
        · exact .inl (.inr h1)
        · exact .inl (.inl h1)
        · exact .inr h1
  rw [← e1]
  simp

/-- put of an entry that is not there. -/
theorem put_low (P : Nat) (v : Value) (ss : List Sh) (x : Hd) (w : World) (hR : RackAt w P v ss) (hs : SrtH (Sh.lists ss).flatten) (hl : (Sh.lists ss).flatten.length < 2199023255552) (hfew : ∀ s, s ∈ ss → s.hs.length ≤ 512) (hx : x ∉ (Sh.lists ss).flatten) :
    ∃ A B, (Sh.lists ss).flatten = A ++ B ∧ (∀ a, a ∈ A → cmpH a x < 0) ∧ (∀ b, b ∈ B → 0 < cmpH b x) ∧ ∀ W, RackAt W P v ss → Calls Try.prog 39 #[.pointer (some ⟨P, 1, none⟩), hdV x] W (RkPost P v ss (A ++ [x] ++ B) W) := by
  obtain ⟨i, at', th, hk, hS⟩ := seek_all P v ss x w hR hs (by omega)
  have hth : th = false := by
    cases th with
    | false => rfl
    | true =>
      obtain ⟨r, hr⟩ := hk.hit rfl
      exact absurd (by rw [hk.split, hr]; simp) hx
  subst hth
  refine ⟨_, _, hk.split, hk.low, hk.high rfl, fun W hW => ?_⟩
  rcases hk.shape with ⟨h1, rfl, rfl⟩ | hi
  · have hss : ss = [] := List.map_eq_nil_iff.1 h1
    subst hss
    have := put_first P v x W hW (fun W' hb => hS W' (hW.below hb))
    simpa [Sh.lists] using this
  · have hi' : i < ss.length := by simpa [Sh.lists] using hi
    obtain ⟨a, c, rfl⟩ := hR.form
    have hdec : ss = ss.take i ++ ss[i] :: ss.drop (i + 1) := by rw [List.getElem_cons_drop, List.take_append_drop]
    have hAl : (ss.take i).length = i := by rw [List.length_take]; omega
    obtain ⟨sb, hsb, _, _⟩ := hW.at i hi'
    subst hsb
    have hLi : (Sh.lists ss).getD i [] = ss[i].hs := by simp [Sh.lists, hi']
    have hfit := hk.fits
    rw [hLi] at hfit
    have hlt : ss[i].hs.length ≤ (Sh.lists ss).flatten.length := flat_get_le _ _ (List.mem_map.2 ⟨_, List.getElem_mem hi', rfl⟩)
    have h2 := put_new P sb c (ss.take i) (ss.drop (i + 1)) ss[i] x W at' (by rw [← hdec]; exact hW) hfit (by rw [← hdec]; exact hfew) (fun h wx hm => split_any P sb c _ _ _ _ W wx hm (by
      have h5 := hfew ss[i] (List.getElem_mem hi')
      simp only [List.length_append, List.length_take, List.length_drop, List.length_singleton]
      omega) (by rw [← hdec]; exact hfew) (by
      rw [← hdec]
      have h5 := flat_many (Sh.lists ss) (fun l hl => by
        obtain ⟨t, ht, rfl⟩ := List.mem_map.1 hl
        exact hW.ne t ht)
      rw [show (Sh.lists ss).length = ss.length by simp [Sh.lists]] at h5
      omega)) (fun W' hb => by
      rw [hAl]
      exact hS W' (hW.below hb))
    rw [← hdec] at h2
    have e1 : (Sh.lists ss).take i = Sh.lists (ss.take i) := by simp [Sh.lists, List.map_take]
    have e2 : (Sh.lists ss).drop (i + 1) = Sh.lists (ss.drop (i + 1)) := by simp [Sh.lists, List.map_drop]
    rw [hLi, e1, e2]
    have e3 : (Sh.lists (ss.take i)).flatten ++ ss[i].hs.take at' ++ [x] ++ (ss[i].hs.drop at' ++ (Sh.lists (ss.drop (i + 1))).flatten) = (Sh.lists (ss.take i)).flatten ++ (ss[i].hs.take at' ++ [x] ++ ss[i].hs.drop at') ++ (Sh.lists (ss.drop (i + 1))).flatten := by simp [List.append_assoc]
    rw [e3]
    exact h2

/-- Insert. -/
theorem ins_st {P : Nat} {S : Nat → Prop} {w : World} {l : List Et} {e : En} (h : PlSt P S w l) (hl : l.length < 2199023255552) (hI : e.In w) :
    Calls Try.prog 24 #[.pointer (some ⟨P, 0, none⟩), e.v] w fun r w' => ∃ S', r = .returned (.int .i64 (insR [1, 2, 3] l e.c)) ∧ PlSt P S' w' (insL [1, 2, 3] l e.c) ∧ Kept S w w' ∧ ∀ k, S' k → S k ∨ w.heap.size ≤ k := by
  obtain ⟨v, ss, hP, hF, hS⟩ := h.ex
  have hPl := hP.rack.lt
  have hsrt : SrtH (Sh.lists ss).flatten := by rw [hF]; exact rise_srt h.good.rise
  have hlen : (Sh.lists ss).flatten.length = l.length := by rw [hF, List.length_map]
  cases hm : mayE e.c with
  | false =>
    have hr : refusedE [1, 2, 3] e.c = 1 := by rw [refused_may, hm]; rfl
    have hR : insR [1, 2, 3] l e.c = 1 := by unfold insR; rw [hr]; rfl
    have hL : insL [1, 2, 3] l e.c = l := by unfold insL; rw [hR]; rfl
    rw [hR, hL]
    refine (ins_bad P e w hP.self hPl hI hm).mono ?_
    rintro r w' ⟨rfl, hb⟩
    exact ⟨S, rfl, h.below hb, Kept.ofBelow hb, fun k hk => .inl hk⟩
  | true =>
    have hr : refusedE [1, 2, 3] e.c = 0 := by rw [refused_may, hm]; rfl
    have hfit : FitE e.c := ⟨refusedE_ok hr, In_nums hI⟩
    by_cases hmem : e.c ∈ l
    · have hR : insR [1, 2, 3] l e.c = 160 := by unfold insR; rw [hr, if_pos rfl, if_pos hmem]
      have hL : insL [1, 2, 3] l e.c = l := by unfold insL; rw [hR]; rfl
      rw [hR, hL]
      refine (ins_any P e w false (fun W w' => Below W.heap.size W w') hP.self hPl hI hm (fun W hW => ?_)).mono ?_
      · exact put_have P ss (hOf e.c) W (fun W' hb => seek_any P v ss _ W' ((hP.rack.below hW).below hb) hsrt (by omega)) (by rw [hF]; exact List.mem_map.2 ⟨_, hmem, rfl⟩)
      · rintro r w' ⟨rfl, W, hb, hb2⟩
        have hbb := hb.trans (hb2.mono hb.size)
        exact ⟨S, rfl, h.below hbb, Kept.ofBelow hbb, fun k hk => .inl hk⟩
    · have hR : insR [1, 2, 3] l e.c = 0 := by unfold insR; rw [hr, if_pos rfl, if_neg hmem]
      have hL : insL [1, 2, 3] l e.c = withE l e.c := by unfold insL; rw [hR]; rfl
      have hgood := h.good.ins (c := e.c) (In_nums hI)
      rw [hL] at hgood
      rw [hR, hL]
      have hx : hOf e.c ∉ (Sh.lists ss).flatten := by
        rw [hF]
        intro hx
        obtain ⟨c, hc, hce⟩ := List.mem_map.1 hx
        have hfc := h.good.fit c hc
        rw [hOf_inj hfc.1 hfit.1 hfc.2 hfit.2 hce] at hc
        exact hmem hc
      obtain ⟨A, B, hAB, hA, hB, hput⟩ := put_low P v ss (hOf e.c) w hP.rack hsrt (by omega) hP.few hx
      refine (ins_any P e w true (fun W w' => RkPost P v ss (A ++ [hOf e.c] ++ B) W (.returned (.bool true)) w') hP.self hPl hI hm (fun W hW => ?_)).mono ?_
      · refine (hput W (hP.rack.below hW)).mono ?_
        rintro r w' hq
        have hr2 : r = .returned (.bool true) := by obtain ⟨_, _, h1, _⟩ := hq; exact h1
        exact ⟨hr2, hr2 ▸ hq⟩
      · rintro r w' ⟨rfl, W, hb, v', ss', -, hR', hF', hK, hbl, h0, hfew⟩
        refine ⟨bl P v' ss', rfl, ⟨⟨v', ss', ⟨?_, hR', hfew⟩, ?_, fun _ => Iff.rfl⟩, hgood⟩, ?_, fun k hk => ?_⟩
        · rw [h0]
          exact (hb.cell (p := ⟨P, 0, none⟩) hPl).trans hP.self
        · rw [hF']
          exact put_list h.good hfit hmem (by rw [← hF]; exact hAB) hA hB
        · exact (Kept.ofBelow hb).trans (hK.mono (fun k hk => (hS k).1 hk)) (fun k hk => .inl hk)
        · rcases hbl k hk with h1 | h1
          · exact .inl ((hS k).1 h1)
          · exact .inr (Nat.le_trans hb.size h1)

set_option maxHeartbeats 400000 in
theorem newPlain_any (w : World) : Calls Try.prog 9 #[] w fun r w' => r = .returned (.pointer (some ⟨w.heap.size, 0, none⟩)) ∧ PlSt w.heap.size (fun k => k = w.heap.size) w' [] ∧ Below w.heap.size w w' := by
  go_enter Try.func9, Try.ntmps9
  go_wp2
  go_ret
  refine ⟨rfl, ⟨⟨.slice none 0 0, [], ⟨by simp, ⟨by simp, by simp, World.ownsRow_nil _ _ _ _, fun s hs => (by cases hs), fun s hs => (by cases hs), by simp [Value.ownBlock], fun s hs => (by cases hs), List.Pairwise.nil⟩, fun s hs => (by cases hs)⟩, rfl, fun k => ?_⟩, Goods.nil _⟩, (Below.refl _ _).alloc (Nat.le_refl _) _⟩
  unfold bl
  simp [Value.ownBlock]
end Go.Proofs.Ytnnmigglcpkomaa.Dm

/- Delete of a method in hand. -/
set_option maxRecDepth 100000
namespace Go.Proofs.Ytnnmigglcpkomaa.Dm
open Go Go.RowKit

set_option maxHeartbeats 1600000 in
/-- Delete of what may not be. -/
theorem del_bad (P : Nat) (e : En) (w : World) (hP : w.cell? ⟨P, 0, none⟩ = some (.pointer (some ⟨P, 0, none⟩))) (hPl : P < w.heap.size) (hI : e.In w) (hm : mayE e.c = false) :
    Calls Try.prog 109 #[.pointer (some ⟨P, 0, none⟩), e.v] w fun r w' => r = .returned (.int .i64 1) ∧ Below w.heap.size w w' := by
  have HH : Hid (∀ W, Below w.heap.size w W → Calls Try.prog 38 #[.pointer (some ⟨P, 0, none⟩), e.v] W fun r w' => ∃ kk tt, r = .returned (.tuple #[.agg #[.string kk, .int .i64 tt], .int .i64 1]) ∧ Below W.heap.size W w') := Lib.hid (fun W hW =>
    heldOf_bad P e W ((hW.cell (p := ⟨P, 0, none⟩) hPl).trans hP) (Nat.lt_of_lt_of_le hPl hW.size) ⟨hI.sl.below hW (Nat.le_refl _), hI.n, hI.ns, hI.t⟩ hm)
  obtain ⟨k, n, s, a, xs, lc, t⟩ := e
  unfold En.v at HH ⊢
  simp only [] at HH ⊢
  obtain ⟨ll, hll⟩ : ∃ ll, ll = xs.length := ⟨_, rfl⟩
  rw [← hll] at HH ⊢
  clear hI hm hll hP
  go_enter Try.func109, Try.ntmps109
  go_wp2_with fail
  refine (HH.out _ ((Below.refl _ _).alloc (Nat.le_refl _) _)).mono ?_
  rintro r w1 ⟨kk, tt, rfl, hb1⟩
  have HB1 : Hid (Below w.heap.size w w1) := Lib.hid (below_al _ hb1)
  clear hb1
  go_wp2
  go_quiet (fail)
  go_wp2
  go_ret
  exact ⟨rfl, (HB1.out.alloc HB1.out.size _).trans ⟨rfl, rfl, rfl, Nat.le_refl _, fun _ _ => rfl⟩⟩

set_option maxHeartbeats 1600000 in
/-- Delete of what may be: as take says. -/
theorem del_any (P : Nat) (e : En) (w : World) (b : Bool) (Q : World → World → Prop) (hP : w.cell? ⟨P, 0, none⟩ = some (.pointer (some ⟨P, 0, none⟩))) (hPl : P < w.heap.size) (hI : e.In w) (hm : mayE e.c = true)
    (htake : ∀ W, Below w.heap.size w W → Calls Try.prog 111 #[.pointer (some ⟨P, 1, none⟩), hdV (hOf e.c)] W fun r w' => r = .returned (.bool b) ∧ Q W w') :
    Calls Try.prog 109 #[.pointer (some ⟨P, 0, none⟩), e.v] w fun r w' => r = .returned (.int .i64 (if b = true then 0 else 3)) ∧ ∃ W, Below w.heap.size w W ∧ Q W w' := by
  have HH : Hid (∀ W, Below w.heap.size w W → Calls Try.prog 38 #[.pointer (some ⟨P, 0, none⟩), e.v] W fun r w' => r = .returned (.tuple #[hdV (hOf e.c), .int .i64 0]) ∧ Below W.heap.size W w') := Lib.hid (fun W hW =>
    heldOf_ok P e W ((hW.cell (p := ⟨P, 0, none⟩) hPl).trans hP) (Nat.lt_of_lt_of_le hPl hW.size) ⟨hI.sl.below hW (Nat.le_refl _), hI.n, hI.ns, hI.t⟩ hm)
  obtain ⟨hk, hkk⟩ : ∃ hk, hk = hOf e.c := ⟨_, rfl⟩
  rw [← hkk] at HH htake
  obtain ⟨xk, xt⟩ := hk
  unfold hdV at HH htake
  simp only [] at HH htake
  have HTAKE := Lib.hid htake
  obtain ⟨k, n, s, a, xs, lc, t⟩ := e
  unfold En.v at HH ⊢
  simp only [] at HH ⊢
  obtain ⟨ll, hll⟩ : ∃ ll, ll = xs.length := ⟨_, rfl⟩
  rw [← hll] at HH ⊢
  clear hI hm hll hP htake hkk
  cases b with
  | true =>
    go_enter Try.func109, Try.ntmps109
    go_wp2_with fail
    refine (HH.out _ ((Below.refl _ _).alloc (Nat.le_refl _) _)).mono ?_
    rintro r w1 ⟨rfl, hb1⟩
    have HB1 : Hid (Below w.heap.size w w1) := Lib.hid (below_al _ hb1)
    clear hb1
    go_wp2
    go_region_law (go_simp; go_at_call 111; refine (HTAKE.out _ (HB1.out.alloc HB1.out.size _).drew).mono ?_; rintro r w2 ⟨rfl, hq⟩)
    all_goals
      have HQ := Lib.hid hq
      clear hq
      go_wp2
      go_ret
      exact ⟨rfl, _, (HB1.out.alloc HB1.out.size _).drew, HQ.out⟩
  | false =>
    go_enter Try.func109, Try.ntmps109
    go_wp2_with fail
    refine (HH.out _ ((Below.refl _ _).alloc (Nat.le_refl _) _)).mono ?_
    rintro r w1 ⟨rfl, hb1⟩
    have HB1 : Hid (Below w.heap.size w w1) := Lib.hid (below_al _ hb1)
    clear hb1
    go_wp2
    go_region_law (go_simp; go_at_call 111; refine (HTAKE.out _ (HB1.out.alloc HB1.out.size _).drew).mono ?_; rintro r w2 ⟨rfl, hq⟩)
    all_goals
      have HQ := Lib.hid hq
      clear hq
      go_wp2
      go_ret
      exact ⟨rfl, _, (HB1.out.alloc HB1.out.size _).drew, HQ.out⟩

/-- take of an entry that is there. -/
theorem take_all (P : Nat) (v : Value) (ss : List Sh) (x : Hd) (w : World) (hR : RackAt w P v ss) (hs : SrtH (Sh.lists ss).flatten) (hl : (Sh.lists ss).flatten.length < 2199023255552) (hfew : ∀ s, s ∈ ss → s.hs.length ≤ 512) (hx : x ∈ (Sh.lists ss).flatten) :
    ∃ A B, (Sh.lists ss).flatten = A ++ [x] ++ B ∧ ∀ W, RackAt W P v ss → Calls Try.prog 111 #[.pointer (some ⟨P, 1, none⟩), hdV x] W (RkPost P v ss (A ++ B) W) := by
  obtain ⟨i, at', th, hk, hS⟩ := seek_all P v ss x w hR hs hl
  have hth : th = true := by
    cases th with
    | true => rfl
    | false =>
      exfalso
      rw [hk.split] at hx
      rcases List.mem_append.1 hx with h | h
      · have h1 := hk.low x h
        rw [cmpH_self] at h1
        omega
      · have h1 := hk.high rfl x h
        rw [cmpH_self] at h1
        omega
  subst hth
  obtain ⟨r, hr⟩ := hk.hit rfl
  have hsp := hk.split
  rcases hk.shape with ⟨h1, rfl, rfl⟩ | hi
  · rw [h1] at hx
    cases hx
  have hi' : i < ss.length := by simpa [Sh.lists] using hi
  have hLi : (Sh.lists ss).getD i [] = ss[i].hs := by simp [Sh.lists, hi']
  rw [hLi] at hr hsp
  have hat : at' < ss[i].hs.length := by
    rcases Nat.lt_or_ge at' ss[i].hs.length with h | h
    · exact h
    · rw [List.drop_eq_nil_of_le h] at hr
      cases hr
  have hr1 : ss[i].hs.drop (at' + 1) = r := by
    rw [List.drop_eq_getElem_cons hat] at hr
    exact (List.cons.inj hr).2
  have e1 : (Sh.lists ss).take i = Sh.lists (ss.take i) := by simp [Sh.lists, List.map_take]
  have e2 : (Sh.lists ss).drop (i + 1) = Sh.lists (ss.drop (i + 1)) := by simp [Sh.lists, List.map_drop]
  refine ⟨(Sh.lists (ss.take i)).flatten ++ ss[i].hs.take at', r ++ (Sh.lists (ss.drop (i + 1))).flatten, ?_, fun W hW => ?_⟩
  · rw [hsp, hr, e1, e2]
    simp [List.append_assoc]
  · obtain ⟨a, c, rfl⟩ := hR.form
    have hdec : ss = ss.take i ++ ss[i] :: ss.drop (i + 1) := by rw [List.getElem_cons_drop, List.take_append_drop]
    have hAl : (ss.take i).length = i := by rw [List.length_take]; omega
    obtain ⟨sb, hsb, _, _⟩ := hW.at i hi'
    subst hsb
    have h2 := take_have P sb c (ss.take i) (ss.drop (i + 1)) ss[i] x W at' (by rw [← hdec]; exact hW) hat (by rw [← hdec]; exact hfew) (by
      rw [← hdec]
      have h5 := flat_many (Sh.lists ss) (fun l hl => by
        obtain ⟨t, ht, rfl⟩ := List.mem_map.1 hl
        exact hW.ne t ht)
      rw [show (Sh.lists ss).length = ss.length by simp [Sh.lists]] at h5
      omega) (fun W' hb => by
      rw [hAl]
      exact hS W' (hW.below hb))
    rw [← hdec, hr1] at h2
    have e3 : (Sh.lists (ss.take i)).flatten ++ ss[i].hs.take at' ++ (r ++ (Sh.lists (ss.drop (i + 1))).flatten) = (Sh.lists (ss.take i)).flatten ++ (ss[i].hs.take at' ++ r) ++ (Sh.lists (ss.drop (i + 1))).flatten := by simp [List.append_assoc]
    rw [e3]
    exact h2

/-- One that is taken out of rising ones. -/
theorem take_list {l : List Et} {e : Et} {A B : List Hd} (h : Goods [1, 2, 3] l) (he : FitE e) (hl : l.map hOf = A ++ [hOf e] ++ B) : A ++ B = (withoutE l e).map hOf := by
  rw [List.append_assoc] at hl
  obtain ⟨l1, l2, rfl, rfl, h2⟩ := List.map_eq_append_iff.1 hl
  obtain ⟨e', l3, rfl, h3, rfl⟩ : ∃ e' l3, l2 = e' :: l3 ∧ hOf e' = hOf e ∧ l3.map hOf = B := by
    cases l2 with
    | nil => cases h2
    | cons a l3 =>
      rw [List.map_cons, List.singleton_append, List.cons.injEq] at h2
      exact ⟨a, l3, rfl, h2.1, h2.2⟩
  have hf := h.fit e' (by simp)
  obtain rfl := hOf_inj hf.1 he.1 hf.2 he.2 h3
  have hr := List.pairwise_append.1 h.rise
  have hr2 := List.pairwise_cons.1 hr.2.1
  have hne : ∀ a b : Et, aheadE a b = true → a ≠ b := fun a b hab hh => by
    rw [hh] at hab
    have h5 := (hOf_less b b).2 hab
    rw [cmpH_self] at h5
    omega
  unfold withoutE
  have q1 : l1.filter (fun x => decide (x ≠ e')) = l1 := List.filter_eq_self.2 (fun a ha => decide_eq_true (hne a e' (hr.2.2 a ha e' (by simp))))
  have q2 : l3.filter (fun x => decide (x ≠ e')) = l3 := List.filter_eq_self.2 (fun a ha => decide_eq_true (fun hh => hne e' a (hr2.1 a ha) hh.symm))
  rw [List.filter_append, List.filter_cons, if_neg (by simp), q1, q2, List.map_append]

/-- Delete. -/
theorem del_st {P : Nat} {S : Nat → Prop} {w : World} {l : List Et} {e : En} (h : PlSt P S w l) (hl : l.length < 2199023255552) (hI : e.In w) :
    Calls Try.prog 109 #[.pointer (some ⟨P, 0, none⟩), e.v] w fun r w' => ∃ S', r = .returned (.int .i64 (delR [1, 2, 3] l e.c)) ∧ PlSt P S' w' (delL [1, 2, 3] l e.c) ∧ Kept S w w' ∧ ∀ k, S' k → S k ∨ w.heap.size ≤ k := by
  obtain ⟨v, ss, hP, hF, hS⟩ := h.ex
  have hPl := hP.rack.lt
  have hsrt : SrtH (Sh.lists ss).flatten := by rw [hF]; exact rise_srt h.good.rise
  have hlen : (Sh.lists ss).flatten.length = l.length := by rw [hF, List.length_map]
  cases hm : mayE e.c with
  | false =>
    have hr : refusedE [1, 2, 3] e.c = 1 := by rw [refused_may, hm]; rfl
    have hR : delR [1, 2, 3] l e.c = 1 := by unfold delR; rw [hr]; rfl
    have hL : delL [1, 2, 3] l e.c = l := by unfold delL; rw [hR]; rfl
    rw [hR, hL]
    refine (del_bad P e w hP.self hPl hI hm).mono ?_
    rintro r w' ⟨rfl, hb⟩
    exact ⟨S, rfl, h.below hb, Kept.ofBelow hb, fun k hk => .inl hk⟩
  | true =>
    have hr : refusedE [1, 2, 3] e.c = 0 := by rw [refused_may, hm]; rfl
    have hfit : FitE e.c := ⟨refusedE_ok hr, In_nums hI⟩
    by_cases hmem : e.c ∈ l
    · have hR : delR [1, 2, 3] l e.c = 0 := by unfold delR; rw [hr, if_pos rfl, if_pos hmem]
      have hL : delL [1, 2, 3] l e.c = withoutE l e.c := by unfold delL; rw [hR]; rfl
      have hgood := h.good.del (c := e.c)
      rw [hL] at hgood
      rw [hR, hL]
      have hx : hOf e.c ∈ (Sh.lists ss).flatten := by
        rw [hF]
        exact List.mem_map.2 ⟨_, hmem, rfl⟩
      obtain ⟨A, B, hAB, htake⟩ := take_all P v ss (hOf e.c) w hP.rack hsrt (by omega) hP.few hx
      refine (del_any P e w true (fun W w' => RkPost P v ss (A ++ B) W (.returned (.bool true)) w') hP.self hPl hI hm (fun W hW => ?_)).mono ?_
      · refine (htake W (hP.rack.below hW)).mono ?_
        rintro r w' hq
        have hr2 : r = .returned (.bool true) := by obtain ⟨_, _, h1, _⟩ := hq; exact h1
        exact ⟨hr2, hr2 ▸ hq⟩
      · rintro r w' ⟨rfl, W, hb, v', ss', -, hR', hF', hK, hbl, h0, hfew⟩
        refine ⟨bl P v' ss', rfl, ⟨⟨v', ss', ⟨?_, hR', hfew⟩, ?_, fun _ => Iff.rfl⟩, hgood⟩, ?_, fun k hk => ?_⟩
        · rw [h0]
          exact (hb.cell (p := ⟨P, 0, none⟩) hPl).trans hP.self
        · rw [hF']
          exact take_list h.good hfit (by rw [← hF]; exact hAB)
        · exact (Kept.ofBelow hb).trans (hK.mono (fun k hk => (hS k).1 hk)) (fun k hk => .inl hk)
        · rcases hbl k hk with h1 | h1
          · exact .inl ((hS k).1 h1)
          · exact .inr (Nat.le_trans hb.size h1)
    · have hR : delR [1, 2, 3] l e.c = 3 := by unfold delR; rw [hr, if_pos rfl, if_neg hmem]
      have hL : delL [1, 2, 3] l e.c = l := by unfold delL; rw [hR]; rfl
      rw [hR, hL]
      have hx : hOf e.c ∉ (Sh.lists ss).flatten := by
        rw [hF]
        intro hx
        obtain ⟨c, hc, hce⟩ := List.mem_map.1 hx
        have hfc := h.good.fit c hc
        rw [hOf_inj hfc.1 hfit.1 hfc.2 hfit.2 hce] at hc
        exact hmem hc
      refine (del_any P e w false (fun W w' => Below W.heap.size W w') hP.self hPl hI hm (fun W hW => ?_)).mono ?_
      · exact take_none P ss (hOf e.c) W (fun W' hb => seek_any P v ss _ W' ((hP.rack.below hW).below hb) hsrt (by omega)) hx
      · rintro r w' ⟨rfl, W, hb, hb2⟩
        have hbb := hb.trans (hb2.mono hb.size)
        exact ⟨S, rfl, h.below hbb, Kept.ofBelow hbb, fun k hk => .inl hk⟩
end Go.Proofs.Ytnnmigglcpkomaa.Dm

/- Find by what is held; the name; what must come (awake). -/
set_option maxRecDepth 100000
namespace Go.Proofs.Ytnnmigglcpkomaa.Dm
open Go Go.RowKit

theorem filter_yes {α : Type} {p : α → Bool} {a : α} {l : List α} (h : p a = true) : (a :: l).filter p = a :: l.filter p := by simp [h]
theorem filter_no {α : Type} {p : α → Bool} {a : α} {l : List α} (h : p a = false) : (a :: l).filter p = l.filter p := by simp [h]
theorem tw_yes {α : Type} {p : α → Bool} {a : α} {l : List α} (h : p a = true) : (a :: l).takeWhile p = a :: l.takeWhile p := by simp [h]
theorem tw_no {α : Type} {p : α → Bool} {a : α} {l : List α} (h : p a = false) : (a :: l).takeWhile p = [] := by simp [h]
theorem find_list {l : List Et} {ky : ByteArray} : Goods [1, 2, 3] l → (∀ c, c ∈ l → 0 ≤ c.2) →
    (((l.map hOf).filter fun y => decide (¬ cmpH y (ky, 0) < 0)).takeWhile fun y => decide (y.1 = ky)).map (·.2) = (l.filter fun c => decide (c.1.kb = ky.data.toList)).map (·.2) := by
  induction l with
  | nil => intro _ _; rfl
  | cons c l ih =>
    intro hg ht
    have hg' : Goods [1, 2, 3] l := ⟨(List.pairwise_cons.1 hg.rise).2, fun x hx => hg.fit x (by simp [hx]), fun x hx => hg.may x (by simp [hx])⟩
    have h1 := ih hg' (fun x hx => ht x (by simp [hx]))
    have htc := ht c (by simp)
    have hE : (hOf c).1 = ky ↔ c.1.kb = ky.data.toList := ⟨fun h => by rw [← h]; rfl, fun h => ba_eq h⟩
    have hcmp : cmpH (hOf c) (ky, 0) = if Lib.compareBytes c.1.kb ky.data.toList = 0 then cmpI c.2 0 else Lib.compareBytes c.1.kb ky.data.toList := rfl
    have hI : ¬ cmpI c.2 0 < 0 := by unfold cmpI; split <;> (try split) <;> omega
    rw [List.map_cons]
    by_cases h0 : Lib.compareBytes c.1.kb ky.data.toList = 0
    · have hk := cb_zero _ _ h0
      have hn : ¬ cmpH (hOf c) (ky, 0) < 0 := by rw [hcmp, if_pos h0]; exact hI
      rw [filter_yes (p := fun y : Hd => decide (¬ cmpH y (ky, 0) < 0)) (decide_eq_true hn), tw_yes (p := fun y : Hd => decide (y.1 = ky)) (decide_eq_true (hE.2 hk)), filter_yes (p := fun c : Et => decide (c.1.kb = ky.data.toList)) (decide_eq_true hk), List.map_cons, List.map_cons, h1]
      rfl
    · have hk : ¬ c.1.kb = ky.data.toList := fun h => h0 (by rw [h]; exact cb_self _)
      rw [filter_no (p := fun c : Et => decide (c.1.kb = ky.data.toList)) (decide_eq_false hk)]
      by_cases hlt : Lib.compareBytes c.1.kb ky.data.toList < 0
      · have hn : cmpH (hOf c) (ky, 0) < 0 := by rw [hcmp, if_neg h0]; exact hlt
        rw [filter_no (p := fun y : Hd => decide (¬ cmpH y (ky, 0) < 0)) (decide_eq_false (fun h => h hn)), h1]
      · have hn : ¬ cmpH (hOf c) (ky, 0) < 0 := by rw [hcmp, if_neg h0]; exact hlt
        rw [filter_yes (p := fun y : Hd => decide (¬ cmpH y (ky, 0) < 0)) (decide_eq_true hn), tw_no (p := fun y : Hd => decide (y.1 = ky)) (decide_eq_false (fun h => hk (hE.1 h)))]
        have : l.filter (fun c => decide (c.1.kb = ky.data.toList)) = [] := by
          rw [List.filter_eq_nil_iff]
          intro d hd
          rw [decide_eq_true_eq]
          intro he
          have h3 := (hOf_less c d).2 ((List.pairwise_cons.1 hg.rise).1 d hd)
          have h4 : cmpH (hOf c) (hOf d) = if Lib.compareBytes c.1.kb d.1.kb = 0 then cmpI c.2 d.2 else Lib.compareBytes c.1.kb d.1.kb := rfl
          rw [he, if_neg h0] at h4
          omega
        rw [this]
        rfl

theorem find_kb {l : List Et} {d : Dt} (hg : Goods [1, 2, 3] l) (hd : d.ok = true) (nd : d.nums) : (l.filter fun c => decide (c.1.kb = d.kb)).map (·.2) = findE l d := by
  unfold findE
  congr 1
  refine List.filter_congr (fun c hc => ?_)
  have hf := hg.fit c hc
  rw [decide_eq_decide]
  exact ⟨fun h => kb_inj hf.1 hd hf.2 nd h, fun h => by rw [h]⟩

theorem may_tid {c : Et} (h : refusedE [1, 2, 3] c = 0) : 0 ≤ c.2 := by
  rw [refused_may] at h
  by_cases hm : mayE c = true
  · unfold mayE at hm
    rw [Bool.and_eq_true, decide_eq_true_eq] at hm
    exact hm.1.1
  · rw [if_neg hm] at h; cases h

/-- Find. -/
theorem find_st {P : Nat} {S : Nat → Prop} {w : World} {l : List Et} {e : En} (h : PlSt P S w l) (hl : l.length < 2199023255552) (hI : e.In w) :
    Calls Try.prog 30 #[.pointer (some ⟨P, 0, none⟩), e.dv] w fun r w' => ∃ v, r = .returned (.tuple #[v, .int .i64 (if e.ok = true then 0 else 1)]) ∧ IRow w.heap.size w' v (if e.ok = true then findE l e.d else []) ∧ Below w.heap.size w w' := by
  obtain ⟨v, ss, hP, hF, hS⟩ := h.ex
  cases hok : e.ok with
  | false =>
    refine (find_bad P e w hP.self hP.rack.lt hI.sl hok).mono ?_
    rintro r w' ⟨rfl, hb⟩
    exact ⟨_, rfl, World.ownsRow_nil _ _ _ _, hb⟩
  | true =>
    have hsrt : SrtH (Sh.lists ss).flatten := by rw [hF]; exact rise_srt h.good.rise
    have h2 := callsIn_wide.1 (find_in 4 (Nat.le_refl _) P v ss e w ((Sh.lists ss).flatten.filter fun y => decide (¬ cmpH y (keyS e.k e.n e.s e.xs, 0) < 0)) hP hsrt (by rw [hF, List.length_map]; exact hl) hI.sl hok (fun i at' th hk => seek_rest hk hsrt))
    refine h2.mono ?_
    rintro r w' ⟨v', rfl, hr, hb⟩
    refine ⟨v', rfl, ?_, hb⟩
    have h3 := find_list (ky := keyS e.k e.n e.s e.xs) h.good (fun c hc => may_tid (h.good.may c hc))
    rw [hF, h3] at hr
    have h4 : (keyS e.k e.n e.s e.xs).data.toList = e.d.kb := by rw [e.kb_d]; rfl
    rw [h4, find_kb h.good (by rw [e.ok_d]; exact hok) (In_nums hI)] at hr
    rw [if_pos rfl]
    exact hr

set_option maxHeartbeats 400000 in
theorem name_st {P : Nat} {S : Nat → Prop} {w : World} {l : List Et} (h : PlSt P S w l) : Calls Try.prog 23 #[.pointer (some ⟨P, 0, none⟩)] w fun r w' => r = .returned (.string ⟨#[112, 108, 97, 105, 110]⟩) ∧ w' = w := by
  obtain ⟨v, ss, hP, -, -⟩ := h.ex
  have HG := Lib.hid (given_yes P w hP.self)
  clear hP h
  go_enter Try.func23, Try.ntmps23
  go_wp2_with (go_at_call 27; refine (HG.out).mono ?_; rintro e w' ⟨rfl, rfl⟩)
  go_ret
  exact ⟨rfl, rfl⟩
end Go.Proofs.Ytnnmigglcpkomaa.Dm
