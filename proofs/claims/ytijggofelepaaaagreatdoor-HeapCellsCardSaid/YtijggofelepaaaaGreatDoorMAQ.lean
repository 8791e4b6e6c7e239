/- Texts of the same proof, one behind the other: FK, FL, FM, FN, FO, FP, FQ. -/
import Derived.Test.YtijggofelepaaaaGreatDoorMAP
/- Contracts: a sheet without rows is let go; a page is taken for a new sheet. -/
set_option maxRecDepth 100000
namespace Go.Proofs.YtijggofelepaaaaGreatDoor
open Go.RowKit

section
variable {J : List RawOp → Prop} {B : Nat} {S : Nat → Prop} {c : Ac} {h : Hd} {G : Nat → List UInt8} {w : World} {hb r : Nat}
set_option maxHeartbeats 1600000 in
theorem put_none {top m q sb : Nat} {L : Nat → List Pl} {l : List Pl} (x : ActV J B S c h G w) (ht : HeapAt w hb c.a r) (hS : ¬ S hb) (hr : r < 16) (hs : HpS h G top L m 0) (hrt : h.root r = top)
    (hsh : SheetAt w sb q l) (hns : ¬ S sb) (hq : L q ≠ []) (hl : l.length = 64) (hrow : ∀ p ∈ l, p.row.length ≤ 400) (hn : cntP l = 0) :
    Calls Tryz.prog 103 #[.pointer (some ⟨hb, 0, none⟩), .pointer (some ⟨sb, 0, none⟩)] w (MutPost J B S c (h.turn q) (upd G top (setB (G top) q 0)) w) := by
  obtain ⟨t1, t2, t3, t4, t5, t6, t7⟩ := hs.on.sheet q hq
  have htop := hs.top_ne hq
  have htl := hs.root htop
  have hqt : q ≠ top := fun e => t7 0 e.symm
  have h1001 := hs.le t1
  have hsz : szP l = 0 := (szP_cnt l).2 hn
  have HSZ := Lib.hid (size_sh hsh hl hrow)
  rw [hsz] at HSZ
  have hk := x.ok
  have HFR : Hid (∀ W, Below w.heap.size w W → Calls Tryz.prog 14 #[.pointer (some ⟨c.a, 0, none⟩), .int .i64 q] W fun e w' => e = .returned (.int .i64 0) ∧ (ActPost J B S c (h.turn q) G w w' ∧ HeapAt w' hb c.a r ∧ SheetAt w' sb q l)) := Lib.hid fun W hW =>
    (free_v (x.below hW) q t1).mono fun e w' ⟨he, S', hT, hA⟩ => by
      have hT' := (Turn.ofBelow hW).trans hT
      exact ⟨he, ⟨S', hT', hA⟩, ht.kept hT'.1 hS, hsh.kept hT'.1 hns⟩
  have HSM : Hid (∀ W, (ActPost J B S c (h.turn q) G w W ∧ HeapAt W hb c.a r) → Calls Tryz.prog 151 #[.pointer (some ⟨hb, 0, none⟩), .int .i64 q, .int .i64 0] W (MutPost J B S c (h.turn q) (upd G top (setB (G top) q 0)) w)) := Lib.hid fun W ⟨⟨S1, hT1, hA1⟩, hh⟩ => by
    have hm := fun j => has_turn hk t1 j
    refine (setMark_any hA1 hh (fun h1 => hS (hT1.2 hb ht.lt h1)) hr q 0 (by omega) (by omega) (fun j hj => hs.len j ((hm j).1 hj).1)).mono ?_
    rintro e w' ⟨he, S', hT, hA⟩
    have e1 : chQ (h.turn q) G r (q / 1008) = top := by rw [show q / 1008 = 0 by omega]; exact chQ_top hrt ((hm top).2 ⟨htl, fun e => hqt e.symm⟩)
    rw [e1, if_neg htop, show q % 1008 = q by omega] at hA
    exact ⟨he, S', hT1.trans hT, hA⟩
  have c1 := ht.c1
  have s0 := hsh.c0
  have HTL := Lib.hid (And.intro ht hsh)
  clear x ht hS hs hrt htop hsh hns hq hqt hl hn htl h1001 hsz hk t1 t2 t3 t4 t5 t6 t7 hrow
  go_enter Tryz.func103, Tryz.ntmps103
  go_wp2_with fail
  refine HSZ.out.mono ?_
  rintro e w1 ⟨rfl, hb1⟩
  have HB1 := Lib.hid hb1
  clear hb1
  go_wp2
  have HQ : Hid (∀ W, (HeapAt W hb c.a r ∧ SheetAt W sb q l) → W.cell? ⟨hb, 1, none⟩ = some (.pointer (some ⟨c.a, 0, none⟩)) ∧ W.cell? ⟨sb, 0, none⟩ = some (.int .i64 q)) := Lib.hid fun W hW => ⟨hW.1.c1, hW.2.c0⟩
  have hS1 : HeapAt w1.drew hb c.a r ∧ SheetAt w1.drew sb q l := ⟨HTL.out.1.below HB1.out.drew, HTL.out.2.below HB1.out.drew⟩
  refine wp_region_held_drew (S := fun W => HeapAt W hb c.a r ∧ SheetAt W sb q l) (by kernel_rfl) hS1 (fun hHeld => ?_)
  refine wpAnyH_take (i := 0) (v := .pointer (some ⟨hb, 0, none⟩)) rfl (by kernel_rfl) (by kernel_rfl) (by kernel_rfl) (fun _ _ _ h => h) (Or.inl ⟨by rfl, fun W hW => by clear hW; go_simp⟩) hHeld ?_
  refine wpAnyH_take (i := 1) (v := .pointer (some ⟨hb, 0, none⟩)) rfl (by kernel_rfl) (by kernel_rfl) (by kernel_rfl) (fun _ _ _ h => h) (Or.inl ⟨by rfl, fun W hW => by clear hW; go_simp⟩) hHeld ?_
  refine wpAnyH_take (i := 2) (v := .pointer (some ⟨hb, 1, none⟩)) rfl (by kernel_rfl) (by kernel_rfl) (by kernel_rfl) (fun _ _ _ h => h) (Or.inl ⟨by rfl, fun W hW => by clear hW; go_simp⟩) hHeld ?_
  refine wpAnyH_take (i := 3) (v := .pointer (some ⟨c.a, 0, none⟩)) rfl (by kernel_rfl) (by kernel_rfl) (by kernel_rfl) (fun _ _ _ h => h) (Or.inl ⟨by rfl, fun W hW => by obtain ⟨x0, x1⟩ := HQ.out W hW; clear hW; go_simp⟩) hHeld ?_
  refine wpAnyH_take (i := 4) (v := .pointer (some ⟨sb, 0, none⟩)) rfl (by kernel_rfl) (by kernel_rfl) (by kernel_rfl) (fun _ _ _ h => h) (Or.inl ⟨by rfl, fun W hW => by clear hW; go_simp⟩) hHeld ?_
  refine wpAnyH_take (i := 5) (v := .pointer (some ⟨sb, 0, none⟩)) rfl (by kernel_rfl) (by kernel_rfl) (by kernel_rfl) (fun _ _ _ h => h) (Or.inl ⟨by rfl, fun W hW => by clear hW; go_simp⟩) hHeld ?_
  refine wpAnyH_take (i := 6) (v := .pointer (some ⟨sb, 0, none⟩)) rfl (by kernel_rfl) (by kernel_rfl) (by kernel_rfl) (fun _ _ _ h => h) (Or.inl ⟨by rfl, fun W hW => by clear hW; go_simp⟩) hHeld ?_
  refine wpAnyH_take (i := 7) (v := .int .i64 q) rfl (by kernel_rfl) (by kernel_rfl) (by kernel_rfl) (fun _ _ _ h => h) (Or.inl ⟨by rfl, fun W hW => by obtain ⟨x0, x1⟩ := HQ.out W hW; clear hW; go_simp⟩) hHeld ?_
  refine wpAnyH_ready (rs := [8]) (by kernel_rfl) (by simp) ?_
  refine AllReadyH.cons rfl (fun K hK => ?_) AllReadyH.nil
  go_simp
  go_at_call 14
  refine (HFR.out _ HB1.out.drew).mono ?_
  rintro e w3 ⟨rfl, hA3, hh3, hs3⟩
  refine hK _ _ ⟨hh3, hs3⟩ (fun _ => ?_)
  clear hK K
  refine wpAnyH_done (by kernel_rfl) ?_ _
  have HA3 := Lib.hid (And.intro hA3 hh3)
  have d0 := hs3.c0
  clear hHeld hA3 hh3 hs3 hS1 c1 s0
  go_simp
  go_wp2_with fail
  refine (HSM.out w3 HA3.out).mono ?_
  rintro e w6 ⟨rfl, hp6⟩
  have HP6 := Lib.hid hp6
  clear hp6
  go_wp2
  refine bodyPost_ret (results_none rfl _ _ _) rfl ?_
  exact ⟨rfl, HP6.out⟩

/-- What taking a page for a sheet leaves. -/
def GrowPost (J : List RawOp → Prop) (B : Nat) (S : Nat → Prop) (c : Ac) (r : Nat) (L : Nat → List Pl) (m : Nat) (w : World) (e : Ending) (w' : World) : Prop :=
  ∃ sb q S' h' G' top', e = .returned (.pointer (some ⟨sb, 0, none⟩)) ∧ HpS h' G' top' L (m + 1) q ∧ h'.root r = top' ∧ top' ≠ 0 ∧ h'.has q ∧ q ≠ top' ∧ L q = [] ∧ Turn S w S' w' ∧ ActV J B S' c h' G' w' ∧ w.heap.size ≤ sb ∧ SheetAt w' sb q (noP 64) ∧ ¬ S' sb
set_option maxHeartbeats 1600000 in
theorem grow_any {top m : Nat} {L : Nat → List Pl} (x : ActV J B S c h G w) (ht : HeapAt w hb c.a r) (hS : ¬ S hb) (hr : r < 16) (hs : HpS h G top L m 0) (hrt : h.root r = top) (hm : m + 1 ≤ 1000) :
    Calls Tryz.prog 149 #[.pointer (some ⟨hb, 0, none⟩)] w (GrowPost J B S c r L m w) := by
  have hk := x.ok
  have HAL : Hid (Calls Tryz.prog 11 #[.pointer (some ⟨c.a, 0, none⟩)] w fun e w' => ∃ (q : Nat) (h' : Hd), q ≤ 1001 ∧ e = .returned (.tuple #[.int .i64 q, .int .i64 0]) ∧ (ActPost J B S c h' (upd G q noughts) w w' ∧ HeapAt w' hb c.a r ∧ HpS h' (upd G q noughts) top L (m + 1) q ∧ h'.root r = top ∧ h'.has q ∧ q ≠ top ∧ L q = [])) := Lib.hid ((alloc_v x).mono fun e w' hh => by
    rcases hh with ⟨q, h', hnx, he, S', hT, hA⟩ | ⟨hf, hc4, _⟩
    · obtain ⟨s1, s2, s3, s4, s5, s6⟩ := hnx.spec hk
      have hs' := hs.take hk hnx hm
      have hq : h'.has q := (s5 q).2 (.inr rfl)
      refine ⟨q, h', hs'.le hq, he, ⟨S', hT, hA⟩, ht.kept hT.1 hS, hs', ?_, hq, fun e => ?_, Classical.byContradiction fun hl => s4 (hs.on.sheet q hl).1⟩
      · rw [← hrt]; unfold Hd.root; rw [s6]
      · by_cases h0 : top = 0
        · omega
        · exact s4 (e ▸ hs.root h0)
    · exact absurd ⟨hf, hc4⟩ hs.spare)
  have HLY : Hid (∀ W q h', (ActPost J B S c h' (upd G q noughts) w W ∧ HeapAt W hb c.a r ∧ HpS h' (upd G q noughts) top L (m + 1) q ∧ h'.root r = top ∧ h'.has q ∧ q ≠ top ∧ L q = []) →
      Calls Tryz.prog 187 #[.pointer (some ⟨hb, 0, none⟩), .int .i64 0] W fun e w' => e = .returned (.bool true) ∧ ∃ S2 h2 G2 top2, HpS h2 G2 top2 L (m + 1) q ∧ h2.root r = top2 ∧ top2 ≠ 0 ∧ h2.has q ∧ q ≠ top2 ∧ L q = [] ∧ Turn S w S2 w' ∧ ActV J B S2 c h2 G2 w') := Lib.hid fun W q h' ⟨⟨S1, hT1, hA1⟩, hh, hs1, hr1, hq1, hqt1, hl1⟩ => by
    have hS1 : ¬ S1 hb := fun h1 => hS (hT1.2 hb ht.lt h1)
    by_cases h0 : top = 0
    · subst h0
      have hnh : ¬ h'.has (h'.root r) := fun e => by rw [hr1] at e; exact absurd e.1 (by omega)
      refine (lay_first hA1 hh hS1 hr hnh).mono ?_
      rintro e w' (⟨p, h2, hnx, he, S2, hT2, hA2⟩ | ⟨hf, hc4, _⟩)
      · obtain ⟨s1, s2, s3, s4, s5, s6⟩ := hnx.spec hA1.ok
        have hs2 := hs1.first hA1.ok hnx r
        refine ⟨he, S2, _, _, p, hs2, ?_, by omega, (s5 q).2 (.inl hq1), fun e => s4 (e ▸ hq1), hl1, hT1.trans hT2, hA2⟩
        rw [Hd.root_setRoot _ s1 _ _ _ hr, if_pos rfl]
      · exact absurd ⟨hf, hc4⟩ hs1.spare
    · have hc : chQ h' (upd G q noughts) r 0 ≠ 0 := by rw [chQ_top hr1 (hs1.root h0)]; exact h0
      refine (lay_there hA1 hh hS1 hr 0 (by omega) hs1.len hc).mono ?_
      rintro e w' ⟨he, S2, hT2, hA2⟩
      exact ⟨he, S2, h', _, top, hs1, hr1, h0, hq1, hqt1, hl1, hT1.trans hT2, hA2⟩
  have c1 := ht.c1
  have HBD := Lib.hid built_sheet
  clear x ht hS hs hrt hk hm
  go_enter Tryz.func149, Tryz.ntmps149
  go_wp2_with fail
  refine HAL.out.mono ?_
  rintro e w1 ⟨q, h', hq, rfl, hp⟩
  have HP := Lib.hid hp
  have e1 : (q : Int).tdiv 1008 = 0 := by rw [Int.tdiv_eq_ediv_of_nonneg (by omega)]; omega
  have e2 : (q : Int) / 1008 = 0 := by omega
  clear hp
  go_wp2_with fail
  refine (HLY.out w1 q h' HP.out).mono ?_
  rintro e w2 ⟨rfl, S2, h2, G2, top2, hp2⟩
  have HP2 := Lib.hid hp2
  clear hp2
  obtain ⟨Y, hY⟩ : ∃ Y : Array Value, Y = (.int .i64 q :: plCells (noP 64)).toArray := ⟨_, rfl⟩
  have HB := Lib.hid (HBD.out (q : Int))
  rw [← hY] at HB
  have HE : Hid (GrowPost J B S c r L m w (.returned (.pointer (some ⟨w2.heap.size, 0, none⟩))) (w2.alloc (.cells Y 168))) := Lib.hid (by
    obtain ⟨p1, p2, p3, p4, p5, p6, p7, p8⟩ := HP2.out
    have hbw : Below w2.heap.size w2 (w2.alloc (.cells Y 168)) := (Below.refl _ _).alloc (Nat.le_refl _) _
    refine ⟨_, q, S2, h2, G2, top2, rfl, p1, p2, p3, p4, p5, p6, p7.trans (Turn.ofBelow hbw), p8.below hbw, p7.1.size, ?_, fun hs => by have := (p8.low _ hs).2; omega⟩
    unfold SheetAt
    rw [← hY]
    exact heap_alloc_new w2 _)
  clear hY HP HP2
  go_wp2_with (refine wpList_val rfl (.agg Y) (exec_build rfl _ (by simp [go_sem]) Y HB.out w2) ?_)
  go_ret
  exact HE.out
end
end Go.Proofs.YtijggofelepaaaaGreatDoor

/- Contract: a sheet that has room for a row. -/
set_option maxRecDepth 100000
namespace Go.Proofs.YtijggofelepaaaaGreatDoor
open Go.RowKit

/-- A sheet that can take so many bytes more. -/
structure Fits (L : Nat → List Pl) (q size : Nat) (l : List Pl) : Prop where
  n : l.length = 64
  row : ∀ p ∈ l, p.row.length ≤ 400
  none_ : ∀ p ∈ l, p.row = [] → p.dead = false
  fit : 1 + szP l + size ≤ 512
  spare : spareP 0 l < 64 ∧ ∃ p, l[spareP 0 l]? = some p ∧ p.row = []
  at_ : ∀ j, j < 64 → (l[j]?).getD Pl.no = plAt L (q * 64 + j)
theorem szP_no : ∀ n, szP (noP n) = 0
  | 0 => rfl
  | n + 1 => by
    have := szP_no n
    unfold noP at this ⊢
    rw [List.replicate_succ, szP, this]
    rfl
theorem Fits.of_sheet {L : Nat → List Pl} {q size : Nat} (hl : ShOk (L q)) (h0 : 0 < size) (hs : size ≤ roomP (L q)) : Fits L q size (L q) := by
  have hne : ¬ ∀ p ∈ L q, p.row ≠ [] := fun hh => by unfold roomP at hs; rw [if_pos hh] at hs; omega
  unfold roomP at hs
  rw [if_neg hne] at hs
  obtain ⟨h1, h2, p, h3, h4⟩ := spareP_some (L q) 0 hne
  have := hl.n
  refine ⟨hl.n, hl.row, hl.none_, by omega, ⟨by omega, p, by simpa using h3, h4⟩, fun j hj => ?_⟩
  unfold plAt
  rw [show (q * 64 + j) / 64 = q by omega, show (q * 64 + j) % 64 = j by omega]
theorem Fits.of_none {L : Nat → List Pl} {q size : Nat} (hl : L q = []) (hs : size ≤ 500) : Fits L q size (noP 64) := by
  have hm : ∀ p ∈ noP 64, p = Pl.no := fun p hp => List.eq_of_mem_replicate hp
  refine ⟨by simp [noP], fun p hp => by rw [hm p hp]; exact Nat.zero_le _, fun p hp _ => by rw [hm p hp]; rfl, by rw [szP_no]; omega, ⟨by decide, Pl.no, rfl, rfl⟩, fun j hj => ?_⟩
  unfold plAt
  rw [show (q * 64 + j) / 64 = q by omega, hl]
  have : (noP 64)[j]? = some Pl.no := by unfold noP; rw [List.getElem?_replicate, if_pos hj]
  rw [this]
  rfl

/-- A heap at hand, alone on its action. -/
def HpV (J : List RawOp → Prop) (B : Nat) (c : Ac) (hb r : Nat) (S : Nat → Prop) (L : Nat → List Pl) (m : Nat) (w : World) : Prop := ∃ h G, ActV J B S c h G w ∧ HeapAt w hb c.a r ∧ ¬ S hb ∧ HpS h G (h.root r) L m 0
section
variable {J : List RawOp → Prop} {B : Nat} {S : Nat → Prop} {c : Ac} {w : World} {hb r : Nat}
theorem HpV.turn {S' : Nat → Prop} {L : Nat → List Pl} {m : Nat} {w' : World} {h : Hd} {G : Nat → List UInt8} (ht : HeapAt w hb c.a r) (hS : ¬ S hb) (hs : HpS h G (h.root r) L m 0) (hT : Turn S w S' w') (hA : ActV J B S' c h G w') : HpV J B c hb r S' L m w' :=
  ⟨h, G, hA, ht.kept hT.1 hS, fun h1 => hS (hT.2 hb ht.lt h1), hs⟩
theorem HpV.below {L : Nat → List Pl} {m : Nat} {w' : World} (x : HpV J B c hb r S L m w) (hbw : Below w.heap.size w w') : HpV J B c hb r S L m w' := by
  obtain ⟨h, G, hA, ht, hS, hs⟩ := x
  exact ⟨h, G, hA.below hbw, ht.below hbw, hS, hs⟩

/-- What a search for room leaves: a sheet, its page taken. -/
def RoomyPost (J : List RawOp → Prop) (B : Nat) (c : Ac) (hb r : Nat) (S : Nat → Prop) (L : Nat → List Pl) (m size : Nat) (w : World) (e : Ending) (w' : World) : Prop :=
  ∃ sb q l S' h' G' m' ex, e = .returned (.pointer (some ⟨sb, 0, none⟩)) ∧ Turn S w S' w' ∧ ActV J B S' c h' G' w' ∧ HpS h' G' (h'.root r) L m' ex ∧ m' ≤ m + 1 ∧ (q = ex ∨ ex = 0) ∧ h'.root r ≠ 0 ∧ h'.has q ∧ q ≠ h'.root r ∧
    w.heap.size ≤ sb ∧ SheetAt w' sb q l ∧ ¬ S' sb ∧ Fits L q size l ∧ HeapAt w' hb c.a r ∧ ¬ S' hb
theorem RoomyPost.of_find {L : Nat → List Pl} {m size : Nat} {h : Hd} {G : Nat → List UInt8} {w1 w2 : World} {S1 : Nat → Prop} {v : Value} (ht : HeapAt w hb c.a r) (hS : ¬ S hb) (hs : HpS h G (h.root r) L m 0) (h0 : 0 < size) (hT : Turn S w S1 w1)
    {S2 : Nat → Prop} (hT2 : Turn S1 w1 S2 w2) (hA2 : ActV J B S2 c h G w2) {sb q : Nat} (hv : v = .pointer (some ⟨sb, 0, none⟩)) (hsb : w1.heap.size ≤ sb) (hsh : SheetAt w2 sb q (L q)) (hns : ¬ S2 sb) (hq : L q ≠ []) (hsz : size ≤ roomP (L q)) :
    RoomyPost J B c hb r S L m size w (.returned v) w2 := by
  obtain ⟨t1, t2, t3, t4, t5, t6, t7⟩ := hs.on.sheet q hq
  have hTT := hT.trans hT2
  exact ⟨sb, q, L q, S2, h, G, m, 0, by rw [hv], hTT, hA2, hs, by omega, .inr rfl, hs.top_ne hq, t1, fun e => t7 0 e.symm, Nat.le_trans hT.1.size hsb, hsh, hns, Fits.of_sheet t5 h0 hsz, ht.kept hTT.1 hS, fun h1 => hS (hTT.2 hb ht.lt h1)⟩

set_option maxHeartbeats 1600000 in
theorem roomy_any {L : Nat → List Pl} {m : Nat} (x : HpV J B c hb r S L m w) (hr : r < 16) (hm : m + 1 ≤ 1000) (size : Nat) (h0 : 0 < size) (hsz : size ≤ 402) :
    Calls Tryz.prog 100 #[.pointer (some ⟨hb, 0, none⟩), .int .i64 size] w (RoomyPost J B c hb r S L m size w) := by
  obtain ⟨h, G, hA, ht, hS, hs⟩ := x
  have HM1 : Hid (∀ W, Calls Tryz.prog 147 #[.int .i64 ((size + 35 : Nat) : Int)] W fun e w' => e = .returned (.int .i64 ((1 + (size + 35) / 36 : Nat) : Int)) ∧ w' = W) := Lib.hid fun W => markOf_any _ W (by omega)
  have HM2 : Hid (∀ W, Calls Tryz.prog 147 #[.int .i64 size] W fun e w' => e = .returned (.int .i64 ((1 + size / 36 : Nat) : Int)) ∧ w' = W) := Lib.hid fun W => markOf_any _ W (by omega)
  have HF : Hid (∀ (S1 : Nat → Prop) (w1 : World), Turn S w S1 w1 → ActV J B S1 c h G w1 → ∀ a tries : Nat, 0 < a → 1 ≤ tries → tries ≤ 4096 → Calls Tryz.prog 148 #[.pointer (some ⟨hb, 0, none⟩), .int .i64 a, .int .i64 size, .int .i64 tries] w1 fun e w' =>
      (e = .returned (.pointer none) ∧ ∃ S', Turn S w S' w' ∧ ActV J B S' c h G w') ∨ (∃ sb, e = .returned (.pointer (some ⟨sb, 0, none⟩)) ∧ RoomyPost J B c hb r S L m size w e w')) := Lib.hid fun S1 w1 hT hA1 a tries ha ht1 ht2 =>
    (find_any hA1 (ht.kept hT.1 hS) (fun h1 => hS (hT.2 hb ht.lt h1)) hr hs.len hs.on a size tries ha ⟨ht1, ht2⟩).mono fun e w' ⟨S', v, he, hT', hA', hh⟩ => by
      rcases hh with hv | ⟨sb, q, hv, h1, h2, h3, h4, h5⟩
      · exact .inl ⟨by rw [he, hv], S', hT.trans hT', hA'⟩
      · refine .inr ⟨sb, by rw [he, hv], ?_⟩
        rw [he]
        exact RoomyPost.of_find ht hS hs h0 hT hT' hA' hv h1 h2 h3 h4 h5
  have HGR : Hid (∀ (S1 : Nat → Prop) (w1 : World), Turn S w S1 w1 → ActV J B S1 c h G w1 → Calls Tryz.prog 149 #[.pointer (some ⟨hb, 0, none⟩)] w1 fun e w' => ∃ sb, e = .returned (.pointer (some ⟨sb, 0, none⟩)) ∧ RoomyPost J B c hb r S L m size w e w') := Lib.hid fun S1 w1 hT hA1 =>
    (grow_any hA1 (ht.kept hT.1 hS) (fun h1 => hS (hT.2 hb ht.lt h1)) hr hs rfl hm).mono fun e w' ⟨sb, q, S', h', G', top', he, p1, p2, p3, p4, p5, p6, p7, p8, p9, p10, p11⟩ => by
      have hTT := hT.trans p7
      subst p2
      exact ⟨sb, he, sb, q, noP 64, S', h', G', m + 1, q, he, hTT, p8, p1, Nat.le_refl _, .inl rfl, p3, p4, p5, Nat.le_trans hT.1.size p9, p10, p11, Fits.of_none p6 (by omega), ht.kept hTT.1 hS, fun h1 => hS (hTT.2 hb ht.lt h1)⟩
  have HA := Lib.hid hA
  have e1 : IntKind.i64.wrap ((size : Int) + 36) = (size : Int) + 36 := IntWalk.i64_in _ (by omega)
  have e2 : IntKind.i64.wrap ((size : Int) + 36 - 1) = ((size + 35 : Nat) : Int) := by rw [IntWalk.i64_in _ (by omega)]; omega
  obtain ⟨a1, ha1⟩ : ∃ a1, a1 = 1 + (size + 35) / 36 := ⟨_, rfl⟩
  obtain ⟨a2, ha2⟩ : ∃ a2, a2 = 1 + size / 36 := ⟨_, rfl⟩
  have hp1 : 0 < a1 := by omega
  have hp2 : 0 < a2 := by omega
  obtain ⟨s35, hs35⟩ : ∃ s35, s35 = size + 35 := ⟨_, rfl⟩
  rw [← hs35] at ha1 e2 HM1
  rw [← ha1] at HM1
  rw [← ha2] at HM2
  have hnn := fun (sb : Nat) (W : World) => neq_sheet_nil W ⟨sb, 0, none⟩
  clear hA ht hS hs ha1 ha2 hs35 hm h0 hsz
  go_enter Tryz.func100, Tryz.ntmps100
  go_wp2_with fail
  refine (HM1.out _).mono ?_
  rintro e w1 ⟨rfl, hw⟩
  subst w1
  go_wp2_with fail
  refine (HM2.out _).mono ?_
  rintro e w1 ⟨rfl, hw⟩
  subst w1
  go_wp2_with fail
  refine (HF.out S w (Turn.refl _ _) HA.out a1 1 hp1 (by omega) (by omega)).mono ?_
  rintro e w1 (⟨rfl, S1, hT1, hA1⟩ | ⟨sb, rfl, hp⟩)
  · have H1 := Lib.hid (And.intro hT1 hA1)
    clear hT1 hA1
    go_wp2_with fail
    refine (HF.out S1 w1 H1.out.1 H1.out.2 a2 4 hp2 (by omega) (by omega)).mono ?_
    rintro e w2 (⟨rfl, S2, hT2, hA2⟩ | ⟨sb, rfl, hp⟩)
    · have H2 := Lib.hid (And.intro hT2 hA2)
      clear hT2 hA2
      go_wp2_with fail
      refine (HGR.out S2 w2 H2.out.1 H2.out.2).mono ?_
      rintro e w3 ⟨sb, rfl, hp⟩
      have HP := Lib.hid hp
      clear hp
      go_wp2
      go_ret
      exact HP.out
    · have HP := Lib.hid hp
      clear hp
      go_wp2
      go_ret
      exact HP.out
  · have HP := Lib.hid hp
    clear hp
    go_wp2
    go_ret
    exact HP.out
end
end Go.Proofs.YtijggofelepaaaaGreatDoor

/- Contract: Insert. -/
set_option maxRecDepth 100000
namespace Go.Proofs.YtijggofelepaaaaGreatDoor
open Go.RowKit

theorem szP_set : ∀ (l : List Pl) (k : Nat) (p x : Pl), l[k]? = some x → szP (l.set k p) + x.sz = szP l + p.sz
  | [], k, p, x, h => by simp at h
  | a :: r, 0, p, x, h => by simp at h; subst h; simp only [List.set_cons_zero, szP]; omega
  | a :: r, k + 1, p, x, h => by
    have := szP_set r k p x (by simpa using h)
    simp only [List.set_cons_succ, szP]; omega
theorem cntP_set : ∀ (l : List Pl) (k : Nat) (p x : Pl), l[k]? = some x → cntP (l.set k p) + x.cnt = cntP l + p.cnt
  | [], k, p, x, h => by simp at h
  | a :: r, 0, p, x, h => by simp at h; subst h; simp only [List.set_cons_zero, cntP]; omega
  | a :: r, k + 1, p, x, h => by
    have := cntP_set r k p x (by simpa using h)
    simp only [List.set_cons_succ, cntP]; omega
theorem cnt_mem : ∀ (l : List Pl) (x : Pl), x ∈ l → x.cnt ≤ cntP l
  | [], _, h => by cases h
  | a :: r, x, h => by
    unfold cntP
    rcases List.mem_cons.1 h with rfl | h
    · omega
    · have := cnt_mem r x h; omega
theorem Fits.put {L : Nat → List Pl} {q size : Nat} {l : List Pl} (x : Fits L q size l) {k : Nat} {p x0 : Pl} (hx : l[k]? = some x0) (hr : p.row ≠ []) (h4 : p.row.length ≤ 400) (hz : 2 + p.row.length ≤ size + x0.sz) : ShOk (l.set k p) ∧ 0 < cntP (l.set k p) := by
  have h1 := szP_set l k p x0 hx
  have h2 := cntP_set l k p x0 hx
  have e1 : p.sz = 2 + p.row.length := by unfold Pl.sz; rw [if_neg hr]
  have e2 : p.cnt = 1 := by unfold Pl.cnt; rw [if_neg hr]
  have h3 := x.fit
  have h5 : x0.cnt ≤ cntP l := cnt_mem l x0 (List.mem_of_getElem? hx)
  refine ⟨⟨by rw [List.length_set]; exact x.n, fun y hy => ?_, fun y hy he => ?_, by omega⟩, by omega⟩
  · rcases List.mem_or_eq_of_mem_set hy with hy | rfl
    · exact x.row y hy
    · exact h4
  · rcases List.mem_or_eq_of_mem_set hy with hy | rfl
    · exact x.none_ y hy he
    · exact absurd he hr

section
variable {J : List RawOp → Prop} {B : Nat} {S : Nat → Prop} {c : Ac} {w : World} {hb r : Nat}
/-- What Insert leaves of a row that may be. -/
def InsPost (J : List RawOp → Prop) (B : Nat) (c : Ac) (hb r : Nat) (S : Nat → Prop) (L : Nat → List Pl) (m : Nat) (row : ByteArray) (w : World) (e : Ending) (w' : World) : Prop :=
  ∃ (t : Nat) (L' : Nat → List Pl) (S' : Nat → Prop), e = .returned (.tuple #[.int .i64 t, .int .i64 0]) ∧ 64 ≤ t ∧ t < 64 * 4096 ∧ plAt L t = Pl.no ∧ (∀ s, plAt L' s = if s = t then ⟨row.data.toList, false⟩ else plAt L s) ∧ Turn S w S' w' ∧ HpV J B c hb r S' L' (m + 1) w'
set_option maxHeartbeats 1600000 in
theorem insert_bad {L : Nat → List Pl} {m : Nat} (x : HpV J B c hb r S L m w) (hr : r < 16) (row : ByteArray) (hrow : row.size = 0 ∨ 400 < row.size) :
    Calls Tryz.prog 56 #[.pointer (some ⟨hb, 0, none⟩), .string row] w fun e w' => e = .returned (.tuple #[.int .i64 0, .int .i64 70]) ∧ Below w.heap.size w w' := by
  obtain ⟨h, G, hA, ht, hS, hs⟩ := x
  have HL := Lib.hid (hp_live hA ht hr)
  clear hA ht hS hs
  rcases hrow with h0 | h4
  · obtain rfl : row = ⟨#[]⟩ := by
      apply ByteArray.ext
      exact Array.eq_empty_of_size_eq_zero h0
    go_enter Tryz.func56, Tryz.ntmps56
    go_wp2_with fail
    refine HL.out.mono ?_
    rintro e w1 ⟨rfl, k, rfl⟩
    go_wp2
    go_ret2
    exact ⟨rfl, below_drewN w k⟩
  · have hne : (row.toList == []) = false := by
      rw [ByteArray.toList_eq]
      cases hh : row.data.toList with
      | nil =>
        have h2 : row.data.toList.length = row.size := rfl
        rw [hh] at h2
        have h3 : 0 = row.size := h2
        omega
      | cons => rfl
    have hne2 : (row.toList == (⟨#[]⟩ : ByteArray).toList) = false := by rw [show (⟨#[]⟩ : ByteArray).toList = [] by rw [ByteArray.toList_eq]]; exact hne
    have h4c : (400 : Int) < (row.size : Int) := by omega
    go_enter Tryz.func56, Tryz.ntmps56
    go_wp2_with fail
    refine HL.out.mono ?_
    rintro e w1 ⟨rfl, k, rfl⟩
    go_wp2
    go_ret2
    exact ⟨rfl, below_drewN w k⟩

set_option maxHeartbeats 1600000 in
theorem insert_ok {L : Nat → List Pl} {m : Nat} (x : HpV J B c hb r S L m w) (hr : r < 16) (hm : m + 1 ≤ 1000) (row : ByteArray) (hrow : 1 ≤ row.size ∧ row.size ≤ 400) :
    Calls Tryz.prog 56 #[.pointer (some ⟨hb, 0, none⟩), .string row] w (InsPost J B c hb r S L m row w) := by
  have hrl : row.data.toList.length = row.size := rfl
  have hrn : row.data.toList ≠ [] := fun e => by
    rw [e] at hrl
    have h3 : 0 = row.size := hrl
    omega
  have hw1 : 1 ≤ w.heap.size := by
    obtain ⟨h, G, hA, ht, hS, hs⟩ := x
    have := ht.lt
    omega
  have HLV : Hid (Calls Tryz.prog 99 #[.pointer (some ⟨hb, 0, none⟩)] w fun e w' => e = .returned (.int .i64 0) ∧ Below w.heap.size w w') := Lib.hid (by
    obtain ⟨h, G, hA, ht, hS, hs⟩ := x
    exact (hp_live hA ht hr).mono fun e w' ⟨he, k, hw⟩ => ⟨he, by rw [hw]; exact below_drewN w k⟩)
  have HSO : Hid (∀ W, Calls Tryz.prog 101 #[.string row] W fun e w' => e = .returned (.int .i64 ((2 + row.size : Nat) : Int)) ∧ w' = W) := Lib.hid fun W => (sizeOf_any row W (by omega)).mono fun e w' ⟨he, hw⟩ => ⟨by rw [he]; norm_cast, hw⟩
  have HRM : Hid (∀ W, Below w.heap.size w W → Calls Tryz.prog 100 #[.pointer (some ⟨hb, 0, none⟩), .int .i64 ((2 + row.size : Nat) : Int)] W fun e w' => ∃ sb, e = .returned (.pointer (some ⟨sb, 0, none⟩)) ∧ w.heap.size ≤ sb ∧ ∃ q l S' h' G' m' ex, Turn S w S' w' ∧ ActV J B S' c h' G' w' ∧ HpS h' G' (h'.root r) L m' ex ∧ m' ≤ m + 1 ∧ (q = ex ∨ ex = 0) ∧ h'.root r ≠ 0 ∧ h'.has q ∧ q ≠ h'.root r ∧
      SheetAt w' sb q l ∧ ¬ S' sb ∧ Fits L q (2 + row.size) l ∧ HeapAt w' hb c.a r ∧ ¬ S' hb) := Lib.hid fun W hW =>
    (roomy_any (x.below hW) hr hm (2 + row.size) (by omega) (by omega)).mono fun e w' ⟨sb, q, l, S', h', G', m', ex, he, hT, hA, p1, p2, p3, p4, p5, p6, p7, p8, p9, p10, p11, p12⟩ =>
      ⟨sb, he, Nat.le_trans hW.size p7, q, l, S', h', G', m', ex, (Turn.ofBelow hW).trans hT, hA, p1, p2, p3, p4, p5, p6, p8, p9, p10, p11, p12⟩
  have hne : (row.toList == []) = false := by
    rw [ByteArray.toList_eq]
    cases hh : row.data.toList with
    | nil => exact absurd hh hrn
    | cons => rfl
  have hne2 : (row.toList == (⟨#[]⟩ : ByteArray).toList) = false := by rw [show (⟨#[]⟩ : ByteArray).toList = [] by rw [ByteArray.toList_eq]]; exact hne
  have h4c : ¬ (400 : Int) < (row.size : Int) := by omega
  obtain ⟨sz, hsz⟩ : ∃ sz, sz = 2 + row.size := ⟨_, rfl⟩
  rw [← hsz] at HSO HRM
  have HSZ := Lib.hid hsz
  clear x hsz
  go_enter Tryz.func56, Tryz.ntmps56
  go_wp2_with fail
  refine HLV.out.mono ?_
  rintro e w1 ⟨rfl, hb1⟩
  have HB1 := Lib.hid hb1
  clear hb1
  go_wp2_with fail
  refine (HSO.out _).mono ?_
  rintro e w2 ⟨rfl, hw⟩
  subst w2
  go_wp2_with fail
  refine (HRM.out _ HB1.out).mono ?_
  rintro e w2 ⟨sb, rfl, hsb, q, l, S', h', G', m', ex, hT, hA, p1, p2, p3, p4, p5, p6, p8, p9, p10, p11, p12⟩
  have hle := p1.le p5
  obtain ⟨hk6, x0, hx0, hx1⟩ := p10.spare
  obtain ⟨k, hk⟩ : ∃ k, k = spareP 0 l := ⟨_, rfl⟩
  rw [← hk] at hk6 hx0
  have HSP : Hid (Calls Tryz.prog 102 #[.pointer (some ⟨sb, 0, none⟩)] w2 fun e w' => e = .returned (.int .i64 k) ∧ Below w2.heap.size w2 w') := Lib.hid (by rw [hk]; exact spare_any p8 p10.n)
  have hput := p10.put (p := ⟨row.data.toList, false⟩) hx0 hrn (by show row.data.toList.length ≤ 400; omega) (by have := HSZ.out; show 2 + row.data.toList.length ≤ _; omega)
  have hx2 : x0 = Pl.no := by
    have hd := p10.none_ x0 (List.mem_of_getElem? hx0) hx1
    obtain ⟨a, b⟩ := x0
    simp only at hx1 hd
    subst hx1 hd; rfl
  have hno : plAt L (q * 64 + k) = Pl.no := by rw [← p10.at_ k hk6, hx0, hx2]; rfl
  have HST : Hid (∀ W3, Below w2.heap.size w2 W3 → W3.cell? ⟨sb, 1 + k * 2, none⟩ = some (.string ⟨x0.row.toArray⟩) ∧ W3.cell? ⟨sb, 1 + k * 2 + 1, none⟩ = some (.bool x0.dead) ∧ (∀ i, W3.frozen? ⟨sb, i, none⟩ = false) ∧ sb < W3.heap.size ∧
      Hid (Calls Tryz.prog 103 #[.pointer (some ⟨hb, 0, none⟩), .pointer (some ⟨sb, 0, none⟩)] ((W3.setCell ⟨sb, 1 + k * 2, none⟩ (.string row)).setCell ⟨sb, 1 + k * 2 + 1, none⟩ (.bool false)) fun e w' => e = .returned (.tuple #[]) ∧
        Hid (∃ L' S2, (∀ s, plAt L' s = if s = q * 64 + k then ⟨row.data.toList, false⟩ else plAt L s) ∧ Turn S w S2 w' ∧ HpV J B c hb r S2 L' (m + 1) w') ∧ Calls Tryz.prog 104 #[.pointer (some ⟨sb, 0, none⟩), .int .i64 k] w' fun e w'' => e = .returned (.int .i64 ((q * 64 + k : Nat) : Int)) ∧ w'' = w')) := Lib.hid fun W3 hb3 => by
    have hs3 := p8.below hb3
    have c0 := hs3.row hx0
    have c1 := hs3.dead hx0
    rw [Nat.mul_comm] at c0 c1
    have hsp := hs3.put (k := k) ⟨row.data.toList, false⟩
    have hkp : Kept (fun j => j = sb) W3 ((W3.setCell ⟨sb, 1 + k * 2, none⟩ (.string row)).setCell ⟨sb, 1 + k * 2 + 1, none⟩ (.bool false)) :=
      (Kept.setCell (fun j => j = sb) W3 (b := sb) (i := 1 + k * 2) rfl (.string row)).trans (Kept.setCell (fun j => j = sb) _ (b := sb) (i := 1 + k * 2 + 1) rfl (.bool false)) (fun _ e => .inl e)
    refine ⟨c0, c1, fun i => Lib.frozen_of_heap hs3 i, hs3.lt, Lib.hid ?_⟩
    obtain ⟨W4, hW4⟩ : ∃ W4, W4 = (W3.setCell ⟨sb, 1 + k * 2, none⟩ (.string row)).setCell ⟨sb, 1 + k * 2 + 1, none⟩ (.bool false) := ⟨_, rfl⟩
    have hsp' : SheetAt W4 sb q (l.set k ⟨row.data.toList, false⟩) := by rw [hW4]; exact hsp
    rw [← hW4] at hkp ⊢
    have hsbh : hb ≠ sb := fun e => by have := p11; have h1 := p8; unfold HeapAt at this; unfold SheetAt at h1; rw [e, h1] at this; simp at this
    have hA4 : ActV J B S' c h' G' W4 := (hA.below hb3).kept hkp (fun j e _ => by subst e; exact ⟨p9, by omega⟩)
    have ht4 : HeapAt W4 hb c.a r := (p11.below hb3).kept hkp hsbh
    have hT4 : Turn S w S' W4 := by
      refine ⟨⟨?_, ?_, ?_, ?_, ?_⟩, fun j hj hs => hT.2 j hj hs⟩
      · exact hkp.os.trans ((Kept.ofBelow (S := fun _ => False) hb3).os.trans hT.1.os)
      · exact hkp.tape.trans ((Kept.ofBelow (S := fun _ => False) hb3).tape.trans hT.1.tape)
      · exact hkp.output.trans ((Kept.ofBelow (S := fun _ => False) hb3).output.trans hT.1.output)
      · exact Nat.le_trans hT.1.size (Nat.le_trans hb3.size hkp.size)
      · intro j hj hs
        have h1 := hT.1.size
        have h2 := hb3.size
        rw [hkp.block j (by omega) (by omega), hb3.block j (by omega)]
        exact hT.1.block j hj hs
    refine (put_some hA4 ht4 p12 hr p1 rfl p4 hsp' p9 p5 p6 hput.1 hput.2).mono ?_
    rintro e w' ⟨he, S2, hT2, hA2⟩
    have hTT := hT4.trans hT2
    refine ⟨he, Lib.hid ⟨upd L q (l.set k ⟨row.data.toList, false⟩), S2, fun s => plAt_set p10.n hk6 (p10.at_) s, hTT, h', _, hA2, ht4.kept hT2.1 p12, fun h1 => p12 (hT2.2 hb ht4.lt h1), (p1.put p4 p3 p5 p6 hput.1 hput.2).more p2 hm⟩, ?_⟩
    exact tid_any (hsp'.kept hT2.1 p9) (by omega) k hk6
  have hkc : (k : Int) < 64 := by omega
  have hkc0 : (0 : Int) ≤ (k : Int) := by omega
  have HQ := Lib.hid (And.intro hle (And.intro hno p5.1))
  clear hT hA p1 p2 p3 p4 p5 p6 p8 p9 p10 p11 p12 hle hx0 hx1 hx2 hk hput hno hrl hrn hsb
  go_wp2_with fail
  refine HSP.out.mono ?_
  rintro e w3 ⟨rfl, hb3⟩
  obtain ⟨c0, c1, z0, hlt, HPU⟩ := HST.out w3 hb3
  clear hb3
  go_wp2_with fail
  refine HPU.out.mono ?_
  rintro e w4 ⟨rfl, HF, htd⟩
  have HTD := Lib.hid htd
  clear htd
  go_wp2_with fail
  refine HTD.out.mono ?_
  rintro e w5 ⟨rfl, hw⟩
  subst w5
  go_wp2
  go_ret2
  obtain ⟨L', S2, f1, f2, f3⟩ := HF.out
  obtain ⟨q1, q2, q3⟩ := HQ.out
  exact ⟨q * 64 + k, L', S2, rfl, by omega, by omega, q2, f1, f2, f3⟩
end
end Go.Proofs.YtijggofelepaaaaGreatDoor

/- Contract: what is done at an address. -/
set_option maxRecDepth 100000
namespace Go.Proofs.YtijggofelepaaaaGreatDoor
open Go.RowKit

set_option maxHeartbeats 400000 in
theorem page_any (t : Nat) (w : World) (ht : t < 9223372036854775808) : Calls Tryz.prog 33 #[.int .i64 t] w fun e w' => e = .returned (.int .i64 ((t / 64 : Nat) : Int)) ∧ w' = w := by
  obtain ⟨q, hq⟩ : ∃ q, q = t / 64 := ⟨_, rfl⟩
  have e1 : (t : Int) / 64 = (q : Int) := by omega
  have e2 : IntKind.i64.wrap (q : Int) = (q : Int) := IntWalk.i64_in _ (by omega)
  have e3 : (t : Int).tdiv 64 = (q : Int) := by rw [Int.tdiv_eq_ediv_of_nonneg (by omega)]; omega
  have e4 : (0 : Int) ≤ (t : Int) := by omega
  have e5 : ¬ (t : Int) < 0 := by omega
  rw [← hq]
  clear ht hq
  go_enter Tryz.func33, Tryz.ntmps33
  go_wp2
  go_ret
  exact ⟨rfl, rfl⟩

theorem eql_sheet_nil (w : World) (a : Addr) : (binOp .eql 122 (.pointer (some a)) (.pointer none)).run Tryz.prog w = .ok (.bool false) w := by
  have h : ∀ d : Nat, (Op.equalIn (d + 1) 122 (.pointer (some a)) (.pointer none)).run Tryz.prog w = .ok false w := fun d => by
    simp [Op.equalIn, run_underlying Tryz.underlying122, sizeOf, typeInfo]
  simp only [binOp]
  simp [Op.equal, Op.maxDepth, h 9999]

section
variable {J : List RawOp → Prop} {B : Nat} {S : Nat → Prop} {c : Ac} {w : World} {hb r : Nat}
/-- What stands where a row of a heap is at hand. -/
def AtIn (J : List RawOp → Prop) (B : Nat) (c : Ac) (hb r : Nat) (S : Nat → Prop) (L : Nat → List Pl) (m : Nat) (w : World) (q sb : Nat) (S1 : Nat → Prop) (w1 : World) : Prop :=
  ∃ h G, Turn S w S1 w1 ∧ ActV J B S1 c h G w1 ∧ HpS h G (h.root r) L m 0 ∧ HeapAt w1 hb c.a r ∧ ¬ S1 hb ∧ w.heap.size ≤ sb ∧ SheetAt w1 sb q (L q) ∧ ¬ S1 sb
/-- Nothing was done, of an address that holds no row. -/
def NonePost (J : List RawOp → Prop) (B : Nat) (c : Ac) (hb r : Nat) (S : Nat → Prop) (L : Nat → List Pl) (m : Nat) (w : World) (e : Ending) (w' : World) : Prop :=
  e = .returned (.int .i64 3) ∧ ∃ S', Turn S w S' w' ∧ HpV J B c hb r S' L m w'
set_option maxHeartbeats 1600000 in
theorem at_neg {L : Nat → List Pl} {m : Nat} (x : HpV J B c hb r S L m w) (hr : r < 16) (t : Int) (h0 : t < 0) (fv : Value) :
    Calls Tryz.prog 65 #[.pointer (some ⟨hb, 0, none⟩), .int .i64 t, fv] w (NonePost J B c hb r S L m w) := by
  have HL : Hid (Calls Tryz.prog 99 #[.pointer (some ⟨hb, 0, none⟩)] w fun e w' => e = .returned (.int .i64 0) ∧ ∃ S', Turn S w S' w' ∧ HpV J B c hb r S' L m w') := Lib.hid (by
    obtain ⟨h, G, hA, ht, hS, hs⟩ := x
    exact (hp_live hA ht hr).mono fun e w' ⟨he, k, hw⟩ => ⟨he, S, by rw [hw]; exact Turn.ofBelow (below_drewN w k), by rw [hw]; exact HpV.below ⟨h, G, hA, ht, hS, hs⟩ (below_drewN w k)⟩)
  clear x
  go_enter Tryz.func65, Tryz.ntmps65
  go_wp2_with fail
  refine HL.out.mono ?_
  rintro e w1 ⟨rfl, hp⟩
  have HP := Lib.hid hp
  clear hp
  go_wp2
  go_ret
  exact ⟨rfl, HP.out⟩
set_option maxHeartbeats 3200000 in
theorem at_none {L : Nat → List Pl} {m : Nat} (x : HpV J B c hb r S L m w) (hr : r < 16) (t : Nat) (h6 : t < 9223372036854775808) (hp : plAt L t = Pl.no) (fv : Value) :
    Calls Tryz.prog 65 #[.pointer (some ⟨hb, 0, none⟩), .int .i64 t, fv] w (NonePost J B c hb r S L m w) := by
  obtain ⟨h, G, hA, ht, hS, hs⟩ := x
  have hbl := ht.lt
  have HL : Hid (Calls Tryz.prog 99 #[.pointer (some ⟨hb, 0, none⟩)] w fun e w' => e = .returned (.int .i64 0) ∧ Below w.heap.size w w') := Lib.hid ((hp_live hA ht hr).mono fun e w' ⟨he, k, hw⟩ => ⟨he, by rw [hw]; exact below_drewN w k⟩)
  have HPG : Hid (∀ W, Calls Tryz.prog 33 #[.int .i64 t] W fun e w' => e = .returned (.int .i64 ((t / 64 : Nat) : Int)) ∧ w' = W) := Lib.hid fun W => page_any t W h6
  have HMK : Hid (∀ W, Below w.heap.size w W → Calls Tryz.prog 110 #[.pointer (some ⟨hb, 0, none⟩), .int .i64 ((t / 64 : Nat) : Int)] W fun e w' => e = .returned (.int .i64 (mkP (L (t / 64)))) ∧ ∃ S1, Turn S w S1 w' ∧ ActV J B S1 c h G w') := Lib.hid fun W hW =>
    (mark_any (hA.below hW) (ht.below hW) hS hr (t / 64) hs.len).mono fun e w' ⟨he, S', hT, hA'⟩ => ⟨by rw [he, hs.on.mkq], S', (Turn.ofBelow hW).trans hT, hA'⟩
  by_cases hq : L (t / 64) = []
  · have hm0 : mkP (L (t / 64)) = 0 := (mkP_zero _).2 hq
    rw [hm0] at HMK
    have HE : Hid (∀ S1 w', Turn S w S1 w' → ActV J B S1 c h G w' → ∃ S', Turn S w S' w' ∧ HpV J B c hb r S' L m w') := Lib.hid fun S1 w' hT hA' => ⟨S1, hT, HpV.turn ht hS hs hT hA'⟩
    obtain ⟨q, hqe⟩ : ∃ q, q = t / 64 := ⟨_, rfl⟩
    rw [← hqe] at HPG HMK
    have h0 : ¬ (t : Int) < 0 := by omega
    clear hA ht hS hs hq hm0 hqe hp h6
    go_enter Tryz.func65, Tryz.ntmps65
    go_wp2_with fail
    refine HL.out.mono ?_
    rintro e w1 ⟨rfl, hb1⟩
    have HB1 := Lib.hid hb1
    clear hb1
    go_wp2_with fail
    refine (HPG.out _).mono ?_
    rintro e w2 ⟨rfl, hw⟩
    subst w2
    go_wp2_with fail
    refine (HMK.out _ HB1.out).mono ?_
    rintro e w2 ⟨rfl, S1, hT, hA1⟩
    have HP := Lib.hid (HE.out _ _ hT hA1)
    clear hT hA1
    go_wp2
    go_ret
    exact ⟨rfl, HP.out⟩
  · obtain ⟨t1, t2, t3, t4, t5, t6, t7⟩ := hs.on.sheet _ hq
    have hm0 : mkP (L (t / 64)) ≠ 0 := fun e => hq ((mkP_zero _).1 e)
    have hk6 : t % 64 < (L (t / 64)).length := by rw [t5.n]; omega
    have hget : (L (t / 64))[t % 64]? = some Pl.no := by
      have : plAt L t = (L (t / 64))[t % 64] := by unfold plAt; rw [List.getElem?_eq_getElem hk6]; rfl
      rw [List.getElem?_eq_getElem hk6, ← this, hp]
    have HLD : Hid (∀ S1 W, Turn S w S1 W → ActV J B S1 c h G W → Calls Tryz.prog 111 #[.pointer (some ⟨hb, 0, none⟩), .int .i64 ((t / 64 : Nat) : Int)] W fun e w' => ∃ sb S2, e = .returned (.pointer (some ⟨sb, 0, none⟩)) ∧ (Turn S w S2 w' ∧ ActV J B S2 c h G w') ∧ SheetAt w' sb (t / 64) (L (t / 64))) := Lib.hid fun S1 W hT hA1 =>
      (hload_any hA1 (ht.kept hT.1 hS) (t / 64) t1 (hs.len _ t1)).mono fun e w' ⟨sb, S2, he, hT2, hA2, hsb, hsh, hns⟩ => ⟨sb, S2, he, ⟨hT.trans hT2, hA2⟩, by
        have := rdSh_shP t5
        rw [← t4] at this
        rw [← this]; exact hsh⟩
    have HE : Hid (∀ S1 w' w'', (Turn S w S1 w' ∧ ActV J B S1 c h G w') → Below w'.heap.size w' w'' → ∃ S', Turn S w S' w'' ∧ HpV J B c hb r S' L m w'') := Lib.hid fun S1 w' w'' ⟨hT, hA'⟩ hb'' => ⟨S1, hT.trans (Turn.ofBelow hb''), HpV.turn ht hS hs (hT.trans (Turn.ofBelow hb'')) (hA'.below hb'')⟩
    have HHO : Hid (∀ W, Calls Tryz.prog 107 #[.agg #[.string ⟨#[]⟩, .bool false]] W fun e w' => e = .returned (.bool false) ∧ Below W.heap.size W w') := Lib.hid fun W => holds_any Pl.no W
    obtain ⟨mk, hmk⟩ : ∃ mk, mk = mkP (L (t / 64)) := ⟨_, rfl⟩
    rw [← hmk] at HMK hm0
    obtain ⟨q, hqe⟩ : ∃ q, q = t / 64 := ⟨_, rfl⟩
    obtain ⟨k, hke⟩ : ∃ k, k = t % 64 := ⟨_, rfl⟩
    rw [← hqe] at HPG HMK HLD
    rw [← hqe, ← hke] at hget
    have HGT := Lib.hid hget
    have h0 : ¬ (t : Int) < 0 := by omega
    have hmc : ¬ (mk : Int) = 0 := by omega
    have hmc2 : ((mk : Int) == 0) = false := beq_eq_false_iff_ne.2 hmc
    have e1 : (t : Int).tmod 64 = (k : Int) := by rw [Int.tmod_eq_emod_of_nonneg (by omega)]; omega
    have e2 : (t : Int) % 64 = (k : Int) := by omega
    have e3 : IntKind.i64.wrap (k : Int) = (k : Int) := IntWalk.i64_in _ (by omega)
    have hkc : (k : Int) < 64 := by omega
    have hkc0 : (0 : Int) ≤ (k : Int) := by omega
    clear hA ht hS hs hq hm0 hp h6 hmk hqe hke t1 t2 t3 t4 t5 t6 t7 hk6 hget
    go_enter Tryz.func65, Tryz.ntmps65
    go_wp2_with fail
    refine HL.out.mono ?_
    rintro e w1 ⟨rfl, hb1⟩
    have HB1 := Lib.hid hb1
    clear hb1
    go_wp2_with fail
    refine (HPG.out _).mono ?_
    rintro e w2 ⟨rfl, hw⟩
    subst w2
    go_wp2_with fail
    refine (HMK.out _ HB1.out).mono ?_
    rintro e w2 ⟨rfl, S1, hT, hA1⟩
    have H2 := Lib.hid (And.intro hT hA1)
    clear hT hA1
    go_wp2_with fail
    refine (HPG.out _).mono ?_
    rintro e w3 ⟨rfl, hw⟩
    subst w3
    go_wp2_with fail
    refine (HLD.out S1 w2 H2.out.1 H2.out.2).mono ?_
    rintro e w3 ⟨sb, S2, rfl, hTA, hsh⟩
    have c0 := hsh.row HGT.out
    have c1 := hsh.dead HGT.out
    rw [Nat.mul_comm] at c0 c1
    have c0' : w3.cell? ⟨sb, 1 + k * 2, none⟩ = some (.string ⟨#[]⟩) := c0
    have c1' : w3.cell? ⟨sb, 1 + k * 2 + 1, none⟩ = some (.bool false) := c1
    have hlt := hsh.lt
    have HTA := Lib.hid hTA
    have hnn := fun (W : World) => eql_sheet_nil W ⟨sb, 0, none⟩
    clear hTA hsh c0 c1
    go_wp2_with fail
    refine (HHO.out _).mono ?_
    rintro e w4 ⟨rfl, hb4⟩
    have HP := Lib.hid (HE.out _ _ _ HTA.out hb4)
    clear hb4
    go_wp2
    go_ret
    exact ⟨rfl, HP.out⟩
end
end Go.Proofs.YtijggofelepaaaaGreatDoor

/- Contract: what is done at an address that holds a row. -/
set_option maxRecDepth 100000
namespace Go.Proofs.YtijggofelepaaaaGreatDoor
open Go.RowKit

section
variable {J : List RawOp → Prop} {B : Nat} {S : Nat → Prop} {c : Ac} {w : World} {hb r : Nat}
set_option maxHeartbeats 3200000 in
theorem at_some1 {L : Nat → List Pl} {m : Nat} (x : HpV J B c hb r S L m w) (hr : r < 16) (t : Nat) (h6 : t < 9223372036854775808) {p : Pl} (hp : plAt L t = p) (hpr : p.row ≠ []) (fn : Nat) (v1 : Value) (heq : ∀ args W, (callFunc fn args).run Tryz.prog W = .ok (.enter fn args) W)
    (P : Ending → World → Prop) (hP : ∀ e w', P e w' → ∃ v, e = .returned v) (hF : ∀ sb S1 W1, AtIn J B c hb r S L m w (t / 64) sb S1 W1 → Calls Tryz.prog fn #[.pointer (some ⟨sb, 0, none⟩), .pointer (some ⟨sb, 1 + t % 64 * 2, none⟩), v1] W1 P) :
    Calls Tryz.prog 65 #[.pointer (some ⟨hb, 0, none⟩), .int .i64 t, .func (.func fn) #[] #[v1]] w P := by
  obtain ⟨h, G, hA, ht, hS, hs⟩ := x
  have HL : Hid (Calls Tryz.prog 99 #[.pointer (some ⟨hb, 0, none⟩)] w fun e w' => e = .returned (.int .i64 0) ∧ Below w.heap.size w w') := Lib.hid ((hp_live hA ht hr).mono fun e w' ⟨he, k, hw⟩ => ⟨he, by rw [hw]; exact below_drewN w k⟩)
  have HPG : Hid (∀ W, Calls Tryz.prog 33 #[.int .i64 t] W fun e w' => e = .returned (.int .i64 ((t / 64 : Nat) : Int)) ∧ w' = W) := Lib.hid fun W => page_any t W h6
  have HMK : Hid (∀ W, Below w.heap.size w W → Calls Tryz.prog 110 #[.pointer (some ⟨hb, 0, none⟩), .int .i64 ((t / 64 : Nat) : Int)] W fun e w' => e = .returned (.int .i64 (mkP (L (t / 64)))) ∧ ∃ S1, Turn S w S1 w' ∧ ActV J B S1 c h G w') := Lib.hid fun W hW =>
    (mark_any (hA.below hW) (ht.below hW) hS hr (t / 64) hs.len).mono fun e w' ⟨he, S', hT, hA'⟩ => ⟨by rw [he, hs.on.mkq], S', (Turn.ofBelow hW).trans hT, hA'⟩
  have hget : (L (t / 64))[t % 64]? = some p := by
    unfold plAt at hp
    cases hg : (L (t / 64))[t % 64]? with
    | none => rw [hg] at hp; exact absurd (by rw [← hp]; rfl) hpr
    | some y => rw [hg] at hp; rw [← hp]; rfl
  have hq : L (t / 64) ≠ [] := fun e => by rw [e] at hget; cases hget
  obtain ⟨t1, t2, t3, t4, t5, t6, t7⟩ := hs.on.sheet _ hq
  have hm0 : mkP (L (t / 64)) ≠ 0 := fun e => hq ((mkP_zero _).1 e)
  have HLD : Hid (∀ S1 W, Turn S w S1 W → ActV J B S1 c h G W → Calls Tryz.prog 111 #[.pointer (some ⟨hb, 0, none⟩), .int .i64 ((t / 64 : Nat) : Int)] W fun e w' => ∃ sb S2, e = .returned (.pointer (some ⟨sb, 0, none⟩)) ∧ AtIn J B c hb r S L m w (t / 64) sb S2 w' ∧ SheetAt w' sb (t / 64) (L (t / 64))) := Lib.hid fun S1 W hT hA1 =>
    (hload_any hA1 (ht.kept hT.1 hS) (t / 64) t1 (hs.len _ t1)).mono fun e w' ⟨sb, S2, he, hT2, hA2, hsb, hsh, hns⟩ => by
      have hTT := hT.trans hT2
      have hsh2 : SheetAt w' sb (t / 64) (L (t / 64)) := by
        have := rdSh_shP t5
        rw [← t4] at this
        rw [← this]; exact hsh
      exact ⟨sb, S2, he, ⟨h, G, hTT, hA2, hs, ht.kept hTT.1 hS, (fun h1 => hS (hTT.2 hb ht.lt h1)), Nat.le_trans hT.1.size hsb, hsh2, hns⟩, hsh2⟩
  have HAB : Hid (∀ sb S2 w' w'', AtIn J B c hb r S L m w (t / 64) sb S2 w' → Below w'.heap.size w' w'' → AtIn J B c hb r S L m w (t / 64) sb S2 w'') := Lib.hid fun sb S2 w' w'' ⟨h, G, a1, a2, a3, a4, a5, a6, a7, a8⟩ hb'' => ⟨h, G, a1.trans (Turn.ofBelow hb''), a2.below hb'', a3, a4.below hb'', a5, a6, a7.below hb'', a8⟩
  have HHO : Hid (∀ W, Calls Tryz.prog 107 #[plV p] W fun e w' => e = .returned (.bool true) ∧ Below W.heap.size W w') := Lib.hid fun W => (holds_any p W).mono fun e w' ⟨he, hb'⟩ => ⟨by rw [he, decide_eq_true hpr], hb'⟩
  unfold plV at HHO
  obtain ⟨s, hs0⟩ : ∃ s : ByteArray, s = ⟨p.row.toArray⟩ := ⟨_, rfl⟩
  obtain ⟨d, hd0⟩ : ∃ d, d = p.dead := ⟨_, rfl⟩
  rw [← hs0, ← hd0] at HHO
  obtain ⟨mk, hmk⟩ : ∃ mk, mk = mkP (L (t / 64)) := ⟨_, rfl⟩
  rw [← hmk] at HMK hm0
  have HF := Lib.hid hF
  have HPV := Lib.hid hP
  clear hF hP
  obtain ⟨q, hqe⟩ : ∃ q, q = t / 64 := ⟨_, rfl⟩
  obtain ⟨k, hke⟩ : ∃ k, k = t % 64 := ⟨_, rfl⟩
  rw [← hqe] at HPG HMK HLD HAB HF
  rw [← hke] at HF
  rw [← hqe, ← hke] at hget
  have HGT := Lib.hid (And.intro hget (And.intro hs0 hd0))
  have h0 : ¬ (t : Int) < 0 := by omega
  have hmc : ¬ (mk : Int) = 0 := by omega
  have hmc2 : ((mk : Int) == 0) = false := beq_eq_false_iff_ne.2 hmc
  have e1 : (t : Int).tmod 64 = (k : Int) := by rw [Int.tmod_eq_emod_of_nonneg (by omega)]; omega
  have e2 : (t : Int) % 64 = (k : Int) := by omega
  have e3 : IntKind.i64.wrap (k : Int) = (k : Int) := IntWalk.i64_in _ (by omega)
  have hkc : (k : Int) < 64 := by omega
  have hkc0 : (0 : Int) ≤ (k : Int) := by omega
  clear hA ht hS hs hq hm0 hp h6 hmk hqe hke t1 t2 t3 t4 t5 t6 t7 hget hs0 hd0 hpr
  go_enter Tryz.func65, Tryz.ntmps65
  go_wp2_with fail
  refine HL.out.mono ?_
  rintro e w1 ⟨rfl, hb1⟩
  have HB1 := Lib.hid hb1
  clear hb1
  go_wp2_with fail
  refine (HPG.out _).mono ?_
  rintro e w2 ⟨rfl, hw⟩
  subst w2
  go_wp2_with fail
  refine (HMK.out _ HB1.out).mono ?_
  rintro e w2 ⟨rfl, S1, hT, hA1⟩
  have H2 := Lib.hid (And.intro hT hA1)
  clear hT hA1
  go_wp2_with fail
  refine (HPG.out _).mono ?_
  rintro e w3 ⟨rfl, hw⟩
  subst w3
  go_wp2_with fail
  refine (HLD.out S1 w2 H2.out.1 H2.out.2).mono ?_
  rintro e w3 ⟨sb, S2, rfl, hai, hsh⟩
  have c0 := hsh.row HGT.out.1
  have c1 := hsh.dead HGT.out.1
  rw [Nat.mul_comm] at c0 c1
  rw [← HGT.out.2.1] at c0
  rw [← HGT.out.2.2] at c1
  have hlt := hsh.lt
  have HAI := Lib.hid hai
  have hnn := fun (W : World) => eql_sheet_nil W ⟨sb, 0, none⟩
  clear hai hsh
  go_wp2_with fail
  refine (HHO.out _).mono ?_
  rintro e w4 ⟨rfl, hb4⟩
  have HC : Hid (Calls Tryz.prog fn #[.pointer (some ⟨sb, 0, none⟩), .pointer (some ⟨sb, 1 + k * 2, none⟩), v1] w4 P) := Lib.hid (HF.out sb S2 w4 (HAB.out _ _ _ _ HAI.out hb4))
  have hlt4 : sb < w4.heap.size := Nat.lt_of_lt_of_le hlt hb4.size
  clear hb4
  go_wp2_with fail
  refine HC.out.mono ?_
  rintro e w5 hP5
  obtain ⟨v, rfl⟩ := HPV.out e w5 hP5
  have HP5 := Lib.hid hP5
  clear hP5
  go_wp2
  exact HP5.out
set_option maxHeartbeats 3200000 in
theorem at_some2 {L : Nat → List Pl} {m : Nat} (x : HpV J B c hb r S L m w) (hr : r < 16) (t : Nat) (h6 : t < 9223372036854775808) {p : Pl} (hp : plAt L t = p) (hpr : p.row ≠ []) (fn : Nat) (v1 v2 : Value) (heq : ∀ args W, (callFunc fn args).run Tryz.prog W = .ok (.enter fn args) W)
    (P : Ending → World → Prop) (hP : ∀ e w', P e w' → ∃ v, e = .returned v) (hF : ∀ sb S1 W1, AtIn J B c hb r S L m w (t / 64) sb S1 W1 → Calls Tryz.prog fn #[.pointer (some ⟨sb, 0, none⟩), .pointer (some ⟨sb, 1 + t % 64 * 2, none⟩), v1, v2] W1 P) :
    Calls Tryz.prog 65 #[.pointer (some ⟨hb, 0, none⟩), .int .i64 t, .func (.func fn) #[] #[v1, v2]] w P := by
  obtain ⟨h, G, hA, ht, hS, hs⟩ := x
  have HL : Hid (Calls Tryz.prog 99 #[.pointer (some ⟨hb, 0, none⟩)] w fun e w' => e = .returned (.int .i64 0) ∧ Below w.heap.size w w') := Lib.hid ((hp_live hA ht hr).mono fun e w' ⟨he, k, hw⟩ => ⟨he, by rw [hw]; exact below_drewN w k⟩)
  have HPG : Hid (∀ W, Calls Tryz.prog 33 #[.int .i64 t] W fun e w' => e = .returned (.int .i64 ((t / 64 : Nat) : Int)) ∧ w' = W) := Lib.hid fun W => page_any t W h6
  have HMK : Hid (∀ W, Below w.heap.size w W → Calls Tryz.prog 110 #[.pointer (some ⟨hb, 0, none⟩), .int .i64 ((t / 64 : Nat) : Int)] W fun e w' => e = .returned (.int .i64 (mkP (L (t / 64)))) ∧ ∃ S1, Turn S w S1 w' ∧ ActV J B S1 c h G w') := Lib.hid fun W hW =>
    (mark_any (hA.below hW) (ht.below hW) hS hr (t / 64) hs.len).mono fun e w' ⟨he, S', hT, hA'⟩ => ⟨by rw [he, hs.on.mkq], S', (Turn.ofBelow hW).trans hT, hA'⟩
  have hget : (L (t / 64))[t % 64]? = some p := by
    unfold plAt at hp
    cases hg : (L (t / 64))[t % 64]? with
    | none => rw [hg] at hp; exact absurd (by rw [← hp]; rfl) hpr
    | some y => rw [hg] at hp; rw [← hp]; rfl
  have hq : L (t / 64) ≠ [] := fun e => by rw [e] at hget; cases hget
  obtain ⟨t1, t2, t3, t4, t5, t6, t7⟩ := hs.on.sheet _ hq
  have hm0 : mkP (L (t / 64)) ≠ 0 := fun e => hq ((mkP_zero _).1 e)
  have HLD : Hid (∀ S1 W, Turn S w S1 W → ActV J B S1 c h G W → Calls Tryz.prog 111 #[.pointer (some ⟨hb, 0, none⟩), .int .i64 ((t / 64 : Nat) : Int)] W fun e w' => ∃ sb S2, e = .returned (.pointer (some ⟨sb, 0, none⟩)) ∧ AtIn J B c hb r S L m w (t / 64) sb S2 w' ∧ SheetAt w' sb (t / 64) (L (t / 64))) := Lib.hid fun S1 W hT hA1 =>
    (hload_any hA1 (ht.kept hT.1 hS) (t / 64) t1 (hs.len _ t1)).mono fun e w' ⟨sb, S2, he, hT2, hA2, hsb, hsh, hns⟩ => by
      have hTT := hT.trans hT2
      have hsh2 : SheetAt w' sb (t / 64) (L (t / 64)) := by
        have := rdSh_shP t5
        rw [← t4] at this
        rw [← this]; exact hsh
      exact ⟨sb, S2, he, ⟨h, G, hTT, hA2, hs, ht.kept hTT.1 hS, (fun h1 => hS (hTT.2 hb ht.lt h1)), Nat.le_trans hT.1.size hsb, hsh2, hns⟩, hsh2⟩
  have HAB : Hid (∀ sb S2 w' w'', AtIn J B c hb r S L m w (t / 64) sb S2 w' → Below w'.heap.size w' w'' → AtIn J B c hb r S L m w (t / 64) sb S2 w'') := Lib.hid fun sb S2 w' w'' ⟨h, G, a1, a2, a3, a4, a5, a6, a7, a8⟩ hb'' => ⟨h, G, a1.trans (Turn.ofBelow hb''), a2.below hb'', a3, a4.below hb'', a5, a6, a7.below hb'', a8⟩
  have HHO : Hid (∀ W, Calls Tryz.prog 107 #[plV p] W fun e w' => e = .returned (.bool true) ∧ Below W.heap.size W w') := Lib.hid fun W => (holds_any p W).mono fun e w' ⟨he, hb'⟩ => ⟨by rw [he, decide_eq_true hpr], hb'⟩
  unfold plV at HHO
  obtain ⟨s, hs0⟩ : ∃ s : ByteArray, s = ⟨p.row.toArray⟩ := ⟨_, rfl⟩
  obtain ⟨d, hd0⟩ : ∃ d, d = p.dead := ⟨_, rfl⟩
  rw [← hs0, ← hd0] at HHO
  obtain ⟨mk, hmk⟩ : ∃ mk, mk = mkP (L (t / 64)) := ⟨_, rfl⟩
  rw [← hmk] at HMK hm0
  have HF := Lib.hid hF
  have HPV := Lib.hid hP
  clear hF hP
  obtain ⟨q, hqe⟩ : ∃ q, q = t / 64 := ⟨_, rfl⟩
  obtain ⟨k, hke⟩ : ∃ k, k = t % 64 := ⟨_, rfl⟩
  rw [← hqe] at HPG HMK HLD HAB HF
  rw [← hke] at HF
  rw [← hqe, ← hke] at hget
  have HGT := Lib.hid (And.intro hget (And.intro hs0 hd0))
  have h0 : ¬ (t : Int) < 0 := by omega
  have hmc : ¬ (mk : Int) = 0 := by omega
  have hmc2 : ((mk : Int) == 0) = false := beq_eq_false_iff_ne.2 hmc
  have e1 : (t : Int).tmod 64 = (k : Int) := by rw [Int.tmod_eq_emod_of_nonneg (by omega)]; omega
  have e2 : (t : Int) % 64 = (k : Int) := by omega
  have e3 : IntKind.i64.wrap (k : Int) = (k : Int) := IntWalk.i64_in _ (by omega)
  have hkc : (k : Int) < 64 := by omega
  have hkc0 : (0 : Int) ≤ (k : Int) := by omega
  clear hA ht hS hs hq hm0 hp h6 hmk hqe hke t1 t2 t3 t4 t5 t6 t7 hget hs0 hd0 hpr
  go_enter Tryz.func65, Tryz.ntmps65
  go_wp2_with fail
  refine HL.out.mono ?_
  rintro e w1 ⟨rfl, hb1⟩
  have HB1 := Lib.hid hb1
  clear hb1
  go_wp2_with fail
  refine (HPG.out _).mono ?_
  rintro e w2 ⟨rfl, hw⟩
  subst w2
  go_wp2_with fail
  refine (HMK.out _ HB1.out).mono ?_
  rintro e w2 ⟨rfl, S1, hT, hA1⟩
  have H2 := Lib.hid (And.intro hT hA1)
  clear hT hA1
  go_wp2_with fail
  refine (HPG.out _).mono ?_
  rintro e w3 ⟨rfl, hw⟩
  subst w3
  go_wp2_with fail
  refine (HLD.out S1 w2 H2.out.1 H2.out.2).mono ?_
  rintro e w3 ⟨sb, S2, rfl, hai, hsh⟩
  have c0 := hsh.row HGT.out.1
  have c1 := hsh.dead HGT.out.1
  rw [Nat.mul_comm] at c0 c1
  rw [← HGT.out.2.1] at c0
  rw [← HGT.out.2.2] at c1
  have hlt := hsh.lt
  have HAI := Lib.hid hai
  have hnn := fun (W : World) => eql_sheet_nil W ⟨sb, 0, none⟩
  clear hai hsh
  go_wp2_with fail
  refine (HHO.out _).mono ?_
  rintro e w4 ⟨rfl, hb4⟩
  have HC : Hid (Calls Tryz.prog fn #[.pointer (some ⟨sb, 0, none⟩), .pointer (some ⟨sb, 1 + k * 2, none⟩), v1, v2] w4 P) := Lib.hid (HF.out sb S2 w4 (HAB.out _ _ _ _ HAI.out hb4))
  have hlt4 : sb < w4.heap.size := Nat.lt_of_lt_of_le hlt hb4.size
  clear hb4
  go_wp2_with fail
  refine HC.out.mono ?_
  rintro e w5 hP5
  obtain ⟨v, rfl⟩ := HPV.out e w5 hP5
  have HP5 := Lib.hid hP5
  clear hP5
  go_wp2
  exact HP5.out
end
end Go.Proofs.YtijggofelepaaaaGreatDoor

/- A sheet with one place turned is written; Get. -/
set_option maxRecDepth 100000
namespace Go.Proofs.YtijggofelepaaaaGreatDoor
open Go.RowKit

theorem Turn.new {S S' T : Nat → Prop} {w w' w'' : World} (h : Turn S w S' w') (hk : Kept T w' w'') (hT : ∀ k, T k → w.heap.size ≤ k) : Turn S w S' w'' :=
  ⟨⟨hk.os.trans h.1.os, hk.tape.trans h.1.tape, hk.output.trans h.1.output, Nat.le_trans h.1.size hk.size, fun j hj hs => by
    have h1 := h.1.size
    rw [hk.block j (by omega) (fun e => by have := hT j e; omega)]
    exact h.1.block j hj hs⟩, h.2⟩
section
variable {J : List RawOp → Prop} {B : Nat} {S : Nat → Prop} {c : Ac} {w : World} {hb r : Nat}
theorem put_at {L : Nat → List Pl} {m q sb k : Nat} {S1 : Nat → Prop} {W1 W2 : World} {x0 p : Pl} (hw1 : 1 ≤ w.heap.size) (ha : AtIn J B c hb r S L m w q sb S1 W1) (hr : r < 16) (hx : (L q)[k]? = some x0)
    (hok : (p.row ≠ [] ∧ p.row.length ≤ 400 ∧ p.sz ≤ x0.sz) ∨ p = Pl.no) (hk2 : Kept (fun j => j = sb) W1 W2) (hsh : SheetAt W2 sb q ((L q).set k p)) :
    Calls Tryz.prog 103 #[.pointer (some ⟨hb, 0, none⟩), .pointer (some ⟨sb, 0, none⟩)] W2 fun e w' => e = .returned (.tuple #[]) ∧ ∃ L' S2, (∀ s, plAt L' s = if s = q * 64 + k then p else plAt L s) ∧ Turn S w S2 w' ∧ HpV J B c hb r S2 L' m w' := by
  obtain ⟨h, G, hT, hA, hs, ht, hS, hsb, hs1, hns⟩ := ha
  have hq : L q ≠ [] := fun e => by rw [e] at hx; cases hx
  obtain ⟨t1, t2, t3, t4, t5, t6, t7⟩ := hs.on.sheet q hq
  have hk6 : k < 64 := by have := (List.getElem?_eq_some_iff.1 hx).1; rw [t5.n] at this; exact this
  have hsbh : hb ≠ sb := fun e => by
    have h1 := ht
    have h2 := hs1
    unfold HeapAt at h1
    unfold SheetAt at h2
    rw [e, h2] at h1
    simp at h1
  have ht2 : HeapAt W2 hb c.a r := ht.kept hk2 hsbh
  have hA2 : ActV J B S1 c h G W2 := hA.kept hk2 (fun j e _ => by
    subst e
    exact ⟨hns, by omega⟩)
  have hT2 : Turn S w S1 W2 := hT.new hk2 (fun j e => by subst e; exact hsb)
  have hat : ∀ j, j < 64 → ((L q)[j]?).getD Pl.no = plAt L (q * 64 + j) := fun j hj => by
    unfold plAt
    rw [show (q * 64 + j) / 64 = q by omega, show (q * 64 + j) % 64 = j by omega]
  have hz := szP_set (L q) k p x0 hx
  have hc := cntP_set (L q) k p x0 hx
  have hfit := t5.fit
  have hlen : ((L q).set k p).length = 64 := by rw [List.length_set]; exact t5.n
  have hrow : ∀ y ∈ (L q).set k p, y.row.length ≤ 400 := fun y hy => by
    rcases List.mem_or_eq_of_mem_set hy with hy | rfl
    · exact t5.row y hy
    · rcases hok with h | h
      · exact h.2.1
      · rw [h]; exact Nat.zero_le _
  have hnone : ∀ y ∈ (L q).set k p, y.row = [] → y.dead = false := fun y hy he => by
    rcases List.mem_or_eq_of_mem_set hy with hy | rfl
    · exact t5.none_ y hy he
    · rcases hok with h | h
      · exact absurd he h.1
      · rw [h]; rfl
  have hsz : p.sz ≤ x0.sz := by
    rcases hok with h | h
    · exact h.2.2
    · rw [h]; exact Nat.zero_le _
  have hok2 : ShOk ((L q).set k p) := ⟨hlen, hrow, hnone, by omega⟩
  by_cases hc0 : cntP ((L q).set k p) = 0
  · refine (put_none hA2 ht2 hS hr hs rfl hsh hns hq hlen hrow hc0).mono ?_
    rintro e w' ⟨he, S2, hT3, hA3⟩
    have hTT := hT2.trans hT3
    have hroot : (h.turn q).root r = h.root r := rfl
    refine ⟨he, upd L q [], S2, fun s => ?_, hTT, h.turn q, _, hA3, ht2.kept hT3.1 hS, fun h1 => hS (hT3.2 hb ht2.lt h1), by rw [hroot]; exact hs.gone hA2.ok hq⟩
    rw [plAt_gone hc0 hnone]
    exact plAt_set t5.n hk6 hat s
  · refine (put_some hA2 ht2 hS hr hs rfl (hs.top_ne hq) hsh hns t1 (fun e => t7 0 e.symm) hok2 (by omega)).mono ?_
    rintro e w' ⟨he, S2, hT3, hA3⟩
    exact ⟨he, upd L q ((L q).set k p), S2, fun s => plAt_set t5.n hk6 hat s, hT2.trans hT3, h, _, hA3, ht2.kept hT3.1 hS, fun h1 => hS (hT3.2 hb ht2.lt h1), hs.put (hs.top_ne hq) (.inr rfl) t1 (fun e => t7 0 e.symm) hok2 (by omega)⟩
end
end Go.Proofs.YtijggofelepaaaaGreatDoor

/- Contracts: Get, Kill, Free. -/
set_option maxRecDepth 100000
namespace Go.Proofs.YtijggofelepaaaaGreatDoor
open Go.RowKit

theorem set_same' {xs : List Value} {i : Nat} {v : Value} (h : xs[i]? = some v) : xs.set i v = xs := by
  obtain ⟨hl, e⟩ := List.getElem?_eq_some_iff.1 h
  rw [← e]; exact List.set_getElem_self hl
theorem SheetAt.kill {w : World} {sb q k : Nat} {l : List Pl} {p : Pl} (h : SheetAt w sb q l) (hp : l[k]? = some p) (d : Bool) : SheetAt (w.setCell ⟨sb, 1 + k * 2 + 1, none⟩ (.bool d)) sb q (l.set k ⟨p.row, d⟩) := by
  rw [Nat.mul_comm]
  unfold SheetAt at h ⊢
  rw [heap_set_at h _ _, plCells_set, set_same' (plCells_at l k p hp).1]
  congr 2
  apply Array.ext'
  rw [Array.toList_setIfInBounds, List.toList_toArray, show 1 + 2 * k + 1 = 2 * k + 1 + 1 by omega, List.set_cons_succ]

section
variable {J : List RawOp → Prop} {B : Nat} {S : Nat → Prop} {c : Ac} {w : World} {hb r : Nat}
theorem HpV.pos {L : Nat → List Pl} {m : Nat} (x : HpV J B c hb r S L m w) : 1 ≤ w.heap.size ∧ hb < w.heap.size := by
  obtain ⟨h, G, hA, ht, hS, hs⟩ := x
  have := ht.lt
  omega
theorem HpV.new {L : Nat → List Pl} {m : Nat} {T : Nat → Prop} {w' : World} (x : HpV J B c hb r S L m w) (hk : Kept T w w') (hT : ∀ k, T k → ¬ S k ∧ 1 ≤ k ∧ k ≠ hb) : HpV J B c hb r S L m w' := by
  obtain ⟨h, G, hA, ht, hS, hs⟩ := x
  exact ⟨h, G, hA.kept hk (fun k h1 _ => ⟨(hT k h1).1, (hT k h1).2.1⟩), ht.kept hk (fun h1 => (hT hb h1).2.2 rfl), hS, hs⟩
theorem AtIn.hpv {L : Nat → List Pl} {m q sb : Nat} {S1 : Nat → Prop} {W1 : World} (ha : AtIn J B c hb r S L m w q sb S1 W1) : Turn S w S1 W1 ∧ HpV J B c hb r S1 L m W1 := by
  obtain ⟨h, G, hT, hA, hs, ht, hS, hsb, hs1, hns⟩ := ha
  exact ⟨hT, h, G, hA, ht, hS, hs⟩
/-- What Kill or Free leave where nothing is done. -/
def PlPost (J : List RawOp → Prop) (B : Nat) (c : Ac) (hb r : Nat) (S : Nat → Prop) (L : Nat → List Pl) (m t : Nat) (p : Pl) (w : World) (e : Ending) (w' : World) : Prop :=
  e = .returned (.int .i64 0) ∧ ∃ L' S', (∀ s, plAt L' s = if s = t then p else plAt L s) ∧ Turn S w S' w' ∧ HpV J B c hb r S' L' m w'

set_option maxHeartbeats 1600000 in
theorem kill1_any {L : Nat → List Pl} {m t sb hx : Nat} {S1 : Nat → Prop} {W1 : World} {p : Pl} (hw1 : 1 ≤ w.heap.size) (ha : AtIn J B c hb r S L m w (t / 64) sb S1 W1) (hr : r < 16) (hp : plAt L t = p) (hpr : p.row ≠ []) (hh : W1.cell? ⟨hx, 0, none⟩ = some (.pointer (some ⟨hb, 0, none⟩))) (hhx : hx ≠ sb) :
    Calls Tryz.prog 105 #[.pointer (some ⟨sb, 0, none⟩), .pointer (some ⟨sb, 1 + t % 64 * 2, none⟩), .pointer (some ⟨hx, 0, none⟩)] W1 fun e w' => (p.dead = true → NonePost J B c hb r S L m w e w') ∧ (p.dead = false → PlPost J B c hb r S L m t ⟨p.row, true⟩ w e w') := by
  have hget : (L (t / 64))[t % 64]? = some p := by
    unfold plAt at hp
    cases hg : (L (t / 64))[t % 64]? with
    | none => rw [hg] at hp; exact absurd (by rw [← hp]; rfl) hpr
    | some y => rw [hg] at hp; rw [← hp]; rfl
  have hhpv := ha.hpv
  obtain ⟨h, G, hT, hA, hs, ht, hS, hsb, hs1, hns⟩ := id ha
  have hq : L (t / 64) ≠ [] := fun e => by rw [e] at hget; cases hget
  have hsh := (hs.on.sheet _ hq).2.2.2.2.1
  have h4 := hsh.row p (List.mem_of_getElem? hget)
  have c0 := hs1.row hget
  have c1 := hs1.dead hget
  rw [Nat.mul_comm] at c0 c1
  have hlt := hs1.lt
  have z0 := fun i => Lib.frozen_of_heap hs1 i
  by_cases hd : p.dead = true
  · rw [hd] at c1
    have HP := Lib.hid hhpv
    have hnd : ¬ p.dead = false := by rw [hd]; simp
    clear ha hhpv hT hA hs ht hS hsb hs1 hns hq hsh hget hp hpr h4 c0 z0
    go_enter Tryz.func105, Tryz.ntmps105
    go_wp2
    go_ret
    exact ⟨fun _ => ⟨rfl, _, HP.out⟩, fun e => absurd e hnd⟩
  · have hd' : p.dead = false := by simpa using hd
    rw [hd'] at c1
    have hput := put_at (p := ⟨p.row, true⟩) hw1 ha hr hget (.inl ⟨hpr, h4, Nat.le_of_eq (by unfold Pl.sz; rfl)⟩) (Kept.setCell (fun j => j = sb) W1 (b := sb) (i := 1 + t % 64 * 2 + 1) rfl (.bool true)) (by
      exact hs1.kill hget true)
    have HPU : Hid (Calls Tryz.prog 103 #[.pointer (some ⟨hb, 0, none⟩), .pointer (some ⟨sb, 0, none⟩)] (W1.setCell ⟨sb, 1 + t % 64 * 2 + 1, none⟩ (.bool true)) fun e w' => e = .returned (.tuple #[]) ∧ PlPost J B c hb r S L m t ⟨p.row, true⟩ w (.returned (.int .i64 0)) w') := Lib.hid (hput.mono fun e w' ⟨he, L', S2, f1, f2, f3⟩ => ⟨he, rfl, L', S2, fun s => by rw [f1 s, show t / 64 * 64 + t % 64 = t by omega], f2, f3⟩)
    obtain ⟨k2, hk2⟩ : ∃ k2, k2 = 1 + t % 64 * 2 := ⟨_, rfl⟩
    rw [← hk2] at HPU c0 c1 ⊢
    have hhc : (W1.setCell ⟨sb, k2 + 1, none⟩ (.bool true)).cell? ⟨hx, 0, none⟩ = some (.pointer (some ⟨hb, 0, none⟩)) := by
      rw [World.cell?_of_block (Below.heap_setCell W1 ⟨sb, k2 + 1, none⟩ _ hx hhx)]
      exact hh
    clear ha hhpv hT hA hs ht hS hsb hs1 hns hq hsh hget hp hpr h4 c0 hput hk2 hd hh
    go_enter Tryz.func105, Tryz.ntmps105
    go_wp2_with fail
    refine HPU.out.mono ?_
    rintro e w3 ⟨rfl, hp3⟩
    have HP3 := Lib.hid hp3
    clear hp3
    go_wp2
    go_ret
    exact ⟨fun e => absurd (hd'.symm.trans e) (by simp), fun _ => HP3.out⟩

set_option maxHeartbeats 1600000 in
theorem free1_any {L : Nat → List Pl} {m t sb hx : Nat} {S1 : Nat → Prop} {W1 : World} {p : Pl} (hw1 : 1 ≤ w.heap.size) (ha : AtIn J B c hb r S L m w (t / 64) sb S1 W1) (hr : r < 16) (hp : plAt L t = p) (hpr : p.row ≠ []) (hh : W1.cell? ⟨hx, 0, none⟩ = some (.pointer (some ⟨hb, 0, none⟩))) (hhx : hx ≠ sb) :
    Calls Tryz.prog 109 #[.pointer (some ⟨sb, 0, none⟩), .pointer (some ⟨sb, 1 + t % 64 * 2, none⟩), .pointer (some ⟨hx, 0, none⟩)] W1 fun e w' => (p.dead = false → NonePost J B c hb r S L m w e w') ∧ (p.dead = true → PlPost J B c hb r S L m t Pl.no w e w') := by
  have hget : (L (t / 64))[t % 64]? = some p := by
    unfold plAt at hp
    cases hg : (L (t / 64))[t % 64]? with
    | none => rw [hg] at hp; exact absurd (by rw [← hp]; rfl) hpr
    | some y => rw [hg] at hp; rw [← hp]; rfl
  have hhpv := ha.hpv
  obtain ⟨h, G, hT, hA, hs, ht, hS, hsb, hs1, hns⟩ := id ha
  have c0 := hs1.row hget
  have c1 := hs1.dead hget
  rw [Nat.mul_comm] at c0 c1
  have hlt := hs1.lt
  have z0 := fun i => Lib.frozen_of_heap hs1 i
  by_cases hd : p.dead = true
  · rw [hd] at c1
    have hput := put_at (p := Pl.no) hw1 ha hr hget (.inr rfl) ((Kept.setCell (fun j => j = sb) W1 (b := sb) (i := 1 + t % 64 * 2) rfl (.string ⟨#[]⟩)).trans (Kept.setCell (fun j => j = sb) _ (b := sb) (i := 1 + t % 64 * 2 + 1) rfl (.bool false)) (fun _ e => .inl e)) (hs1.put (k := t % 64) Pl.no)
    have HPU : Hid (Calls Tryz.prog 103 #[.pointer (some ⟨hb, 0, none⟩), .pointer (some ⟨sb, 0, none⟩)] ((W1.setCell ⟨sb, 1 + t % 64 * 2, none⟩ (.string ⟨#[]⟩)).setCell ⟨sb, 1 + t % 64 * 2 + 1, none⟩ (.bool false)) fun e w' => e = .returned (.tuple #[]) ∧ PlPost J B c hb r S L m t Pl.no w (.returned (.int .i64 0)) w') := Lib.hid (hput.mono fun e w' ⟨he, L', S2, f1, f2, f3⟩ => ⟨he, rfl, L', S2, fun s => by rw [f1 s, show t / 64 * 64 + t % 64 = t by omega], f2, f3⟩)
    obtain ⟨k2, hk2⟩ : ∃ k2, k2 = 1 + t % 64 * 2 := ⟨_, rfl⟩
    rw [← hk2] at HPU c0 c1 ⊢
    have hhc : ((W1.setCell ⟨sb, k2, none⟩ (.string ⟨#[]⟩)).setCell ⟨sb, k2 + 1, none⟩ (.bool false)).cell? ⟨hx, 0, none⟩ = some (.pointer (some ⟨hb, 0, none⟩)) := by
      rw [World.cell?_of_block (Below.heap_setCell _ ⟨sb, k2 + 1, none⟩ _ hx hhx), World.cell?_of_block (Below.heap_setCell W1 ⟨sb, k2, none⟩ _ hx hhx)]
      exact hh
    have hnd : ¬ p.dead = false := by rw [hd]; simp
    clear ha hhpv hT hA hs ht hS hsb hs1 hns hget hp hpr hput hk2 hh
    go_enter Tryz.func109, Tryz.ntmps109
    go_wp2_with fail
    refine HPU.out.mono ?_
    rintro e w3 ⟨rfl, hp3⟩
    have HP3 := Lib.hid hp3
    clear hp3
    go_wp2
    go_ret
    exact ⟨fun e => absurd e hnd, fun _ => HP3.out⟩
  · have hd' : p.dead = false := by simpa using hd
    rw [hd'] at c1
    have HP := Lib.hid hhpv
    clear ha hhpv hT hA hs ht hS hsb hs1 hns hget hp hpr c0 z0
    go_enter Tryz.func109, Tryz.ntmps109
    go_wp2
    go_ret
    exact ⟨fun _ => ⟨rfl, _, HP.out⟩, fun e => absurd e hd⟩
end
end Go.Proofs.YtijggofelepaaaaGreatDoor
