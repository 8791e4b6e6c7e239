/- TidsetTurns' walk. -/
import Derived.Test.YtpjpkpbfbbpmdaaDoorTTD
set_option maxRecDepth 100000
namespace Go.Proofs.YtpjpkpbfbbpmdaaDoor.Ts
open Go Go.RowKit

def stepT (x : Int) (T : List Nat) : List Nat := if Adr x then ins x.toNat T else T
def TE (l : List Int) (j : Nat) : List Nat := (l.drop j).foldr stepT []
theorem srt_stepT {x : Int} {T : List Nat} (h : Srt T) : Srt (stepT x T) := by unfold stepT; split; exact srt_ins h; exact h
theorem stepT_len (x : Int) (T : List Nat) : (stepT x T).length ≤ T.length + 1 := by
  unfold stepT; split
  · exact length_ins_le _ _
  · omega
theorem mem_stepT {x : Int} {T : List Nat} {t : Nat} : t ∈ stepT x T ↔ ((t : Int) = x ∧ Adr x) ∨ t ∈ T := by
  unfold stepT
  split
  · rename_i h
    rw [mem_ins]
    have : t = x.toNat ↔ (t : Int) = x := by have := h.1; omega
    rw [this]; simp [h]
  · rename_i h; simp [h]
theorem foldr_stepT (l : List Int) : Srt (l.foldr stepT []) ∧ (l.foldr stepT []).length ≤ l.length ∧ ∀ t : Nat, t ∈ l.foldr stepT [] ↔ (t : Int) ∈ l ∧ Adr t := by
  induction l with
  | nil => exact ⟨List.Pairwise.nil, Nat.le_refl _, by simp⟩
  | cons x r ih =>
    obtain ⟨a, b, c⟩ := ih
    refine ⟨srt_stepT a, ?_, fun t => ?_⟩
    · have := stepT_len x (r.foldr stepT [])
      simp; omega
    · rw [List.foldr_cons, mem_stepT, c, List.mem_cons]
      constructor
      · rintro (⟨h1, h2⟩ | ⟨h1, h2⟩)
        · exact ⟨.inl h1, by rw [h1]; exact h2⟩
        · exact ⟨.inr h1, h2⟩
      · rintro ⟨h1 | h1, h2⟩
        · exact .inl ⟨h1, by rw [← h1]; exact h2⟩
        · exact .inr ⟨h1, h2⟩
theorem TE_pred {l : List Int} {j : Nat} (h : j < l.length) : TE l j = stepT l[j] (TE l (j + 1)) := by
  unfold TE; rw [List.drop_eq_getElem_cons h]; rfl
theorem TE_len (l : List Int) (j : Nat) : (TE l j).length ≤ l.length - j := by
  have := (foldr_stepT (l.drop j)).2.1
  rw [List.length_drop] at this; exact this
theorem TE_srt (l : List Int) (j : Nat) : Srt (TE l j) := (foldr_stepT _).1
/-- A set of few, none of it whole. -/
def few (T : List Nat) : Tset := ⟨64, T, []⟩
theorem few_step {T : List Nat} {x : Int} {s : Tset} (hs : T.length + 1 ≤ 64) (h : AStep (few T) x s) : s = few (stepT x T) := by
  refine h.unique ?_
  unfold stepT
  split
  · rename_i hx
    refine .inr ⟨hx, rfl, .inr ⟨by simp [few], .done ?_⟩⟩
    show (ins x.toNat T).length ≤ 64
    have := length_ins_le x.toNat T; omega
  · rename_i hx; exact .inl ⟨hx, rfl⟩
theorem few_or {T : List Nat} {x : Int} {s : Tset} (hT : Srt T) (hl : T.length + 1 ≤ 64) (h : OrTo (few (stepT x [])) (few T) s) : s = few (stepT x T) := by
  refine h.unique ⟨rfl, stepT x T, [], ⟨srt_stepT hT, List.Pairwise.nil, fun t => ?_, fun p => ?_⟩, .done ?_⟩
  · unfold EitherT EitherP few
    simp only [mem_stepT]
    simp
  · unfold EitherP few; simp
  · show (stepT x T).length ≤ 64
    have := stepT_len x T; omega
theorem few_and {T : List Nat} {s : Tset} (hT : Srt T) (hl : T.length ≤ 64) (h : AndTo (few T) (few T) s) : s = few T := by
  refine h.unique ⟨rfl, T, [], ⟨hT, List.Pairwise.nil, fun t => ?_, fun p => ?_⟩, .done hl⟩
  · unfold BothT Tset.has few; simp
  · unfold BothP few; simp
theorem adds_few {l : List Int} {s : Tset} (h : Adds ⟨64, [], []⟩ l s) (hl : l.length ≤ 64) : s = few (TE l 0) := by
  have key : ∀ {l : List Int} {s : Tset}, Adds ⟨64, [], []⟩ l s → l.length ≤ 64 → ∃ T, s = few T ∧ Srt T ∧ T.length ≤ l.length ∧ ∀ t : Nat, t ∈ T ↔ (t : Int) ∈ l ∧ Adr t := by
    intro l s h
    induction h with
    | nil => intro _; exact ⟨[], rfl, List.Pairwise.nil, by simp, by simp⟩
    | @snoc l s s' x h k ih =>
      intro hl
      rw [List.length_append, List.length_singleton] at hl
      obtain ⟨T, rfl, a, b, c⟩ := ih (by omega)
      refine ⟨stepT x T, few_step (by omega) k, srt_stepT a, ?_, fun t => ?_⟩
      · have := stepT_len x T
        simp; omega
      · rw [mem_stepT, c, List.mem_append, List.mem_singleton]
        constructor
        · rintro (⟨h1, h2⟩ | ⟨h1, h2⟩)
          · exact ⟨.inr h1, by rw [h1]; exact h2⟩
          · exact ⟨.inl h1, h2⟩
        · rintro ⟨h1 | h1, h2⟩
          · exact .inr ⟨h1, h2⟩
          · exact .inl ⟨h1, by rw [← h1]; exact h2⟩
  obtain ⟨T, rfl, a, b, c⟩ := key h hl
  have h2 := foldr_stepT l
  have : T = TE l 0 := srt_ext a h2.1 fun t => (c t).trans (h2.2.2 t).symm
  rw [this]

set_option maxHeartbeats 6400000 in
theorem turns14_walk (a : Option Addr) (xs : List Int) (c : Nat) (w : World) (hT : Tab w) (hx : ZV w a xs) (hn : xs.length ≤ 9223372036854775807) :
    Calls Tryd.prog 7 #[.slice a xs.length c] w fun e w' => e = .returned (.bool true) ∧ Below w.heap.size w w' := by
  have HT := Lib.hid hT
  have h1 := hT.1
  obtain ⟨n, hne⟩ : ∃ n, n = xs.length := ⟨_, rfl⟩
  rw [← hne] at hn ⊢
  have HNE := Lib.hid hne
  by_cases hlong : 64 < n
  · have HAW := Lib.hid (awake14 w hT)
    clear hT hx hne
    go_enter Tryd.func7, Tryd.ntmps7
    go_wp2_with fail
    refine HAW.out.mono ?_
    rintro e w9 ⟨rfl, hb9⟩
    go_wp2
    go_ret
    exact ⟨rfl, hb9⟩
  · have hn64 : n ≤ 64 := by omega
    have hii : ¬ (64 : Int) < (n : Int) := by omega
    have HX := Lib.hid hx
    have HMD := Lib.hid (made_ok 64 a xs n c w (by omega) hne hx hn hT)
    have HNW : Hid (∀ W, Calls Tryd.prog 20 #[.int .i64 64] W (NewPost 64 W)) := Lib.hid fun W => new_st 64 W (by omega)
    clear hT hx hne hlong
    go_enter Tryd.func7, Tryd.ntmps7
    go_wp2_with fail
    refine HMD.out.mono ?_
    rintro e w1 ⟨ab, ae, aw, sa, v, rfl, -, hsa, hra, had, hb1, ga1, ga2, ga3⟩
    obtain rfl := adds_few had (by rw [← HNE.out]; exact hn64)
    obtain ⟨a1, n1, c1, a2, n2, c2, rfl, -⟩ := hra
    obtain ⟨W1, hW1⟩ : ∃ W1, W1 = w1.alloc (.cells #[.int .i64 64, .slice a1 n1 c1, .slice a2 n2 c2] 27) := ⟨_, rfl⟩
    have hb11 : Below w1.heap.size w1 W1 := by rw [hW1]; exact (Below.refl _ _).alloc (Nat.le_refl _) _
    have HA1 := Lib.hid (hsa.below hb11)
    have HB1 := Lib.hid (bel3 hb1 hb11)
    have HW1 := Lib.hid hW1
    have hAl := hsa.lts
    have hz1 : w1.heap.size + 1 = W1.heap.size := by rw [hW1]; simp
    clear hsa had hb1 hb11 hW1 HMD
    unfold rv few
    simp only []
    go_wp2_with fail
    rw [← HW1.out]
    refine (HNW.out _).mono ?_
    rintro e w2 ⟨bb, be, bw, rfl, hs2, hb2, g1, g2, g3⟩
    have HA2 := Lib.hid (HA1.out.below hb2)
    have HB2 := Lib.hid (bel3 HB1.out hb2)
    have HS2 := Lib.hid hs2
    have hBl := hs2.lts
    have hz2 := hb2.size
    clear hs2 hb2 HA1 HB1 HW1
    go_wp2_with fail
    refine (HNW.out _).mono ?_
    rintro e w3 ⟨cb, ce, cw, rfl, hs3, hb3, k1, k2, k3⟩
    have HA3 := Lib.hid (HA2.out.below hb3)
    have HB3 := Lib.hid (bel3 HB2.out hb3)
    have HS3 := Lib.hid (HS2.out.below hb3)
    have HC3 := Lib.hid hs3
    have hz3 := hb3.size
    have hOw : ∀ k, Own bb be bw k → W1.heap.size ≤ k ∧ k < w2.heap.size := by rintro k (rfl | rfl | rfl) <;> omega
    have HOW := Lib.hid hOw
    have hw1z := HB3.out.size
    have hwz : w.heap.size ≤ W1.heap.size := by omega
    have HA3E : Hid (StAt w3 ab ae aw (few (TE xs 0))) := HA3
    clear hs3 hb3 HA2 HB2 HS2 hOw HA3
    have hT0 : TE xs n = [] := by unfold TE; rw [List.drop_of_length_le (by have := HNE.out; omega)]; rfl
    have HB0 : Hid (StAt w3 bb be bw (few (TE xs n))) := Lib.hid (by rw [hT0]; exact HS3.out)
    have HC0 : Hid (StAt w3 cb ce cw (few (TE xs n))) := Lib.hid (by rw [hT0]; exact HC3.out)
    clear hT0 HS3 HC3
    go_wp2
    go_loopw [8, 10] (fun v8 v10 wr => ∃ (j cb ce cw : Nat), j ≤ n ∧ v10 = .int .i64 ((j : Int) - 1) ∧ v8 = .pointer (some ⟨cb, 0, none⟩) ∧ w2.heap.size ≤ cb ∧ w2.heap.size ≤ ce ∧ w2.heap.size ≤ cw ∧ Hid (StAt wr bb be bw (few (TE xs j))) ∧ Hid (StAt wr cb ce cw (few (TE xs j))) ∧ Hid (StAt wr ab ae aw (few (TE xs 0))) ∧ Hid (Below w.heap.size w wr) ∧ w2.heap.size ≤ wr.heap.size) (fun _ v10 _ => (intOf v10 + 1).toNat)
    case atStart => exact ⟨n, cb, ce, cw, by omega, rfl, rfl, k1, k2, k3, HB0, HC0, HA3E, HB3, by omega⟩
    case round =>
      clear HB0 HC0 HA3E HB3 k1 k2 k3
      obtain ⟨j, cb, ce, cw, hj, rfl, rfl, k1, k2, k3, HBS, HCS, HAS, HB, hzr⟩ := hrel
      cases j with
      | zero =>
        have e0 : ((0 : Nat) : Int) - 1 = -1 := rfl
        rw [e0]
        have HAN := Lib.hid (and_ok HAS.out HBS.out)
        have hal6 : (TE xs 0).length ≤ 64 := by have := TE_len xs 0; have := HNE.out; omega
        clear e0
        go_wp2_with fail
        refine HAN.out.mono ?_
        rintro e w4 ⟨db, de, dw, sd, rfl, hsd, hrd, hb4, -, -, -⟩
        obtain rfl := few_and (TE_srt _ _) hal6 hrd
        have HX1 : Hid (StAt w4 ab ae aw (few (TE xs 0))) := Lib.hid (HAS.out.below hb4)
        have HX2 : Hid (StAt w4 bb be bw (few (TE xs 0))) := Lib.hid (HBS.out.below hb4)
        have HX3 : Hid (StAt w4 cb ce cw (few (TE xs 0))) := Lib.hid (HCS.out.below hb4)
        have HX4 : Hid (StAt w4 db de dw (few (TE xs 0))) := Lib.hid hsd
        have HB4 := Lib.hid (bel3 HB.out hb4)
        have HF9 : Hid (Below w4.heap.size w4 w4) := Lib.hid (Below.refl _ _)
        have HTW : Hid (∀ W, Below w4.heap.size w4 W → Tab W) := Lib.hid fun W hW => HT.out.below (bel3 HB4.out hW) h1
        have HP := Lib.hid (pages_any HX1.out)
        clear hsd hrd hb4 HAS HBS HCS HB HAN
        go_wp2_with fail
        refine HP.out.mono ?_
        rintro e w5 ⟨v5, rfl, hn5, hb5⟩
        obtain ⟨a5, c5, rfl⟩ := hn5.shape
        have HF0 := Lib.hid hb5
        clear hn5 hb5 HP
        simp only [few, List.length_nil]
        have HQ := Lib.hid (tids_any (HX1.out.below HF0.out) (HTW.out _ HF0.out))
        go_wp2_with fail
        refine HQ.out.mono ?_
        rintro e w6 ⟨v6, rfl, hn6, hb6⟩
        obtain ⟨a6, c6, rfl⟩ := hn6.shape
        have HV6 := Lib.hid hn6.nums
        have HF6a := Lib.hid (bel3 HF0.out hb6)
        have HQ2 := Lib.hid (tids_any (HX2.out.below HF6a.out) (HTW.out _ HF6a.out))
        clear hn6 hb6 HQ
        go_wp2_with fail
        refine HQ2.out.mono ?_
        rintro e u6 ⟨v62, rfl, hn6, hb6⟩
        obtain ⟨b6, e6, rfl⟩ := hn6.shape
        have HI := Lib.hid (ints_same (n := (few (TE xs 0)).T.length) c6 e6 rfl (HV6.out.below hb6) hn6.nums HX1.out.few.1)
        have HF6b := Lib.hid (bel3 HF6a.out hb6)
        clear hn6 hb6 HQ2
        go_wp2_with fail
        refine HI.out.mono ?_
        rintro e z6 ⟨rfl, hb6⟩
        have HF6 := Lib.hid (bel3 HF6b.out hb6)
        clear hb6 HI
        have HQ := Lib.hid (tids_any (HX1.out.below HF6.out) (HTW.out _ HF6.out))
        go_wp2_with fail
        refine HQ.out.mono ?_
        rintro e w7 ⟨v7, rfl, hn7, hb7⟩
        obtain ⟨a7, c7, rfl⟩ := hn7.shape
        have HV7 := Lib.hid hn7.nums
        have HF7a := Lib.hid (bel3 HF6.out hb7)
        have HQ2 := Lib.hid (tids_any (HX3.out.below HF7a.out) (HTW.out _ HF7a.out))
        clear hn7 hb7 HQ
        go_wp2_with fail
        refine HQ2.out.mono ?_
        rintro e u7 ⟨v72, rfl, hn7, hb7⟩
        obtain ⟨b7, e7, rfl⟩ := hn7.shape
        have HI := Lib.hid (ints_same (n := (few (TE xs 0)).T.length) c7 e7 rfl (HV7.out.below hb7) hn7.nums HX1.out.few.1)
        have HF7b := Lib.hid (bel3 HF7a.out hb7)
        clear hn7 hb7 HQ2
        go_wp2_with fail
        refine HI.out.mono ?_
        rintro e z7 ⟨rfl, hb7⟩
        have HF7 := Lib.hid (bel3 HF7b.out hb7)
        clear hb7 HI
        have HQ := Lib.hid (tids_any (HX1.out.below HF7.out) (HTW.out _ HF7.out))
        go_wp2_with fail
        refine HQ.out.mono ?_
        rintro e w8 ⟨v8, rfl, hn8, hb8⟩
        obtain ⟨a8, c8, rfl⟩ := hn8.shape
        have HV8 := Lib.hid hn8.nums
        have HF8a := Lib.hid (bel3 HF7.out hb8)
        have HQ2 := Lib.hid (tids_any (HX4.out.below HF8a.out) (HTW.out _ HF8a.out))
        clear hn8 hb8 HQ
        go_wp2_with fail
        refine HQ2.out.mono ?_
        rintro e u8 ⟨v82, rfl, hn8, hb8⟩
        obtain ⟨b8, e8, rfl⟩ := hn8.shape
        have HI := Lib.hid (ints_same (n := (few (TE xs 0)).T.length) c8 e8 rfl (HV8.out.below hb8) hn8.nums HX1.out.few.1)
        have HF8b := Lib.hid (bel3 HF8a.out hb8)
        clear hn8 hb8 HQ2
        go_wp2_with fail
        refine HI.out.mono ?_
        rintro e z8 ⟨rfl, hb8⟩
        have HF8 := Lib.hid (bel3 HF8b.out hb8)
        clear hb8 HI
        have HAW := Lib.hid (awake14 z8 (HTW.out _ HF8.out))
        go_wp2_with fail
        refine HAW.out.mono ?_
        rintro e w9 ⟨rfl, hb9⟩
        have HE := Lib.hid (bel3 (bel3 HB4.out HF8.out) hb9)
        clear hb9
        go_wp2
        go_ret
        exact ⟨rfl, HE.out⟩
      | succ j =>
        have hjn : j < xs.length := by rw [← HNE.out]; omega
        obtain ⟨xb, xo, rfl, hxl, cx0⟩ := HX.out.at hjn
        obtain ⟨x, hxe⟩ : ∃ x, x = xs[j] := ⟨_, rfl⟩
        rw [← hxe] at cx0
        have HCX : Hid (∀ W, Below w.heap.size w W → W.cell? ⟨xb, xo + j, none⟩ = some (.int .i64 x)) := Lib.hid fun W h => (h.cell (p := ⟨xb, xo + j, none⟩) hxl).trans cx0
        have cx := HCX.out _ HB.out
        clear cx0
        have hte := TE_pred hjn
        rw [← hxe] at hte
        have hlen := TE_len xs (j + 1)
        rw [← HNE.out] at hlen
        have HTE := Lib.hid hte
        have hl64 : (TE xs (j + 1)).length + 1 ≤ 64 := by omega
        have HL64 := Lib.hid hl64
        have e1 : ((j + 1 : Nat) : Int) - 1 = (j : Int) := by omega
        rw [e1]
        have hji : (j : Int) < (n : Int) := by omega
        obtain ⟨g, hg⟩ : ∃ g : Int, g = if Adr x then 0 else 1 := ⟨_, rfl⟩
        have HG := Lib.hid hg
        have HAD : Hid (Calls Tryd.prog 21 #[.pointer (some ⟨bb, 0, none⟩), .int .i64 x] wr fun e w' => e = .returned (.int .i64 g) ∧ ∃ s', AStep (few (TE xs (j + 1))) x s' ∧ StAt w' bb be bw s' ∧ Kept (Own bb be bw) wr w') := Lib.hid (by rw [hg]; exact add_z HBS.out x)
        clear hg
        clear hxe hte hlen hl64 e1
        go_wp2_with fail
        refine HAD.out.mono ?_
        rintro e w4 ⟨rfl, s4, hst4, hs4, hk4⟩
        obtain rfl := few_step HL64.out hst4
        have hbk4 : Below W1.heap.size wr w4 := hk4.toBelow (by omega) (fun k e => (HOW.out k e).1)
        have HC4 := Lib.hid (HCS.out.kept hk4 (fun e => by have := (HOW.out _ e).2; omega) (fun e => by have := (HOW.out _ e).2; omega) (fun e => by have := (HOW.out _ e).2; omega))
        have HA4 := Lib.hid (HAS.out.old hbk4 (by omega) (by omega) (by omega))
        have HB4 := Lib.hid (HB.out.trans (hbk4.mono hwz))
        have HS4 : Hid (StAt w4 bb be bw (few (TE xs j))) := Lib.hid (by rw [HTE.out]; exact hs4)
        have hz4 := hk4.size
        clear hst4 hs4 hk4 hbk4 HAD HBS HCS HAS cx
        go_wp2_with fail
        refine (HNW.out _).mono ?_
        rintro e w5 ⟨ob, oe, ow, rfl, hs5, hb5, o1, o2, o3⟩
        have HC5 := Lib.hid (HC4.out.below hb5)
        have HA5 := Lib.hid (HA4.out.below hb5)
        have HS5 := Lib.hid (HS4.out.below hb5)
        have HB5 := Lib.hid (bel3 HB4.out hb5)
        have HO5 : Hid (StAt w5 ob oe ow (few [])) := Lib.hid hs5
        have hcl := HC4.out.lts
        have hal5 := HA4.out.lts
        have hsl5 := HS4.out.lts
        have hz5 := hb5.size
        have hol := hs5.lts
        have cx := HCX.out _ HB5.out
        have HAD : Hid (Calls Tryd.prog 21 #[.pointer (some ⟨ob, 0, none⟩), .int .i64 x] w5 fun e w' => e = .returned (.int .i64 g) ∧ ∃ s', AStep (few []) x s' ∧ StAt w' ob oe ow s' ∧ Kept (Own ob oe ow) w5 w') := Lib.hid (by rw [HG.out]; exact add_z HO5.out x)
        have HOO : Hid (∀ k, Own ob oe ow k → w4.heap.size ≤ k ∧ k < w5.heap.size) := Lib.hid (by rintro k (rfl | rfl | rfl) <;> omega)
        clear hs5 hb5 HC4 HA4 HS4 HB4
        go_wp2_with fail
        refine HAD.out.mono ?_
        rintro e w6 ⟨rfl, s6, hst6, hs6, hk6⟩
        obtain rfl := few_step (by simp) hst6
        have hbk6 : Below w4.heap.size w5 w6 := hk6.toBelow hz5 (fun k e => (HOO.out k e).1)
        have HC6 := Lib.hid (HC5.out.old hbk6 hcl.1 hcl.2.1 hcl.2.2)
        have HA6 := Lib.hid (HA5.out.old hbk6 hal5.1 hal5.2.1 hal5.2.2)
        have HS6 := Lib.hid (HS5.out.old hbk6 hsl5.1 hsl5.2.1 hsl5.2.2)
        have HB6 := Lib.hid (HB5.out.trans (hbk6.mono (by omega)))
        have HO6 := Lib.hid hs6
        have hz6 := hk6.size
        have HOR := Lib.hid (or_ok hs6 HC6.out)
        clear hst6 hs6 hk6 hbk6 HAD HC5 HA5 HS5 HB5 HO5 cx
        go_wp2_with fail
        refine HOR.out.mono ?_
        rintro e w7 ⟨nb, ne, nw, s7, rfl, hs7, hr7, hb7, n1', n2', n3'⟩
        obtain rfl := few_or (TE_srt _ _) HL64.out hr7
        have HC7 : Hid (StAt w7 nb ne nw (few (TE xs j))) := Lib.hid (by rw [HTE.out]; exact hs7)
        have HA7 := Lib.hid (HA6.out.below hb7)
        have HS7 := Lib.hid (HS6.out.below hb7)
        have HB7 := Lib.hid (bel3 HB6.out hb7)
        have hz7 := hb7.size
        clear hs7 hr7 hb7 HOR HC6 HA6 HS6 HB6
        go_wp2
        go_roundw
        case rel => exact ⟨j, nb, ne, nw, by omega, rfl, rfl, by omega, by omega, by omega, HS7, HC7, HA7, HB7, by omega⟩
        case measure => simp [intOf]
end Go.Proofs.YtpjpkpbfbbpmdaaDoor.Ts
