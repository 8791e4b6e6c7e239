/- The contract of the reference's Of: the datum that the bytes begin with; other memory stands. -/
import Derived.Test.YtoiahhfjejddjaaDoorY
set_option maxRecDepth 100000
namespace Go.Proofs.YtoiahhfjejddjaaDoor
open Go Go.RowKit

set_option maxHeartbeats 1600000 in
theorem rof_item (s : ByteArray) (w : World) (hs : s.size ≤ 140737488355000) (h3 : s.data.toList.head? ≠ some 3) : Calls Tryd.prog 22 #[.string s] w (OfPost s.data.toList w) := by
  have HLEN := Lib.hid (toList_size s)
  have HO : Hid (ofF s.data.toList = (itF s.data.toList).map fun p => (p.1, [], p.2)) := Lib.hid (by rw [ofF, if_neg h3])
  have hcond : s = ⟨#[]⟩ ∨ ∃ h : 0 < s.size, (s.toList ≠ [] ∧ s.toList.isEmpty = false) ∧ ((s[0].toNat : Int) == 3) = false := by
    match hl : s.data.toList with
    | [] => exact .inl (ByteArray.ext (by simpa using hl))
    | c :: r =>
      have h0 : 0 < s.size := by have := size_cons hl; omega
      refine .inr ⟨h0, by rw [ByteArray.toList_eq, hl]; exact ⟨by simp, rfl⟩, ?_⟩
      rw [first_cons hl h0]
      exact u8_not (c := 3) (fun h => h3 (by rw [hl, h]; rfl))
  clear h3
  have HONE := Lib.hid (one_any s 0 · hs)
  rw [List.drop_zero] at HONE
  match hit : itF s.data.toList with
  | none =>
    rw [hit] at HONE
    have HN : Hid (ofF s.data.toList = none) := Lib.hid (by rw [HO.out, hit]; rfl)
    clear hit
    rcases hcond with rfl | ⟨hz, ⟨hz2, hz3⟩, hb3⟩
    all_goals
      go_enter Tryd.func22, Tryd.ntmps22
      go_wp2_with fail
      refine (HONE.out _).mono ?_
      rintro e w1 ⟨rfl, hb⟩
      have hz1 := hb.size
      simp only [World.size_alloc] at hz1
      have HB1 := Lib.hid ((show Below (w.heap.size + 1) _ w1 from by simpa using hb).alloc (by omega) (.cells #[.int .i64 0, .int .i64 0, .string ⟨#[]⟩, .slice none 0 0] 24)); clear hb
      obtain ⟨c0, c1, c2, c3⟩ := box_cells HB1.out
      obtain ⟨f0, f1, f2, f3⟩ := box_frozen HB1.out
      have HBW : Hid (Below w.heap.size w (w1.alloc (.cells #[.int .i64 0, .int .i64 0, .string ⟨#[]⟩, .slice none 0 0] 24))) := Lib.hid (below_al _ (by simpa using HB1.out))
      rw [resO]
      go_wp2
      exact bodyPost_ret (v := .tuple #[.agg #[.int .i64 0, .int .i64 0, .string ⟨#[]⟩, .slice none 0 0], .int .i64 0, .int .i64 11]) (by simp [results, Tryd.results22, go_sem, c0, c1, c2, c3]) rfl ⟨below_res HBW.out, .inl ⟨HN.out, rfl⟩⟩
  | some ((k, n, t), m) =>
    obtain ⟨hn, hm1, hm2⟩ := itF_some hit
    rw [hit, resO, Nat.zero_add] at HONE
    have hmz : ¬ ((m : Int) < 0) := by omega
    have HNN := Lib.hid hn
    have HN : Hid (ofF s.data.toList = some ((k, n, t), ([] : List It).map cont, m)) := Lib.hid (by rw [HO.out, hit]; rfl)
    have hne : s ≠ ⟨#[]⟩ := by
      rintro rfl
      cases hit
    clear hit hn
    rcases hcond with h | ⟨hz, ⟨hz2, hz3⟩, hb3⟩
    · exact absurd h hne
    · clear hne
      go_enter Tryd.func22, Tryd.ntmps22
      go_wp2_with fail
      refine (HONE.out _).mono ?_
      rintro e w1 ⟨rfl, hb⟩
      have hz1 := hb.size
      simp only [World.size_alloc] at hz1
      have HB1 := Lib.hid ((show Below (w.heap.size + 1) _ w1 from by simpa using hb).alloc (by omega) (.cells #[.int .i64 k, .int .i64 n, .string t, .slice none 0 0] 24)); clear hb
      obtain ⟨c0, c1, c2, c3⟩ := box_cells HB1.out
      obtain ⟨f0, f1, f2, f3⟩ := box_frozen HB1.out
      have HBW : Hid (Below w.heap.size w (w1.alloc (.cells #[.int .i64 k, .int .i64 n, .string t, .slice none 0 0] 24))) := Lib.hid (below_al _ (by simpa using HB1.out))
      go_wp2
      exact bodyPost_ret (v := .tuple #[.agg #[.int .i64 k, .int .i64 n, .string t, .slice none 0 0], .int .i64 m, .int .i64 0]) (by simp [results, Tryd.results22, go_sem, c0, c1, c2, c3]) rfl ⟨below_res HBW.out, .inr ⟨k, n, t, none, [], 0, m, HN.out, rfl, HNN.out, (fun x hx => by simp at hx), by simp, .inl rfl⟩⟩

/-- The box in which the reference's list is made. -/
structure DBox (w : World) (b : Nat) (v : Value) : Prop where
  c0 : w.cell? ⟨b, 0, none⟩ = some (.int .i64 3)
  c1 : w.cell? ⟨b, 1, none⟩ = some (.int .i64 0)
  c2 : w.cell? ⟨b, 2, none⟩ = some (.string ⟨#[]⟩)
  c3 : w.cell? ⟨b, 3, none⟩ = some v
  cold : w.frozen? ⟨b, 3, none⟩ = false
theorem DBox.below {w w' : World} {b B : Nat} {v : Value} (h : DBox w b v) (hb : Below B w w') (hB : b < B) : DBox w' b v where
  c0 := (hb.cell (p := ⟨b, 0, none⟩) hB).trans h.c0
  c1 := (hb.cell (p := ⟨b, 1, none⟩) hB).trans h.c1
  c2 := (hb.cell (p := ⟨b, 2, none⟩) hB).trans h.c2
  c3 := (hb.cell (p := ⟨b, 3, none⟩) hB).trans h.c3
  cold := (hb.frozen (p := ⟨b, 3, none⟩) hB).trans h.cold
theorem DBox.store {w : World} {b : Nat} {v : Value} (h : DBox w b v) (u : Value) : DBox (w.setCell ⟨b, 3, none⟩ u) b u where
  c0 := (World.cell?_setCell_other _ _ _ _ (by simp)).trans h.c0
  c1 := (World.cell?_setCell_other _ _ _ _ (by simp)).trans h.c1
  c2 := (World.cell?_setCell_other _ _ _ _ (by simp)).trans h.c2
  c3 := World.cell?_setCell_same _ _ _ h.c3
  cold := by rw [World.frozen?_setCell]; exact h.cold

set_option maxHeartbeats 3200000 in
theorem rof_list (s : ByteArray) (w : World) (hs : s.size ≤ 140737488355000) (h3 : s.data.toList.head? = some 3) : Calls Tryd.prog 22 #[.string s] w (OfPost s.data.toList w) := by
  have HLEN := Lib.hid (toList_size s)
  obtain ⟨i0, hi, q0, q1, q2⟩ := info_parts infoDat
  have HO : Hid (ofF s.data.toList = (lsF s.data.toList).map fun p => ((3, 0, ⟨#[]⟩), p.1, p.2)) := Lib.hid (by rw [ofF, if_pos h3])
  obtain ⟨r, hl⟩ : ∃ r, s.data.toList = 3 :: r := by
    match hl : s.data.toList with
    | [] => rw [hl] at h3; cases h3
    | c :: r => rw [hl] at h3; injection h3 with h3; exact ⟨r, by rw [h3]⟩
  have hsz := size_cons hl
  have h0 : 0 < s.size := by omega
  have hb3 : ((s[0].toNat : Int) == 3) = true := by rw [first_cons hl h0]; rfl
  have hz2 : s.toList ≠ [] := by rw [ByteArray.toList_eq, hl]; simp
  have hz3 : s.toList.isEmpty = false := by rw [ByteArray.toList_eq, hl]; rfl
  clear h3
  cases r with
  | nil =>
    have HN : Hid (ofF s.data.toList = none) := Lib.hid (by rw [HO.out, hl]; rfl)
    have hs1 : s.size = 1 := by simpa using hsz
    clear hl hsz
    go_enter Tryd.func22, Tryd.ntmps22
    go_wp2
    exact bodyPost_ret (v := .tuple #[.agg #[.int .i64 0, .int .i64 0, .string ⟨#[]⟩, .slice none 0 0], .int .i64 0, .int .i64 11]) (by simp [results, Tryd.results22, go_sem]) rfl ⟨by first | exact (Below.refl _ _).alloc (Nat.le_refl _) _ | exact below_res ((Below.refl _ _).alloc (Nat.le_refl _) _), .inl ⟨HN.out, rfl⟩⟩
  | cons d r =>
    have h1s : 1 < s.size := by simp only [List.length_cons] at hsz; omega
    have hd : s[1] = d := by
      have e : s.data.toList[1]'(by rw [hl]; simp) = d := by simp [hl]
      exact (show s[1] = s.data.toList[1]'(by rw [hl]; simp) from rfl).trans e
    by_cases h8 : 8 < d.toNat
    · have HN : Hid (ofF s.data.toList = none) := Lib.hid (by rw [HO.out, hl, lsF, if_pos h8]; rfl)
      have b8 : 8 < (s[1].toNat : Int) := by rw [hd]; omega
      clear hl hd hsz
      go_enter Tryd.func22, Tryd.ntmps22
      go_wp2
      exact bodyPost_ret (v := .tuple #[.agg #[.int .i64 0, .int .i64 0, .string ⟨#[]⟩, .slice none 0 0], .int .i64 0, .int .i64 11]) (by simp [results, Tryd.results22, go_sem]) rfl ⟨by first | exact (Below.refl _ _).alloc (Nat.le_refl _) _ | exact below_res ((Below.refl _ _).alloc (Nat.le_refl _) _), .inl ⟨HN.out, rfl⟩⟩
    · obtain ⟨D, hD⟩ : ∃ D : Nat, D = s[1].toNat := ⟨_, rfl⟩
      have hD8 : D ≤ 8 := by rw [hD, hd]; omega
      have b8 : ¬ 8 < (s[1].toNat : Int) := by omega
      have HF : Hid (lsF s.data.toList = (isF D (s.data.toList.drop 2)).map fun p => (p.1, 2 + p.2)) := Lib.hid (by
        rw [hl, lsF, if_neg h8, hD, hd]
        rfl)
      have hDi : (s[1].toNat : Int) = (D : Int) := by rw [hD]
      clear hl hd hsz
      go_enter Tryd.func22, Tryd.ntmps22
      go_wp2
      go_loopw [6, 7, 8, 9] (fun vat vi _ _ wr => ∃ (at' : Nat) (acc : List It) (va : Option Addr) (vc : Nat), vi = .int .i64 acc.length ∧ vat = .int .i64 at' ∧ acc.length ≤ D ∧ 2 ≤ at' ∧ at' ≤ s.size ∧ w.heap.size + 1 < wr.heap.size ∧ Hid (isF D (s.data.toList.drop 2) = (isF (D - acc.length) (s.data.toList.drop at')).map fun p => (acc.map cont ++ p.1, (at' - 2) + p.2)) ∧ Hid (Fre acc) ∧ Hid (wr.ownsRow (w.heap.size + 2) 24 4 (.slice va acc.length vc) acc.length (itVals acc)) ∧ (acc = [] ∨ ∃ g, va = some ⟨g, 0, none⟩) ∧ Hid (DBox wr (w.heap.size + 1) (.slice va acc.length vc)) ∧ Hid (Below (w.heap.size + 1) (w.alloc (.cells #[.int .i64 0, .int .i64 0, .string ⟨#[]⟩, .slice none 0 0] 24)) wr)) (fun _ i _ _ _ => D - (intOf i).toNat)
      case atStart =>
        refine ⟨2, [], none, 0, rfl, rfl, Nat.zero_le _, Nat.le_refl _, by omega, by simp, Lib.hid (by simp), Lib.hid (fun x hx => by simp at hx), Lib.hid (World.ownsRow_nil _ _ _ _), .inl rfl, Lib.hid ⟨by simp, by simp, by simp, by simp, by simp⟩, Lib.hid ((Below.refl _ _).alloc (by simp) _)⟩
      case round =>
        obtain ⟨at', acc, va, vc, rfl, rfl, hk1, hk2, hk3, hzw, HQ, HFR, HRW, hform, HDB, HB⟩ := hrel
        have HBW : Hid (Below w.heap.size w wr) := Lib.hid (below_al _ (by simpa using HB.out))
        by_cases hlt : acc.length < D
        · obtain ⟨c, hc⟩ : ∃ c, D - acc.length = c + 1 := ⟨D - acc.length - 1, by omega⟩
          have HONE := Lib.hid (one_any s at' · hs)
          match hit : itF (s.data.toList.drop at') with
          | none =>
            have HN : Hid (ofF s.data.toList = none) := Lib.hid (by rw [HO.out, HF.out, HQ.out, hc, isF_none hit]; rfl)
            rw [hit, resO] at HONE
            clear hit hc
            go_wp2_with fail
            refine (HONE.out _).mono ?_
            rintro e w1 ⟨rfl, hb⟩
            have hz1 := hb.size
            have HB1 := Lib.hid ((HB.out.trans (hb.mono (by omega))).alloc (by omega) (.cells #[.int .i64 0, .int .i64 0, .string ⟨#[]⟩, .slice none 0 0] 24)); clear hb
            obtain ⟨c0, c1, c2, c3⟩ := box_cells HB1.out
            obtain ⟨f0, f1, f2, f3⟩ := box_frozen HB1.out
            have HBW1 : Hid (Below w.heap.size w (w1.alloc (.cells #[.int .i64 0, .int .i64 0, .string ⟨#[]⟩, .slice none 0 0] 24))) := Lib.hid (below_al _ (by simpa using HB1.out))
            go_wp2
            exact bodyPost_ret (v := .tuple #[.agg #[.int .i64 0, .int .i64 0, .string ⟨#[]⟩, .slice none 0 0], .int .i64 0, .int .i64 11]) (by simp [results, Tryd.results22, go_sem, c0, c1, c2, c3]) rfl ⟨below_res HBW1.out, .inl ⟨HN.out, rfl⟩⟩
          | some ((k, n, t), m) =>
            obtain ⟨hn, hm1, hm2⟩ := itF_some hit
            rw [List.length_drop, HLEN.out] at hm2
            have hmz : ¬ ((at' : Int) + (m : Int) < 0) := by omega
            have HN : Hid (isF D (s.data.toList.drop 2) = (isF (D - (acc.length + 1)) (s.data.toList.drop (at' + m))).map fun p => ((acc ++ [(⟨k, n, t, none, 0, 0⟩ : It)]).map cont ++ p.1, (at' + m - 2) + p.2)) := Lib.hid (by
              rw [HQ.out, hc, isF_step hit, List.drop_drop, show D - (acc.length + 1) = c by omega, Option.map_map]
              congr 1
              funext p
              simp only [Function.comp, List.map_append, List.map_cons, List.map_nil, List.append_assoc, List.cons_append, List.nil_append]
              refine Prod.ext rfl ?_
              show at' - 2 + (m + p.2) = at' + m - 2 + p.2
              omega)
            have HFR2 : Hid (Fre (acc ++ [(⟨k, n, t, none, 0, 0⟩ : It)])) := Lib.hid (by
              intro x hx
              rw [List.mem_append, List.mem_singleton] at hx
              rcases hx with hx | rfl
              · exact HFR.out x hx
              · exact ⟨hn, rfl⟩)
            rw [hit, resO] at HONE
            clear hit hc hform
            go_wp2_with fail
            refine (HONE.out _).mono ?_
            rintro e w1 ⟨rfl, hb⟩
            have hz1 := hb.size
            have HD1 := Lib.hid (HDB.out.below hb (by omega))
            have HO1 := Lib.hid (ownsRow_below HRW.out hb)
            have HB1 := Lib.hid (HB.out.trans (hb.mono (by omega))); clear hb
            obtain ⟨d0, d1, d2, d3, g3⟩ := HD1.out
            have hzw1 : w.heap.size + 1 < w1.heap.size := by omega
            go_wp2_with (at_builtin; refine wpList_append_own _ rfl _ _ 22 rfl (w.heap.size + 2) 24 i0 (.agg #[.int .i64 0, .int .i64 0, .string ⟨#[]⟩, .slice none 0 0]) 4 56 Tryd.underlying22 hi q0 q1 q2 rfl (by decide) _ _ _ rfl ((HO1.out.alloc _).alloc _) ⟨w1.heap.size + 1, 0, none⟩ 1 1 [.int .i64 k, .int .i64 n, .string t, .slice none 0 0] rfl rfl ?c1 ?c2 ?c3 ?c4 ?c5 ?_)
            case c1 =>
              intro q u hu
              have hq : q = 0 ∨ q = 1 ∨ q = 2 ∨ q = 3 := by
                have := (List.getElem?_eq_some_iff.1 hu).1
                simp at this
                omega
              rcases hq with rfl | rfl | rfl | rfl <;> (simp at hu; subst hu; simp [Addr.add])
            case c2 => intro u hu; simp at hu; rcases hu with rfl | rfl | rfl | rfl <;> rfl
            case c3 => unfold maxLen; omega
            case c4 => omega
            case c5 => simp; omega
            intro v' w2 hown' hgrow _
            obtain ⟨g', cap', rfl⟩ : ∃ g' cap', v' = .slice (some ⟨g', 0, none⟩) (acc.length + 1) cap' := by
              rcases hown'.2 with ⟨_, h0⟩ | ⟨g', cap', cur, hv, _⟩
              · omega
              · exact ⟨g', cap', hv⟩
            have hgl := (hown'.lt g' rfl).1
            have hB12 : Below (w.heap.size + 2) w1 w2 := (((Below.refl (w.heap.size + 2) w1).alloc (by omega) _).alloc (by rw [World.size_alloc]; omega) _).grown hgrow (by rw [World.size_alloc, World.size_alloc]; omega) (fun q hq => (HO1.out.lt q hq).1)
            have hz2 := hB12.size
            have HD2 := Lib.hid (HD1.out.below hB12 (by omega))
            have HB2 := Lib.hid (HB1.out.trans (hB12.mono (by omega)))
            have HO2 : Hid (w2.ownsRow (w.heap.size + 2) 24 4 (.slice (some ⟨g', 0, none⟩) (acc ++ [(⟨k, n, t, none, 0, 0⟩ : It)]).length cap') (acc ++ [(⟨k, n, t, none, 0, 0⟩ : It)]).length (itVals (acc ++ [(⟨k, n, t, none, 0, 0⟩ : It)]))) := Lib.hid (by rw [itVals_snoc, List.length_append]; exact hown')
            clear hown' hgrow hB12 d0 d1 d2 d3 g3
            obtain ⟨d0, d1, d2, d3, g3⟩ := HD2.out
            go_wp2
            go_roundw
            case rel =>
              refine ⟨at' + m, acc ++ [⟨k, n, t, none, 0, 0⟩], some ⟨g', 0, none⟩, cap', by rw [List.length_append]; go_num, by go_num, by simp; omega, by omega, by omega, by simp [World.setCell]; omega, ?_, HFR2, Lib.hid ?_, .inr ⟨g', rfl⟩, Lib.hid ?_, Lib.hid (HB2.out.setCell (p := ⟨w.heap.size + 1, 3, none⟩) (Nat.le_refl _) _)⟩
              · rw [List.length_append]; exact HN
              · exact ownsRow_setCell_other HO2.out (by simp [Value.ownBlock]; omega) _
              · rw [List.length_append]; exact HD2.out.store _
            case measure => simp [intOf]; omega
        · obtain ⟨hD'⟩ : Nonempty (acc.length = D) := ⟨by omega⟩
          have HN : Hid (ofF s.data.toList = some ((3, 0, ⟨#[]⟩), acc.map cont, at')) := Lib.hid (by
            rw [HO.out, HF.out, HQ.out, hD', Nat.sub_self, isF]
            simp only [Option.map_some, List.append_nil, Nat.add_zero]
            rw [show 2 + (at' - 2) = at' by omega])
          obtain ⟨c0, c1, c2, c3⟩ := box_cells HB.out
          obtain ⟨f0, f1, f2, f3⟩ := box_frozen HB.out
          obtain ⟨d0, d1, d2, d3, g3⟩ := HDB.out
          have HSG : Hid (SlG (w.heap.size + 1) wr va acc) := Lib.hid (by
            rcases hform with h | ⟨g, rfl⟩
            · exact .inl h
            · exact Sl_of_row HRW.out (by omega))
          clear hform
          go_wp2
          exact bodyPost_ret (v := .tuple #[.agg #[.int .i64 3, .int .i64 0, .string ⟨#[]⟩, .slice va acc.length vc], .int .i64 at', .int .i64 0]) (by simp [results, Tryd.results22, go_sem, c0, c1, c2, c3]; omega) rfl ⟨below_res HBW.out, .inr ⟨3, 0, _, va, acc, vc, at', HN.out, rfl, ⟨by decide, by decide⟩, HFR.out, by omega, (HSG.out.setCells (by omega) _ _ _ _).sl⟩⟩

theorem rof_any (s : ByteArray) (w : World) (hs : s.size ≤ 140737488355000) : Calls Tryd.prog 22 #[.string s] w (OfPost s.data.toList w) := by
  by_cases h3 : s.data.toList.head? = some 3
  · exact rof_list s w hs h3
  · exact rof_item s w hs h3
end Go.Proofs.YtoiahhfjejddjaaDoor
