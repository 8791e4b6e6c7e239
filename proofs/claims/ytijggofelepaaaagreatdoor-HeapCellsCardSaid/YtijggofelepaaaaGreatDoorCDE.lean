/- Texts of the same proof, one behind the other: AC, AD, AF. -/
import Derived.Test.YtijggofelepaaaaGreatDoorCDD
import Derived.Test.YtijggofelepaaaaGreatDoorCDA
/- The contract of the reference's Of: the datum that the bytes begin with; other memory stands. -/
set_option maxRecDepth 100000
namespace Go.Proofs.YtijggofelepaaaaGreatDoor.Dm
open Go Go.RowKit

/-- The cells of items, one behind the other. -/
def itVals (xs : List It) : List Value := xs.flatMap fun x => [.int .i64 x.k, .int .i64 x.n, .string x.s, .slice x.a x.ll x.lc]
theorem itVals_snoc (xs : List It) (x : It) : itVals (xs ++ [x]) = itVals xs ++ [.int .i64 x.k, .int .i64 x.n, .string x.s, .slice x.a x.ll x.lc] := by simp [itVals]
theorem itVals_at (xs : List It) : ∀ j (h : j < xs.length), (itVals xs)[j * 4]? = some (.int .i64 (xs[j]'h).k) ∧ (itVals xs)[j * 4 + 1]? = some (.int .i64 (xs[j]'h).n) ∧ (itVals xs)[j * 4 + 2]? = some (.string (xs[j]'h).s) ∧ (itVals xs)[j * 4 + 3]? = some (.slice (xs[j]'h).a (xs[j]'h).ll (xs[j]'h).lc) := by
  induction xs with
  | nil => intro j h; simp at h
  | cons x r ih =>
    intro j h
    have e : itVals (x :: r) = [.int .i64 x.k, .int .i64 x.n, .string x.s, .slice x.a x.ll x.lc] ++ itVals r := by simp [itVals]
    cases j with
    | zero => rw [e]; exact ⟨rfl, rfl, rfl, rfl⟩
    | succ j =>
      have := ih j (by simpa using h)
      rw [e]
      rw [show (j + 1) * 4 = (j * 4) + 4 by omega, show j * 4 + 4 + 1 = (j * 4 + 1) + 4 by omega, show j * 4 + 4 + 2 = (j * 4 + 2) + 4 by omega, show j * 4 + 4 + 3 = (j * 4 + 3) + 4 by omega]
      simpa [List.getElem?_append_right] using this

theorem cells_of_row {w : World} {B g cap : Nat} {xs : List It} (h : w.ownsRow B 130 4 (.slice (some ⟨g, 0, none⟩) xs.length cap) xs.length (itVals xs)) : CellsOf w g 0 xs := by
  intro j hj
  obtain ⟨h0, h1, h2, h3⟩ := itVals_at xs j hj
  rw [Nat.zero_add]
  exact ⟨(h.cellAt _ (by omega)).trans h0, (h.cellAt _ (by omega)).trans h1, (h.cellAt _ (by omega)).trans h2, (h.cellAt _ (by omega)).trans h3⟩

theorem infoDat : (Tryz.prog.info? 130).map (fun i => (i.zero, i.size, i.bytes)) = some (some (.agg #[.int .i64 0, .int .i64 0, .string ⟨#[]⟩, .slice none 0 0]), 4, 56) := by kernel_rfl
theorem Sl_of_row {w : World} {B B' g cap : Nat} {xs : List It} (h : w.ownsRow B 130 4 (.slice (some ⟨g, 0, none⟩) xs.length cap) xs.length (itVals xs)) (hB : B' ≤ B) : SlG B' w (some ⟨g, 0, none⟩) xs :=
  .inr ⟨g, 0, rfl, Nat.le_trans hB (h.lt g rfl).1, (h.lt g rfl).2, cells_of_row h⟩


set_option maxHeartbeats 1600000 in
theorem rof_item (s : ByteArray) (w : World) (hs : s.size ≤ 140737488355000) (h3 : s.data.toList.head? ≠ some 3) : Calls Tryz.prog 73 #[.string s] w (OfPost s.data.toList w) := by
  have HLEN := Lib.hid (toList_size s)
  have HO : Hid (ofF s.data.toList = (itF s.data.toList).map fun p => (p.1, [], p.2)) := Lib.hid (by rw [ofF, if_neg h3])
  have hcond : s = ⟨#[]⟩ ∨ ∃ h : 0 < s.size, (s.toList ≠ [] ∧ s.toList.isEmpty = false) ∧ ((s[0].toNat : Int) == 3) = false := by
    match hl : s.data.toList with
    | [] => exact .inl (ByteArray.ext (by simpa using hl))
    | c :: r =>
      have h0 : 0 < s.size := by have := size_cons hl; omega
      refine .inr ⟨h0, by rw [ByteArray.toList_eq, hl]; exact ⟨by simp, rfl⟩, ?_⟩
      rw [first_cons hl h0]
      exact u8_not (c := 3) (fun h => h3 (by rw [hl, h]; rfl))
  clear h3
  have HONE := Lib.hid (one_any s 0 · hs)
  rw [List.drop_zero] at HONE
  match hit : itF s.data.toList with
  | none =>
    rw [hit] at HONE
    have HN : Hid (ofF s.data.toList = none) := Lib.hid (by rw [HO.out, hit]; rfl)
    clear hit
    rcases hcond with rfl | ⟨hz, ⟨hz2, hz3⟩, hb3⟩
    all_goals
      go_enter Tryz.func73, Tryz.ntmps73
      go_wp2_with fail
      refine (HONE.out _).mono ?_
      rintro e w1 ⟨rfl, hb⟩
      have hz1 := hb.size
      simp only [World.size_alloc] at hz1
      have HB1 := Lib.hid ((show Below (w.heap.size + 1) _ w1 from by simpa using hb).alloc (by omega) (.cells #[.int .i64 0, .int .i64 0, .string ⟨#[]⟩, .slice none 0 0] 130)); clear hb
      obtain ⟨c0, c1, c2, c3⟩ := box_cells HB1.out
      obtain ⟨f0, f1, f2, f3⟩ := box_frozen HB1.out
      have HBW : Hid (Below w.heap.size w (w1.alloc (.cells #[.int .i64 0, .int .i64 0, .string ⟨#[]⟩, .slice none 0 0] 130))) := Lib.hid (below_al _ (by simpa using HB1.out))
      rw [resO]
      go_wp2
      exact bodyPost_ret (v := .tuple #[.agg #[.int .i64 0, .int .i64 0, .string ⟨#[]⟩, .slice none 0 0], .int .i64 0, .int .i64 11]) (by simp [results, Tryz.results73, go_sem, c0, c1, c2, c3]) rfl ⟨below_res HBW.out, .inl ⟨HN.out, rfl⟩⟩
  | some ((k, n, t), m) =>
    obtain ⟨hn, hm1, hm2⟩ := itF_some hit
    rw [hit, resO, Nat.zero_add] at HONE
    have hmz : ¬ ((m : Int) < 0) := by omega
    have HNN := Lib.hid hn
    have HN : Hid (ofF s.data.toList = some ((k, n, t), ([] : List It).map cont, m)) := Lib.hid (by rw [HO.out, hit]; rfl)
    have hne : s ≠ ⟨#[]⟩ := by
      rintro rfl
      cases hit
    clear hit hn
    rcases hcond with h | ⟨hz, ⟨hz2, hz3⟩, hb3⟩
    · exact absurd h hne
    · clear hne
      go_enter Tryz.func73, Tryz.ntmps73
      go_wp2_with fail
      refine (HONE.out _).mono ?_
      rintro e w1 ⟨rfl, hb⟩
      have hz1 := hb.size
      simp only [World.size_alloc] at hz1
      have HB1 := Lib.hid ((show Below (w.heap.size + 1) _ w1 from by simpa using hb).alloc (by omega) (.cells #[.int .i64 k, .int .i64 n, .string t, .slice none 0 0] 130)); clear hb
      obtain ⟨c0, c1, c2, c3⟩ := box_cells HB1.out
      obtain ⟨f0, f1, f2, f3⟩ := box_frozen HB1.out
      have HBW : Hid (Below w.heap.size w (w1.alloc (.cells #[.int .i64 k, .int .i64 n, .string t, .slice none 0 0] 130))) := Lib.hid (below_al _ (by simpa using HB1.out))
      go_wp2
      exact bodyPost_ret (v := .tuple #[.agg #[.int .i64 k, .int .i64 n, .string t, .slice none 0 0], .int .i64 m, .int .i64 0]) (by simp [results, Tryz.results73, go_sem, c0, c1, c2, c3]) rfl ⟨below_res HBW.out, .inr ⟨k, n, t, none, [], 0, m, HN.out, rfl, HNN.out, (fun x hx => by simp at hx), by simp, .inl rfl⟩⟩

/-- The box in which the reference's list is made. -/
structure DBox (w : World) (b : Nat) (v : Value) : Prop where
  c0 : w.cell? ⟨b, 0, none⟩ = some (.int .i64 3)
  c1 : w.cell? ⟨b, 1, none⟩ = some (.int .i64 0)
  c2 : w.cell? ⟨b, 2, none⟩ = some (.string ⟨#[]⟩)
  c3 : w.cell? ⟨b, 3, none⟩ = some v
  cold : w.frozen? ⟨b, 3, none⟩ = false
theorem DBox.below {w w' : World} {b B : Nat} {v : Value} (h : DBox w b v) (hb : Below B w w') (hB : b < B) : DBox w' b v where
  c0 := (hb.cell (p := ⟨b, 0, none⟩) hB).trans h.c0
  c1 := (hb.cell (p := ⟨b, 1, none⟩) hB).trans h.c1
  c2 := (hb.cell (p := ⟨b, 2, none⟩) hB).trans h.c2
  c3 := (hb.cell (p := ⟨b, 3, none⟩) hB).trans h.c3
  cold := (hb.frozen (p := ⟨b, 3, none⟩) hB).trans h.cold
theorem DBox.store {w : World} {b : Nat} {v : Value} (h : DBox w b v) (u : Value) : DBox (w.setCell ⟨b, 3, none⟩ u) b u where
  c0 := (World.cell?_setCell_other _ _ _ _ (by simp)).trans h.c0
  c1 := (World.cell?_setCell_other _ _ _ _ (by simp)).trans h.c1
  c2 := (World.cell?_setCell_other _ _ _ _ (by simp)).trans h.c2
  c3 := World.cell?_setCell_same _ _ _ h.c3
  cold := by rw [World.frozen?_setCell]; exact h.cold

set_option maxHeartbeats 3200000 in
theorem rof_list (s : ByteArray) (w : World) (hs : s.size ≤ 140737488355000) (h3 : s.data.toList.head? = some 3) : Calls Tryz.prog 73 #[.string s] w (OfPost s.data.toList w) := by
  have HLEN := Lib.hid (toList_size s)
  obtain ⟨i0, hi, q0, q1, q2⟩ := info_parts infoDat
  have HO : Hid (ofF s.data.toList = (lsF s.data.toList).map fun p => ((3, 0, ⟨#[]⟩), p.1, p.2)) := Lib.hid (by rw [ofF, if_pos h3])
  obtain ⟨r, hl⟩ : ∃ r, s.data.toList = 3 :: r := by
    match hl : s.data.toList with
    | [] => rw [hl] at h3; cases h3
    | c :: r => rw [hl] at h3; injection h3 with h3; exact ⟨r, by rw [h3]⟩
  have hsz := size_cons hl
  have h0 : 0 < s.size := by omega
  have hb3 : ((s[0].toNat : Int) == 3) = true := by rw [first_cons hl h0]; rfl
  have hz2 : s.toList ≠ [] := by rw [ByteArray.toList_eq, hl]; simp
  have hz3 : s.toList.isEmpty = false := by rw [ByteArray.toList_eq, hl]; rfl
  clear h3
  cases r with
  | nil =>
    have HN : Hid (ofF s.data.toList = none) := Lib.hid (by rw [HO.out, hl]; rfl)
    have hs1 : s.size = 1 := by simpa using hsz
    clear hl hsz
    go_enter Tryz.func73, Tryz.ntmps73
    go_wp2
    exact bodyPost_ret (v := .tuple #[.agg #[.int .i64 0, .int .i64 0, .string ⟨#[]⟩, .slice none 0 0], .int .i64 0, .int .i64 11]) (by simp [results, Tryz.results73, go_sem]) rfl ⟨by first | exact (Below.refl _ _).alloc (Nat.le_refl _) _ | exact below_res ((Below.refl _ _).alloc (Nat.le_refl _) _), .inl ⟨HN.out, rfl⟩⟩
  | cons d r =>
    have h1s : 1 < s.size := by simp only [List.length_cons] at hsz; omega
    have hd : s[1] = d := by
      have e : s.data.toList[1]'(by rw [hl]; simp) = d := by simp [hl]
      exact (show s[1] = s.data.toList[1]'(by rw [hl]; simp) from rfl).trans e
    by_cases h8 : 8 < d.toNat
    · have HN : Hid (ofF s.data.toList = none) := Lib.hid (by rw [HO.out, hl, lsF, if_pos h8]; rfl)
      have b8 : 8 < (s[1].toNat : Int) := by rw [hd]; omega
      clear hl hd hsz
      go_enter Tryz.func73, Tryz.ntmps73
      go_wp2
      exact bodyPost_ret (v := .tuple #[.agg #[.int .i64 0, .int .i64 0, .string ⟨#[]⟩, .slice none 0 0], .int .i64 0, .int .i64 11]) (by simp [results, Tryz.results73, go_sem]) rfl ⟨by first | exact (Below.refl _ _).alloc (Nat.le_refl _) _ | exact below_res ((Below.refl _ _).alloc (Nat.le_refl _) _), .inl ⟨HN.out, rfl⟩⟩
    · obtain ⟨D, hD⟩ : ∃ D : Nat, D = s[1].toNat := ⟨_, rfl⟩
      have hD8 : D ≤ 8 := by rw [hD, hd]; omega
      have b8 : ¬ 8 < (s[1].toNat : Int) := by omega
      have HF : Hid (lsF s.data.toList = (isF D (s.data.toList.drop 2)).map fun p => (p.1, 2 + p.2)) := Lib.hid (by
        rw [hl, lsF, if_neg h8, hD, hd]
        rfl)
      have hDi : (s[1].toNat : Int) = (D : Int) := by rw [hD]
      clear hl hd hsz
      go_enter Tryz.func73, Tryz.ntmps73
      go_wp2
      go_loopw [6, 7, 8, 9] (fun vat vi _ _ wr => ∃ (at' : Nat) (acc : List It) (va : Option Addr) (vc : Nat), vi = .int .i64 acc.length ∧ vat = .int .i64 at' ∧ acc.length ≤ D ∧ 2 ≤ at' ∧ at' ≤ s.size ∧ w.heap.size + 1 < wr.heap.size ∧ Hid (isF D (s.data.toList.drop 2) = (isF (D - acc.length) (s.data.toList.drop at')).map fun p => (acc.map cont ++ p.1, (at' - 2) + p.2)) ∧ Hid (Fre acc) ∧ Hid (wr.ownsRow (w.heap.size + 2) 130 4 (.slice va acc.length vc) acc.length (itVals acc)) ∧ (acc = [] ∨ ∃ g, va = some ⟨g, 0, none⟩) ∧ Hid (DBox wr (w.heap.size + 1) (.slice va acc.length vc)) ∧ Hid (Below (w.heap.size + 1) (w.alloc (.cells #[.int .i64 0, .int .i64 0, .string ⟨#[]⟩, .slice none 0 0] 130)) wr)) (fun _ i _ _ _ => D - (intOf i).toNat)
      case atStart =>
        refine ⟨2, [], none, 0, rfl, rfl, Nat.zero_le _, Nat.le_refl _, by omega, by simp, Lib.hid (by simp), Lib.hid (fun x hx => by simp at hx), Lib.hid (World.ownsRow_nil _ _ _ _), .inl rfl, Lib.hid ⟨by simp, by simp, by simp, by simp, by simp⟩, Lib.hid ((Below.refl _ _).alloc (by simp) _)⟩
      case round =>
        obtain ⟨at', acc, va, vc, rfl, rfl, hk1, hk2, hk3, hzw, HQ, HFR, HRW, hform, HDB, HB⟩ := hrel
        have HBW : Hid (Below w.heap.size w wr) := Lib.hid (below_al _ (by simpa using HB.out))
        by_cases hlt : acc.length < D
        · obtain ⟨c, hc⟩ : ∃ c, D - acc.length = c + 1 := ⟨D - acc.length - 1, by omega⟩
          have HONE := Lib.hid (one_any s at' · hs)
          match hit : itF (s.data.toList.drop at') with
          | none =>
            have HN : Hid (ofF s.data.toList = none) := Lib.hid (by rw [HO.out, HF.out, HQ.out, hc, isF_none hit]; rfl)
            rw [hit, resO] at HONE
            clear hit hc
            go_wp2_with fail
            refine (HONE.out _).mono ?_
            rintro e w1 ⟨rfl, hb⟩
            have hz1 := hb.size
            have HB1 := Lib.hid ((HB.out.trans (hb.mono (by omega))).alloc (by omega) (.cells #[.int .i64 0, .int .i64 0, .string ⟨#[]⟩, .slice none 0 0] 130)); clear hb
            obtain ⟨c0, c1, c2, c3⟩ := box_cells HB1.out
            obtain ⟨f0, f1, f2, f3⟩ := box_frozen HB1.out
            have HBW1 : Hid (Below w.heap.size w (w1.alloc (.cells #[.int .i64 0, .int .i64 0, .string ⟨#[]⟩, .slice none 0 0] 130))) := Lib.hid (below_al _ (by simpa using HB1.out))
            go_wp2
            exact bodyPost_ret (v := .tuple #[.agg #[.int .i64 0, .int .i64 0, .string ⟨#[]⟩, .slice none 0 0], .int .i64 0, .int .i64 11]) (by simp [results, Tryz.results73, go_sem, c0, c1, c2, c3]) rfl ⟨below_res HBW1.out, .inl ⟨HN.out, rfl⟩⟩
          | some ((k, n, t), m) =>
            obtain ⟨hn, hm1, hm2⟩ := itF_some hit
            rw [List.length_drop, HLEN.out] at hm2
            have hmz : ¬ ((at' : Int) + (m : Int) < 0) := by omega
            have HN : Hid (isF D (s.data.toList.drop 2) = (isF (D - (acc.length + 1)) (s.data.toList.drop (at' + m))).map fun p => ((acc ++ [(⟨k, n, t, none, 0, 0⟩ : It)]).map cont ++ p.1, (at' + m - 2) + p.2)) := Lib.hid (by
              rw [HQ.out, hc, isF_step hit, List.drop_drop, show D - (acc.length + 1) = c by omega, Option.map_map]
              congr 1
              funext p
              simp only [Function.comp, List.map_append, List.map_cons, List.map_nil, List.append_assoc, List.cons_append, List.nil_append]
              refine Prod.ext rfl ?_
              show at' - 2 + (m + p.2) = at' + m - 2 + p.2
              omega)
            have HFR2 : Hid (Fre (acc ++ [(⟨k, n, t, none, 0, 0⟩ : It)])) := Lib.hid (by
              intro x hx
              rw [List.mem_append, List.mem_singleton] at hx
              rcases hx with hx | rfl
              · exact HFR.out x hx
              · exact ⟨hn, rfl⟩)
            rw [hit, resO] at HONE
            clear hit hc hform
            go_wp2_with fail
            refine (HONE.out _).mono ?_
            rintro e w1 ⟨rfl, hb⟩
            have hz1 := hb.size
            have HD1 := Lib.hid (HDB.out.below hb (by omega))
            have HO1 := Lib.hid (ownsRow_below HRW.out hb)
            have HB1 := Lib.hid (HB.out.trans (hb.mono (by omega))); clear hb
            obtain ⟨d0, d1, d2, d3, g3⟩ := HD1.out
            have hzw1 : w.heap.size + 1 < w1.heap.size := by omega
            go_wp2_with (at_builtin; refine wpList_append_own _ rfl _ _ 82 rfl (w.heap.size + 2) 130 i0 (.agg #[.int .i64 0, .int .i64 0, .string ⟨#[]⟩, .slice none 0 0]) 4 56 Tryz.underlying82 hi q0 q1 q2 rfl (by decide) _ _ _ rfl ((HO1.out.alloc _).alloc _) ⟨w1.heap.size + 1, 0, none⟩ 1 1 [.int .i64 k, .int .i64 n, .string t, .slice none 0 0] rfl rfl ?c1 ?c2 ?c3 ?c4 ?c5 ?_)
            case c1 =>
              intro q u hu
              have hq : q = 0 ∨ q = 1 ∨ q = 2 ∨ q = 3 := by
                have := (List.getElem?_eq_some_iff.1 hu).1
                simp at this
                omega
              rcases hq with rfl | rfl | rfl | rfl <;> (simp at hu; subst hu; simp [Addr.add])
            case c2 => intro u hu; simp at hu; rcases hu with rfl | rfl | rfl | rfl <;> rfl
            case c3 => unfold maxLen; omega
            case c4 => omega
            case c5 => simp; omega
            intro v' w2 hown' hgrow _
            obtain ⟨g', cap', rfl⟩ : ∃ g' cap', v' = .slice (some ⟨g', 0, none⟩) (acc.length + 1) cap' := by
              rcases hown'.2 with ⟨_, h0⟩ | ⟨g', cap', cur, hv, _⟩
              · omega
              · exact ⟨g', cap', hv⟩
            have hgl := (hown'.lt g' rfl).1
            have hB12 : Below (w.heap.size + 2) w1 w2 := (((Below.refl (w.heap.size + 2) w1).alloc (by omega) _).alloc (by rw [World.size_alloc]; omega) _).grown hgrow (by rw [World.size_alloc, World.size_alloc]; omega) (fun q hq => (HO1.out.lt q hq).1)
            have hz2 := hB12.size
            have HD2 := Lib.hid (HD1.out.below hB12 (by omega))
            have HB2 := Lib.hid (HB1.out.trans (hB12.mono (by omega)))
            have HO2 : Hid (w2.ownsRow (w.heap.size + 2) 130 4 (.slice (some ⟨g', 0, none⟩) (acc ++ [(⟨k, n, t, none, 0, 0⟩ : It)]).length cap') (acc ++ [(⟨k, n, t, none, 0, 0⟩ : It)]).length (itVals (acc ++ [(⟨k, n, t, none, 0, 0⟩ : It)]))) := Lib.hid (by rw [itVals_snoc, List.length_append]; exact hown')
            clear hown' hgrow hB12 d0 d1 d2 d3 g3
            obtain ⟨d0, d1, d2, d3, g3⟩ := HD2.out
            go_wp2
            go_roundw
            case rel =>
              refine ⟨at' + m, acc ++ [⟨k, n, t, none, 0, 0⟩], some ⟨g', 0, none⟩, cap', by rw [List.length_append]; go_num, by go_num, by simp; omega, by omega, by omega, by simp [World.setCell]; omega, ?_, HFR2, Lib.hid ?_, .inr ⟨g', rfl⟩, Lib.hid ?_, Lib.hid (HB2.out.setCell (p := ⟨w.heap.size + 1, 3, none⟩) (Nat.le_refl _) _)⟩
              · rw [List.length_append]; exact HN
              · exact ownsRow_setCell_other HO2.out (by simp [Value.ownBlock]; omega) _
              · rw [List.length_append]; exact HD2.out.store _
            case measure => simp [intOf]; omega
        · obtain ⟨hD'⟩ : Nonempty (acc.length = D) := ⟨by omega⟩
          have HN : Hid (ofF s.data.toList = some ((3, 0, ⟨#[]⟩), acc.map cont, at')) := Lib.hid (by
            rw [HO.out, HF.out, HQ.out, hD', Nat.sub_self, isF]
            simp only [Option.map_some, List.append_nil, Nat.add_zero]
            rw [show 2 + (at' - 2) = at' by omega])
          obtain ⟨c0, c1, c2, c3⟩ := box_cells HB.out
          obtain ⟨f0, f1, f2, f3⟩ := box_frozen HB.out
          obtain ⟨d0, d1, d2, d3, g3⟩ := HDB.out
          have HSG : Hid (SlG (w.heap.size + 1) wr va acc) := Lib.hid (by
            rcases hform with h | ⟨g, rfl⟩
            · exact .inl h
            · exact Sl_of_row HRW.out (by omega))
          clear hform
          go_wp2
          exact bodyPost_ret (v := .tuple #[.agg #[.int .i64 3, .int .i64 0, .string ⟨#[]⟩, .slice va acc.length vc], .int .i64 at', .int .i64 0]) (by simp [results, Tryz.results73, go_sem, c0, c1, c2, c3]; omega) rfl ⟨below_res HBW.out, .inr ⟨3, 0, _, va, acc, vc, at', HN.out, rfl, ⟨by decide, by decide⟩, HFR.out, by omega, (HSG.out.setCells (by omega) _ _ _ _).weak (by omega)⟩⟩

theorem rof_any (s : ByteArray) (w : World) (hs : s.size ≤ 140737488355000) : Calls Tryz.prog 73 #[.string s] w (OfPost s.data.toList w) := by
  by_cases h3 : s.data.toList.head? = some 3
  · exact rof_list s w hs h3
  · exact rof_item s w hs h3
end Go.Proofs.YtijggofelepaaaaGreatDoor.Dm

/- A row's data in plain words: where they lie, their content, their bytes; what bytes are a row's. The contracts of both Bytes of a datum, by content. -/
set_option maxRecDepth 100000
namespace Go.Proofs.YtijggofelepaaaaGreatDoor.Dm
open Go Go.RowKit

theorem rbytes_ok (k n : Int) (s : ByteArray) (a : Option Addr) (xs : List It) (lc : Nat) (w : World) (hS : Sl w a xs) (h : dOk k n s xs = true) (hn : I64 n) (hns : AllI xs) :
    Calls Tryz.prog 71 #[.agg #[.int .i64 k, .int .i64 n, .string s, .slice a xs.length lc]] w fun e w' => e = .returned (.tuple #[.string ⟨(datB k n s xs).toArray⟩, .int .i64 0]) ∧ Below w.heap.size w w' := by
  have HS := Lib.hid hS; have HF := Lib.hid h; have HN := Lib.hid hn; have HNS := Lib.hid hns; clear hS h hn hns
  go_enter Tryz.func71, Tryz.ntmps71
  go_wp2_with fail
  refine (may_ok _ _ _ _ _ _ _ (HS.out.below ((Below.refl _ _).alloc (Nat.le_refl _) _) (Nat.le_refl _)) HF.out).mono ?_
  rintro e w1 ⟨rfl, hb1⟩
  obtain ⟨c0, c1, c2, c3⟩ := box_cells (by simpa using hb1)
  have HB1 := Lib.hid (below_al _ hb1)
  clear hb1
  go_wp2_with fail
  refine (encoded_any _ _ _ _ _ _ _ (HS.out.below HB1.out (Nat.le_refl _)) HF.out HN.out HNS.out).mono ?_
  rintro e w2 ⟨rfl, hb2⟩
  go_wp2
  go_ret2
  exact ⟨rfl, below_then HB1.out (Nat.le_refl _) hb2⟩
theorem rbytes_no (k n : Int) (s : ByteArray) (a : Option Addr) (xs : List It) (lc : Nat) (w : World) (hS : Sl w a xs) (h : dOk k n s xs = false) :
    Calls Tryz.prog 71 #[.agg #[.int .i64 k, .int .i64 n, .string s, .slice a xs.length lc]] w fun e w' => e = .returned (.tuple #[.string ⟨#[]⟩, .int .i64 11]) ∧ Below w.heap.size w w' := by
  have HS := Lib.hid hS; have HF := Lib.hid h; clear hS h
  go_enter Tryz.func71, Tryz.ntmps71
  go_wp2_with fail
  refine (may_no _ _ _ _ _ _ _ (HS.out.below ((Below.refl _ _).alloc (Nat.le_refl _) _) (Nat.le_refl _)) HF.out).mono ?_
  rintro e w1 ⟨rfl, hb1⟩
  go_wp2
  go_ret2
  exact ⟨rfl, below_al _ hb1⟩

/-- A datum of a row, and its content. -/
def InC (w : World) (x : It) (c : Dt) : Prop := I64 x.n ∧ ∃ ys : List It, ys.length = x.ll ∧ Sl w x.a ys ∧ AllI ys ∧ c = (x.k, x.n, x.s, ys.map itC)
/-- Data in a row, and their contents. -/
structure DsR (w : World) (a : Option Addr) (xs : List It) (cs : List Dt) : Prop where
  sl : Sl w a xs
  len : xs.length = cs.length
  is : ∀ j (h : j < xs.length) (h2 : j < cs.length), InC w (xs[j]'h) (cs[j]'h2)
theorem InC.below {w w' : World} {x : It} {c : Dt} (h : InC w x c) (hb : Below w.heap.size w w') : InC w' x c := by
  obtain ⟨h1, ys, h2, h3, h4, h5⟩ := h
  exact ⟨h1, ys, h2, h3.below hb (Nat.le_refl _), h4, h5⟩
theorem DsR.below {w w' : World} {a : Option Addr} {xs : List It} {cs : List Dt} (h : DsR w a xs cs) (hb : Below w.heap.size w w') : DsR w' a xs cs := ⟨h.sl.below hb (Nat.le_refl _), h.len, fun j h1 h2 => (h.is j h1 h2).below hb⟩
theorem DsR.nil_ (w : World) (a : Option Addr) : DsR w a [] [] := ⟨.inl rfl, rfl, fun j h => by simp at h⟩
/-- The cells of one of them. -/
theorem DsR.at_ {w : World} {a : Option Addr} {xs : List It} {cs : List Dt} (h : DsR w a xs cs) {j : Nat} (hj : j < xs.length) :
    ∃ (b off : Nat) (x : It) (c : Dt), a = some ⟨b, off, none⟩ ∧ b < w.heap.size ∧ xs[j]? = some x ∧ cs[j]? = some c ∧ InC w x c ∧
      w.cell? ⟨b, off + j * 4, none⟩ = some (.int .i64 x.k) ∧ w.cell? ⟨b, off + j * 4 + 1, none⟩ = some (.int .i64 x.n) ∧ w.cell? ⟨b, off + j * 4 + 2, none⟩ = some (.string x.s) ∧ w.cell? ⟨b, off + j * 4 + 3, none⟩ = some (.slice x.a x.ll x.lc) := by
  obtain ⟨b, off, ha, hb, hc⟩ := h.sl.at hj
  obtain ⟨e0, e1, e2, e3⟩ := hc j hj
  have hj' : j < cs.length := by rw [← h.len]; exact hj
  exact ⟨b, off, _, _, ha, hb, List.getElem?_eq_getElem hj, List.getElem?_eq_getElem hj', h.is j hj hj', e0, e1, e2, e3⟩

/-- How a row's bytes begin: a byte that says how many; the bytes of each. -/
def rowB (cs : List Dt) : List UInt8 := byt cs.length :: cs.flatMap Dt.kb
def rowOk (cs : List Dt) : Bool := decide (cs.length ≤ 4) && cs.all Dt.ok && decide ((rowB cs).length ≤ 400)
/-- What Bytes answers of a row. -/
def rowRes (cs : List Dt) : Value := if rowOk cs then .tuple #[.string ⟨(rowB cs).toArray⟩, .int .i64 0] else .tuple #[.string ⟨#[]⟩, .int .i64 70]
/-- What Bytes of a datum answers. -/
def dtRes (c : Dt) : Value := if c.ok then .tuple #[.string ⟨c.kb.toArray⟩, .int .i64 0] else .tuple #[.string ⟨#[]⟩, .int .i64 11]
theorem bytes_c {w : World} {x : It} {c : Dt} (h : InC w x c) : Calls Tryz.prog 70 #[.agg #[.int .i64 x.k, .int .i64 x.n, .string x.s, .slice x.a x.ll x.lc]] w fun e w' => e = .returned (dtRes c) ∧ Below w.heap.size w w' := by
  obtain ⟨h1, ys, h2, h3, h4, rfl⟩ := h
  unfold dtRes
  rw [dt_ok, dt_kb, ← h2]
  cases hok : dOk x.k x.n x.s ys
  · exact bytes_no _ _ _ _ _ _ _ h3 hok
  · exact bytes_ok _ _ _ _ _ _ _ h3 hok
theorem rbytes_c {w : World} {x : It} {c : Dt} (h : InC w x c) : Calls Tryz.prog 71 #[.agg #[.int .i64 x.k, .int .i64 x.n, .string x.s, .slice x.a x.ll x.lc]] w fun e w' => e = .returned (dtRes c) ∧ Below w.heap.size w w' := by
  obtain ⟨h1, ys, h2, h3, h4, rfl⟩ := h
  unfold dtRes
  rw [dt_ok, dt_kb, ← h2]
  cases hok : dOk x.k x.n x.s ys
  · exact rbytes_no _ _ _ _ _ _ _ h3 hok
  · exact rbytes_ok _ _ _ _ _ _ _ h3 hok h1 h4
/-- A datum's bytes are few. -/
theorem kb_few {w : World} {x : It} {c : Dt} (h : InC w x c) (hok : c.ok = true) : c.kb.length ≤ 1000 := by
  obtain ⟨_, ys, _, _, _, rfl⟩ := h
  rw [dt_ok] at hok
  rw [dt_kb]
  unfold datB
  split
  · rename_i hk
    rw [dOk, if_pos hk] at hok
    obtain ⟨_, _, hlen, hall⟩ := listOk_parts hok
    have := itemsB_length ys hall
    simp only [List.length_cons]
    omega
  · rename_i hk
    have hi : itemOk x.k x.n x.s ys.length = true := by simpa [dOk, hk] using hok
    have := (item_kind (x := ⟨x.k, x.n, x.s, none, ys.length, 0⟩) hi).2
    have h2 := itemB_length x.k x.n x.s
    have h3 : x.s.size ≤ 32 := this
    omega

/-! ### What bytes are a row's -/
/-- An item's content, where it has no list. -/
def icF (c : Int × Int × ByteArray) : Ic := (c.1, c.2.1, c.2.2, 0)
def dtF (x : Int × Int × ByteArray) (l : List (Int × Int × ByteArray)) : Dt := (x.1, x.2.1, x.2.2, l.map icF)
/-- So many data that bytes begin with. -/
def dsF : Nat → List UInt8 → Option (List Dt × Nat)
  | 0, _ => some ([], 0)
  | n + 1, l => match ofF l with
    | none => none
    | some (x, is, m) => (dsF n (l.drop m)).map fun p => (dtF x is :: p.1, m + p.2)
theorem dsF_none {n : Nat} {l : List UInt8} (h : ofF l = none) : dsF (n + 1) l = none := by rw [dsF, h]
theorem dsF_step {n : Nat} {l : List UInt8} {x : Int × Int × ByteArray} {is : List (Int × Int × ByteArray)} {m : Nat} (h : ofF l = some (x, is, m)) : dsF (n + 1) l = (dsF n (l.drop m)).map fun p => (dtF x is :: p.1, m + p.2) := by rw [dsF, h]
/-- The row of bytes. -/
def rowF (l : List UInt8) : Option (List Dt) :=
  match l with
  | [] => none
  | c :: r => if 400 < r.length + 1 ∨ 4 < c.toNat then none else match dsF c.toNat r with
    | none => none
    | some (ds, m) => if 1 + m = r.length + 1 then some ds else none
theorem itC_fre {xs : List It} (h : Fre xs) : xs.map itC = (xs.map cont).map icF := by
  rw [List.map_map]
  refine List.map_congr_left fun x hx => ?_
  show (x.k, x.n, x.s, x.ll) = (x.k, x.n, x.s, 0)
  rw [(h x hx).2]
/-- No item has a list, and there are few. -/
def Dt.few (c : Dt) : Prop := c.2.2.2.length ≤ 8 ∧ ∀ x, x ∈ c.2.2.2 → x.2.2.2 = 0
theorem few_of_ok {c : Dt} (h : c.ok = true) : c.few := by
  obtain ⟨k, n, s, l⟩ := c
  unfold Dt.ok dOk at h
  by_cases hk : k = 3
  · simp only [if_pos hk] at h
    obtain ⟨_, _, hlen, hall⟩ := listOk_parts h
    refine ⟨by have h := hlen; simp only [List.length_map] at h; show l.length ≤ 8; omega, fun x hx => ?_⟩
    have := itemOk_true (hall (icIt x) (List.mem_map_of_mem hx))
    have h1 : ¬ 0 < x.2.2.2 := this.1
    omega
  · simp only [if_neg hk] at h
    have := (itemOk_true h).1
    simp only [List.length_map] at this
    have hl : l = [] := List.eq_nil_of_length_eq_zero (by omega)
    subst hl
    exact ⟨by simp, fun x hx => by simp at hx⟩
theorem few_f (x : Int × Int × ByteArray) {is : List (Int × Int × ByteArray)} (h : is.length ≤ 8) : (dtF x is).few := by
  refine ⟨by simpa [dtF] using h, fun y hy => ?_⟩
  obtain ⟨z, _, rfl⟩ := List.mem_map.1 hy
  rfl
/-- A datum's bytes are read back. -/
theorem of_kb {w : World} {x : It} {c : Dt} (h : InC w x c) (hok : c.ok = true) (tail : List UInt8) : ∃ is, ofF (c.kb ++ tail) = some ((x.k, x.n, x.s), is, c.kb.length) ∧ dtF (x.k, x.n, x.s) is = c := by
  have hf := few_of_ok hok
  obtain ⟨h1, ys, h2, h3, h4, rfl⟩ := h
  rw [dt_ok] at hok
  rw [dt_kb]
  refine ⟨_, ofF_back _ _ _ ys tail hok h1 h4, ?_⟩
  unfold dtF
  rw [show ys.map itC = (ys.map cont).map icF from by
    rw [List.map_map]
    refine List.map_congr_left fun y hy => ?_
    show (y.k, y.n, y.s, y.ll) = (y.k, y.n, y.s, 0)
    have := hf.2 (itC y) (List.mem_map_of_mem hy)
    rw [show y.ll = 0 from this]]
/-- The bytes of a row's data are read back. -/
theorem ds_back {w : World} : ∀ (xs : List It) (cs : List Dt), xs.length = cs.length → (∀ j (h : j < xs.length) (h2 : j < cs.length), InC w (xs[j]'h) (cs[j]'h2)) → (∀ c ∈ cs, c.ok = true) → dsF cs.length (cs.flatMap Dt.kb) = some (cs, (cs.flatMap Dt.kb).length)
  | [], [], _, _, _ => rfl
  | [], _ :: _, h, _, _ => by cases h
  | _ :: _, [], h, _, _ => by cases h
  | x :: xs, c :: cs, hl, hi, ho => by
    obtain ⟨is, e1, e2⟩ := of_kb (hi 0 (by simp) (by simp)) (ho c (by simp)) (cs.flatMap Dt.kb)
    simp only [List.getElem_cons_zero] at e1 e2
    rw [List.flatMap_cons, List.length_cons, dsF_step e1, List.drop_left, ds_back xs cs (by simpa using hl) (fun j h h' => by have := hi (j + 1) (by simpa using h) (by simpa using h'); simpa using this) (fun c hc => ho c (List.mem_cons_of_mem _ hc))]
    simp [e2]
theorem rowOk_parts {cs : List Dt} (h : rowOk cs = true) : cs.length ≤ 4 ∧ (∀ c ∈ cs, c.ok = true) ∧ (rowB cs).length ≤ 400 := by
  unfold rowOk at h
  simp only [Bool.and_eq_true, decide_eq_true_eq, List.all_eq_true] at h
  exact ⟨h.1.1, h.1.2, h.2⟩
theorem row_back {w : World} {a : Option Addr} {xs : List It} {cs : List Dt} (h : DsR w a xs cs) (hok : rowOk cs = true) : rowF (rowB cs) = some cs := by
  obtain ⟨h1, h2, h3⟩ := rowOk_parts hok
  have hb : (byt (cs.length : Int)).toNat = cs.length := by
    have := byt_nat (cs.length : Int)
    omega
  have h3' : (cs.flatMap Dt.kb).length + 1 ≤ 400 := by simpa [rowB] using h3
  unfold rowF rowB
  simp only
  rw [if_neg (by rw [hb]; omega), hb, ds_back xs cs h.len h.is h2]
  simp only
  rw [if_pos (by omega)]
end Go.Proofs.YtijggofelepaaaaGreatDoor.Dm

/- The contracts of both Bytes of a row: the same answer, by content; other memory stands. -/
set_option maxRecDepth 100000
namespace Go.Proofs.YtijggofelepaaaaGreatDoor.Dm
open Go Go.RowKit

/-- The bytes of so many of a row's data, behind the byte that says how many there are. -/
def accB (cs : List Dt) (j : Nat) : List UInt8 := byt cs.length :: (cs.take j).flatMap Dt.kb
theorem accB_zero (cs : List Dt) : accB cs 0 = [byt cs.length] := by simp [accB]
theorem accB_succ {cs : List Dt} {j : Nat} {c : Dt} (h : cs[j]? = some c) : accB cs (j + 1) = accB cs j ++ c.kb := by
  unfold accB
  rw [List.take_add_one, h, Option.toList_some, List.flatMap_append, List.cons_append]
  simp
theorem accB_all {cs : List Dt} {j : Nat} (h : cs.length ≤ j) : accB cs j = rowB cs := by
  unfold accB rowB
  rw [List.take_of_length_le h]
theorem rowRes_no {cs : List Dt} (h : ¬ (cs.length ≤ 4 ∧ (∀ c ∈ cs, c.ok = true) ∧ (rowB cs).length ≤ 400)) : rowRes cs = .tuple #[.string ⟨#[]⟩, .int .i64 70] := by
  unfold rowRes
  rw [if_neg (fun hh => h (rowOk_parts hh))]
theorem rowRes_yes {cs : List Dt} (h4 : cs.length ≤ 4) (ha : ∀ c ∈ cs, c.ok = true) (hl : (rowB cs).length ≤ 400) : rowRes cs = .tuple #[.string ⟨(rowB cs).toArray⟩, .int .i64 0] := by
  unfold rowRes
  rw [if_pos]
  unfold rowOk
  simp only [Bool.and_eq_true, decide_eq_true_eq, List.all_eq_true]
  exact ⟨⟨h4, ha⟩, hl⟩
/-- All of the first ones may be. -/
def OkTo (cs : List Dt) (j : Nat) : Prop := ∀ i c, i < j → cs[i]? = some c → c.ok = true
theorem OkTo.zero (cs : List Dt) : OkTo cs 0 := fun i c h => by omega
theorem OkTo.succ {cs : List Dt} {j : Nat} {c : Dt} (h : OkTo cs j) (hc : cs[j]? = some c) (ho : c.ok = true) : OkTo cs (j + 1) := fun i d hi hd => by
  by_cases hij : i = j
  · subst hij
    rw [hc] at hd
    cases hd
    exact ho
  · exact h i d (by omega) hd
theorem OkTo.all {cs : List Dt} {j : Nat} (h : OkTo cs j) (hj : cs.length ≤ j) : ∀ c ∈ cs, c.ok = true := fun c hc => by
  obtain ⟨i, hi, e⟩ := List.getElem_of_mem hc
  exact h i c (by omega) (by rw [List.getElem?_eq_getElem hi, e])
theorem ownsRow_below' {base e size n : Nat} {w w' : World} {v : Value} {xs : List Value} (h : w.ownsRow base e size v n xs) (hb : Below w.heap.size w w') : w'.ownsRow base e size v n xs :=
  ownsRow_of_block h fun k hk => hb.block k (World.ownsRow.lt h k hk).2
theorem bytes_app' (a b : List UInt8) : (⟨a.toArray⟩ : ByteArray) ++ ⟨b.toArray⟩ = ⟨(a ++ b).toArray⟩ := ByteArray.ext (by simp)
theorem kb_str (l : List UInt8) (k : List UInt8) : Lib.byteCells l ++ Lib.strCells ⟨k.toArray⟩ = Lib.byteCells (l ++ k) := by
  rw [Lib.byteCells_append]; rfl

set_option maxHeartbeats 1600000 in
theorem hbytes_row (a : Option Addr) (xs : List It) (lc : Nat) (cs : List Dt) (w : World) (h : DsR w a xs cs) :
    Calls Tryz.prog 28 #[.slice a xs.length lc] w fun e w' => e = .returned (rowRes cs) ∧ Below w.heap.size w w' := by
  obtain ⟨i0, hi, q0, q1, q2⟩ := info_parts infoByte
  have HLN := Lib.hid h.len
  have HAT : Hid (∀ wr j, Below w.heap.size w wr → j < xs.length → ∃ (b off : Nat) (x : It) (c : Dt), a = some ⟨b, off, none⟩ ∧ b < wr.heap.size ∧ cs[j]? = some c ∧ InC wr x c ∧
      wr.cell? ⟨b, off + j * 4, none⟩ = some (.int .i64 x.k) ∧ wr.cell? ⟨b, off + j * 4 + 1, none⟩ = some (.int .i64 x.n) ∧ wr.cell? ⟨b, off + j * 4 + 2, none⟩ = some (.string x.s) ∧ wr.cell? ⟨b, off + j * 4 + 3, none⟩ = some (.slice x.a x.ll x.lc)) := Lib.hid fun wr j hb hj => by
    obtain ⟨b, off, x, c, h1, h2, _, h4, h5, h6⟩ := (h.below hb).at_ hj
    exact ⟨b, off, x, c, h1, h2, h4, h5, h6⟩
  obtain ⟨n, hn⟩ : ∃ n, n = xs.length := ⟨_, rfl⟩
  rw [← hn] at HAT HLN ⊢
  clear h hn
  by_cases hn4 : n ≤ 4
  case neg =>
    have f1 : (4 : Int) < (n : Int) := by omega
    have HR := Lib.hid (rowRes_no (cs := cs) (fun hh => by have := HLN.out; have := hh.1; omega))
    clear HAT
    go_enter Tryz.func28, Tryz.ntmps28
    go_wp2
    go_ret2
    exact ⟨by rw [HR.out]; rfl, Below.refl _ _⟩
  have f1 : ¬ (4 : Int) < (n : Int) := by omega
  go_enter Tryz.func28, Tryz.ntmps28
  go_wp2
  go_loopw [4, 6, 7, 8, 18] (fun vb _ _ _ vi wr => ∃ (j : Nat) (l : List UInt8) (g cap : Nat), vi = .int .i64 j ∧ vb = .slice (some ⟨g, 0, none⟩) l.length cap ∧ j ≤ n ∧ l.length ≤ 1 + 1000 * j ∧ Hid (l = accB cs j) ∧ Hid (OkTo cs j) ∧ Hid (Row w.heap.size wr (.slice (some ⟨g, 0, none⟩) l.length cap) l) ∧ Hid (Below w.heap.size w wr)) (fun _ _ _ _ i _ => n - (intOf i).toNat)
  case atStart =>
    refine ⟨0, [byt n], w.heap.size, 1, rfl, rfl, by omega, by simp, Lib.hid (by rw [accB_zero, HLN.out]), Lib.hid (OkTo.zero _), Lib.hid ?_, Lib.hid ((Below.refl _ _).alloc (Nat.le_refl _) _)⟩
    have hb : ((byt (n : Int)).toNat : Int) = (n : Int) := by rw [byt_nat]; omega
    have := World.ownsRow_lit (base := w.heap.size) (e := 5) (size := 1) w #[.int .u8 (n : Int)] 1 (by simp) (by decide) (by rfl)
    show World.ownsRow _ _ 5 1 _ 1 (Lib.byteCells [byt n])
    rw [oneByte, hb]
    exact this
  case round =>
    obtain ⟨j, l, g, cap, rfl, rfl, hj, hl, HL, HK, HR, HB⟩ := hrel
    have hz := HB.out.size
    by_cases hlt : j < n
    · obtain ⟨b, off, x, c, rfl, hbw, hc, hI, e0, e1, e2, e3⟩ := HAT.out wr j HB.out hlt
      have f2 : (j : Int) < (n : Int) := by omega
      have hba := (Below.refl wr.heap.size wr).alloc (Nat.le_refl _) (.cells #[.int .i64 x.k, .int .i64 x.n, .string x.s, .slice x.a x.ll x.lc] 130)
      have HBY := Lib.hid (bytes_c (hI.below hba))
      have HC := Lib.hid hc
      have HI := Lib.hid hI
      clear hc hI hba
      cases hok : c.ok with
      | false =>
        have HRS := Lib.hid (rowRes_no (cs := cs) (fun hh => by have := hh.2.1 c (List.mem_of_getElem? HC.out); rw [hok] at this; cases this))
        have HD : Hid (dtRes c = .tuple #[.string ⟨#[]⟩, .int .i64 11]) := Lib.hid (by unfold dtRes; rw [hok]; rfl)
        rw [HD.out] at HBY
        clear hok HAT
        go_wp2_with fail
        refine HBY.out.mono ?_
        rintro e w1 ⟨rfl, hb1⟩
        have HE := Lib.hid (HB.out.trans ((below_al _ hb1).mono HB.out.size))
        clear HBY hb1 e0 e1 e2 e3
        go_wp2
        go_ret2
        exact ⟨by rw [HRS.out]; rfl, HE.out⟩
      | true =>
        have HD : Hid (dtRes c = .tuple #[.string ⟨c.kb.toArray⟩, .int .i64 0]) := Lib.hid (by unfold dtRes; rw [hok]; rfl)
        rw [HD.out] at HBY
        have hkf := kb_few HI.out hok
        have HK2 := Lib.hid (HK.out.succ HC.out hok)
        have HL2 : Hid (l ++ c.kb = accB cs (j + 1)) := Lib.hid (by rw [accB_succ HC.out, HL.out])
        obtain ⟨kb, hkb⟩ : ∃ kb, kb = c.kb := ⟨_, rfl⟩
        rw [← hkb] at HBY hkf HL2
        have hks : (⟨kb.toArray⟩ : ByteArray).size = kb.length := by simp [ByteArray.size]
        clear hok hkb HAT HI HD HC
        go_wp2_with fail
        refine HBY.out.mono ?_
        rintro e w1 ⟨rfl, hb1⟩
        have hb2 := below_al _ hb1
        have hz1 := hb2.size
        have HR1 := Lib.hid (ownsRow_below' HR.out hb2)
        have HB1 := Lib.hid (HB.out.trans (hb2.mono HB.out.size))
        clear HBY hb1 hb2 e0 e1 e2 e3
        obtain ⟨S, hS⟩ : ∃ S : ByteArray, S = ⟨kb.toArray⟩ := ⟨_, rfl⟩
        rw [← hS] at hks ⊢
        have HS := Lib.hid hS
        clear hS
        go_wp2_with (at_builtin; refine Lib.wpList_append_own_string _ rfl _ _ 94 9 rfl w.heap.size 5 i0 Tryz.underlying94 Tryz.underlying9 hi q0 q1 q2 _ _ _ rfl HR1.out S rfl ?c1 ?c2 ?c3 ?_)
        case c1 => unfold maxLen; omega
        case c2 => omega
        case c3 => omega
        intro v2 w2 hown hgrow _
        obtain ⟨g2, cap2, rfl⟩ : ∃ g cap, v2 = .slice (some ⟨g, 0, none⟩) (l.length + kb.length) cap := by
          rcases hown.2 with ⟨_, h0⟩ | ⟨g', cap', cur, hv, _⟩
          · have := HL.out
            rw [this] at h0
            simp [accB] at h0
          · exact ⟨_, cap', hv⟩
        have HR2 : Hid (Row w.heap.size w2 (.slice (some ⟨g2, 0, none⟩) (l ++ kb).length cap2) (l ++ kb)) := Lib.hid (by
          show w2.ownsRow _ 5 1 _ _ _
          rw [← kb_str, List.length_append, ← HS.out]
          exact hown)
        have HB2 : Hid (Below w.heap.size w w2) := Lib.hid (HB1.out.trans ⟨hgrow.os, hgrow.tape, hgrow.output, hgrow.size, fun i hi => hgrow.block i (by omega) (fun e => by have := (HR1.out.lt i e.symm).1; omega)⟩)
        clear hown hgrow
        go_wp2
        go_roundw
        case rel => exact ⟨j + 1, l ++ kb, g2, cap2, by go_num, by rw [List.length_append], by omega, by rw [List.length_append]; omega, HL2, HK2, HR2, HB2⟩
        case measure => simp [intOf]; omega
    · have f2 : ¬ (j : Int) < (n : Int) := by omega
      have hjn : cs.length ≤ j := by have := HLN.out; omega
      have HAL := Lib.hid (HK.out.all hjn)
      have HLL : Hid (l = rowB cs) := Lib.hid (by rw [HL.out, accB_all hjn])
      clear HAT hjn
      by_cases h4 : l.length ≤ 400
      · have f3 : ¬ (400 : Int) < (l.length : Int) := by omega
        have hcv := conv_row _ _ _ _ _ HR.out
        have HRS := Lib.hid (rowRes_yes (cs := cs) (by have := HLN.out; omega) HAL.out (by rw [← HLL.out]; exact h4))
        go_wp2
        go_ret2
        exact ⟨by rw [HRS.out, HLL.out]; rfl, HB.out⟩
      · have f3 : (400 : Int) < (l.length : Int) := by omega
        have HRS := Lib.hid (rowRes_no (cs := cs) (fun hh => by have := hh.2.2; rw [← HLL.out] at this; exact h4 this))
        go_wp2
        go_ret2
        exact ⟨by rw [HRS.out]; rfl, HB.out⟩

set_option maxHeartbeats 1600000 in
theorem rbytes_row (a : Option Addr) (xs : List It) (lc : Nat) (cs : List Dt) (w : World) (h : DsR w a xs cs) :
    Calls Tryz.prog 29 #[.slice a xs.length lc] w fun e w' => e = .returned (rowRes cs) ∧ Below w.heap.size w w' := by
  have HLN := Lib.hid h.len
  have HAT : Hid (∀ wr j, Below w.heap.size w wr → j < xs.length → ∃ (b off : Nat) (x : It) (c : Dt), a = some ⟨b, off, none⟩ ∧ b < wr.heap.size ∧ cs[j]? = some c ∧ InC wr x c ∧
      wr.cell? ⟨b, off + j * 4, none⟩ = some (.int .i64 x.k) ∧ wr.cell? ⟨b, off + j * 4 + 1, none⟩ = some (.int .i64 x.n) ∧ wr.cell? ⟨b, off + j * 4 + 2, none⟩ = some (.string x.s) ∧ wr.cell? ⟨b, off + j * 4 + 3, none⟩ = some (.slice x.a x.ll x.lc)) := Lib.hid fun wr j hb hj => by
    obtain ⟨b, off, x, c, h1, h2, _, h4, h5, h6⟩ := (h.below hb).at_ hj
    exact ⟨b, off, x, c, h1, h2, h4, h5, h6⟩
  obtain ⟨n, hn⟩ : ∃ n, n = xs.length := ⟨_, rfl⟩
  rw [← hn] at HAT HLN ⊢
  clear h hn
  by_cases hn4 : n ≤ 4
  case neg =>
    have f1 : (4 : Int) < (n : Int) := by omega
    have HR := Lib.hid (rowRes_no (cs := cs) (fun hh => by have := HLN.out; have := hh.1; omega))
    clear HAT
    go_enter Tryz.func29, Tryz.ntmps29
    go_wp2
    go_ret2
    exact ⟨by rw [HR.out]; rfl, Below.refl _ _⟩
  have f1 : ¬ (4 : Int) < (n : Int) := by omega
  have hrow : Row w.heap.size (w.alloc (.cells #[.int .u8 (n : Int)] 5)) (.slice (some ⟨w.heap.size, 0, none⟩) [byt n].length 1) [byt n] := by
    have hb : ((byt (n : Int)).toNat : Int) = (n : Int) := by rw [byt_nat]; omega
    have := World.ownsRow_lit (base := w.heap.size) (e := 5) (size := 1) w #[.int .u8 (n : Int)] 1 (by simp) (by decide) (by rfl)
    show World.ownsRow _ _ 5 1 _ 1 (Lib.byteCells [byt n])
    rw [oneByte, hb]
    exact this
  have hcv : (convert 94 9 (.slice (some ⟨w.heap.size, 0, none⟩) 1 1)).run Tryz.prog (w.alloc (.cells #[.int .u8 (n : Int)] 5)) = .ok (.string ⟨[byt n].toArray⟩) (w.alloc (.cells #[.int .u8 (n : Int)] 5)) := conv_row _ _ _ _ _ hrow
  clear hrow
  go_enter Tryz.func29, Tryz.ntmps29
  go_wp2
  go_loopw [4, 5, 6, 7] (fun vb vi _ _ wr => ∃ (j : Nat) (l : List UInt8), vi = .int .i64 j ∧ vb = .string ⟨l.toArray⟩ ∧ j ≤ n ∧ l.length ≤ 1 + 1000 * j ∧ Hid (l = accB cs j) ∧ Hid (OkTo cs j) ∧ Hid (Below w.heap.size w wr)) (fun _ i _ _ _ => n - (intOf i).toNat)
  case atStart =>
    exact ⟨0, [byt n], rfl, rfl, by omega, by simp, Lib.hid (by rw [accB_zero, HLN.out]), Lib.hid (OkTo.zero _), Lib.hid ((Below.refl _ _).alloc (Nat.le_refl _) _)⟩
  case round =>
    obtain ⟨j, l, rfl, rfl, hj, hl, HL, HK, HB⟩ := hrel
    have hz := HB.out.size
    by_cases hlt : j < n
    · obtain ⟨b, off, x, c, rfl, hbw, hc, hI, e0, e1, e2, e3⟩ := HAT.out wr j HB.out hlt
      have f2 : (j : Int) < (n : Int) := by omega
      have HBY := Lib.hid (rbytes_c hI)
      have HC := Lib.hid hc
      have HI := Lib.hid hI
      clear hc hI
      cases hok : c.ok with
      | false =>
        have HRS := Lib.hid (rowRes_no (cs := cs) (fun hh => by have := hh.2.1 c (List.mem_of_getElem? HC.out); rw [hok] at this; cases this))
        have HD : Hid (dtRes c = .tuple #[.string ⟨#[]⟩, .int .i64 11]) := Lib.hid (by unfold dtRes; rw [hok]; rfl)
        rw [HD.out] at HBY
        clear hok HAT
        go_wp2_with fail
        refine HBY.out.mono ?_
        rintro e w1 ⟨rfl, hb1⟩
        have HE := Lib.hid (HB.out.trans (hb1.mono HB.out.size))
        clear HBY hb1 e0 e1 e2 e3
        go_wp2
        go_ret2
        exact ⟨by rw [HRS.out]; rfl, HE.out⟩
      | true =>
        have HD : Hid (dtRes c = .tuple #[.string ⟨c.kb.toArray⟩, .int .i64 0]) := Lib.hid (by unfold dtRes; rw [hok]; rfl)
        rw [HD.out] at HBY
        have hkf := kb_few HI.out hok
        have HK2 := Lib.hid (HK.out.succ HC.out hok)
        have HL2 : Hid (l ++ c.kb = accB cs (j + 1)) := Lib.hid (by rw [accB_succ HC.out, HL.out])
        obtain ⟨kb, hkb⟩ : ∃ kb, kb = c.kb := ⟨_, rfl⟩
        rw [← hkb] at HBY hkf HL2
        have hq : ¬ 9223372036854775807 < l.length + kb.length := by omega
        clear hok hkb HAT HI HD HC
        go_wp2_with fail
        refine HBY.out.mono ?_
        rintro e w1 ⟨rfl, hb1⟩
        have HB1 := Lib.hid (HB.out.trans (hb1.mono HB.out.size))
        clear HBY hb1 e0 e1 e2 e3
        go_wp2
        go_roundw
        case rel => exact ⟨j + 1, l ++ kb, by go_num, by rw [← bytes_app'], by omega, by rw [List.length_append]; omega, HL2, HK2, HB1⟩
        case measure => simp [intOf]; omega
    · have f2 : ¬ (j : Int) < (n : Int) := by omega
      have hjn : cs.length ≤ j := by have := HLN.out; omega
      have HAL := Lib.hid (HK.out.all hjn)
      have HLL : Hid (l = rowB cs) := Lib.hid (by rw [HL.out, accB_all hjn])
      clear HAT hjn
      by_cases h4 : l.length ≤ 400
      · have f3 : ¬ (400 : Int) < (l.length : Int) := by omega
        have HRS := Lib.hid (rowRes_yes (cs := cs) (by have := HLN.out; omega) HAL.out (by rw [← HLL.out]; exact h4))
        go_wp2
        go_ret2
        exact ⟨by rw [HRS.out, HLL.out]; rfl, HB.out⟩
      · have f3 : (400 : Int) < (l.length : Int) := by omega
        have HRS := Lib.hid (rowRes_no (cs := cs) (fun hh => by have := hh.2.2; rw [← HLL.out] at this; exact h4 this))
        go_wp2
        go_ret2
        exact ⟨by rw [HRS.out]; rfl, HB.out⟩
end Go.Proofs.YtijggofelepaaaaGreatDoor.Dm
