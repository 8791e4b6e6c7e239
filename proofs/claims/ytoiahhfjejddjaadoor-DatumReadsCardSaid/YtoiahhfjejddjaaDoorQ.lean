/- The contracts of the reference's text, Text and Print: for every datum that may be; other memory stands. -/
import Derived.Test.YtoiahhfjejddjaaDoorP
import Derived.Deep.RegionLaw
set_option maxRecDepth 100000
namespace Go.Proofs.YtoiahhfjejddjaaDoor
open Go Go.RowKit

theorem bytes_app (a b : List UInt8) : (⟨a.toArray⟩ : ByteArray) ++ ⟨b.toArray⟩ = ⟨(a ++ b).toArray⟩ := ByteArray.ext (by simp)
theorem threeBytes (x y z : UInt8) : Lib.byteCells [x, y, z] = [.int .u8 (x.toNat : Int), .int .u8 (y.toNat : Int), .int .u8 (z.toNat : Int)] := rfl
/-- Three bytes more, at a step of a region that draws. -/
theorem step_app3 {ops : Array Oper} {o : Oper} {a : Act} {K : Act → World → Prop} {Q : Exit → Act → World → Prop} {E : Prop} {w : World} (hgd : o.guard = none) (s x : Operand)
    (ho : o.op = .call { callee := .builtin .append, args := #[s, x], argTypes := #[42, 42] }) (B : Nat) (acc : List UInt8) (v : Value) (hs : a.eval s = v) (hown : Row B w v acc) (hB : B ≤ w.heap.size) (hlen : acc.length ≤ 1000000)
    (u1 u2 u3 : UInt8) (hx : a.eval x = .slice (some ⟨w.heap.size, 0, none⟩) 3 3)
    (h : ∀ g cap w', Row B w' (.slice (some ⟨g, 0, none⟩) (acc.length + 3) cap) (acc ++ [u1, u2, u3]) → Below B w w' → Lib.OthersKept 5 none w w' → K (a.put o.dst (.slice (some ⟨g, 0, none⟩) (acc.length + 3) cap)) w') :
    if Region.wanted o (yielded ops a.tmps) = true then Oper.wp Tryd.prog o a (w.drew.alloc (.cells #[.int .u8 (u1.toNat : Int), .int .u8 (u2.toNat : Int), .int .u8 (u3.toNat : Int)] 5)) K Q else E := by
  have hw : Region.wanted o (yielded ops a.tmps) = true := by simp [Region.wanted, hgd]
  rw [if_pos hw]
  have hown2 : Row B w.drew v acc := hown
  obtain ⟨i0, hi, q0, q1, q2⟩ := info_parts infoByte
  refine wp_append_own _ s x 42 ho B 5 i0 (.int .u8 0) 1 1 Tryd.underlying42 hi q0 q1 q2 rfl (by decide) v acc.length (Lib.byteCells acc) hs (hown2.alloc _) ⟨w.heap.size, 0, none⟩ 3 3 [.int .u8 (u1.toNat : Int), .int .u8 (u2.toNat : Int), .int .u8 (u3.toNat : Int)] hx rfl ?_ ?_ (by unfold maxLen; omega) (by omega) (by rw [World.size_alloc]; show B ≤ w.heap.size + 1; omega) ?_
  · intro j u' hj
    have hq : j = 0 ∨ j = 1 ∨ j = 2 := by
      have := (List.getElem?_eq_some_iff.1 hj).1
      simp at this
      omega
    show (w.alloc _).cell? _ = _
    rcases hq with rfl | rfl | rfl <;> (simp at hj; subst hj; simp [Addr.add])
  · intro u' hu; simp at hu; rcases hu with rfl | rfl | rfl <;> rfl
  · intro v' w' hown' hgrow _
    obtain ⟨g, cap, rfl⟩ : ∃ g cap, v' = .slice (some ⟨g, 0, none⟩) (acc.length + 3) cap := by
      rcases hown'.2 with ⟨_, h0⟩ | ⟨g, cap, cur, hv, _⟩
      · omega
      · exact ⟨g, cap, hv⟩
    refine h g cap w' ?_ ?_ ?_
    · show w'.ownsRow B 5 1 _ (acc ++ [u1, u2, u3]).length (Lib.byteCells (acc ++ [u1, u2, u3]))
      rw [List.length_append, Lib.byteCells_append, threeBytes]
      exact hown'
    · exact (Below.refl B w).drew.trans (((Below.refl B w.drew).alloc (show B ≤ w.heap.size from hB) _).grown hgrow (by rw [World.size_alloc]; show B ≤ w.heap.size + 1; omega) (fun k hk => (hown2.lt k hk).1))
    · have : Lib.OthersKept 5 none w w.drew := Lib.OthersKept.refl _ _ _
      exact (this.alloc _).grown hgrow (Lib.ownsRowF_kind (World.ownsRowF_of (hown2.alloc _)))

set_option maxHeartbeats 1600000 in
theorem rtext_int (n : Int) (s : ByteArray) (a : Option Addr) (ll lc : Nat) (w : World) (hL : Laid w) (hn : I64 n) :
    Calls Tryd.prog 60 #[.agg #[.int .i64 1, .int .i64 n, .string s, .slice a ll lc]] w fun e w' => e = .returned (.string ⟨(Lib.itoa n).toArray⟩) ∧ Below w.heap.size w w' := by
  have hlen := Lib.itoa_length_le n hn.1 hn.2
  have hsix := hL.six
  have HL := Lib.hid hL; have HN := Lib.hid hn; clear hL hn
  go_enter Tryd.func60, Tryd.ntmps60
  go_wp2_with fail
  refine (Tryd.strconv_Itoa n HN.out.1 HN.out.2 _ (HL.out.below ((Below.refl _ _).alloc (Nat.le_refl _) _) hsix).tab).mono ?_
  rintro e w1 ⟨rfl, hg⟩
  have hb1 : Below (w.heap.size + 1) (w.alloc (.cells #[.int .i64 1, .int .i64 n, .string s, .slice a ll lc] 24)) w1 := by
    obtain ⟨kk, os, rfl⟩ := hg
    exact Lib.below_grow _ _ (by simp) _ _
  clear hg
  have HB1 := Lib.hid (below_al _ (by simpa using hb1)); clear hb1
  go_wp2
  go_ret
  exact ⟨rfl, HB1.out⟩

set_option maxHeartbeats 3200000 in
theorem rtext_text (n : Int) (s : ByteArray) (a : Option Addr) (ll lc : Nat) (w : World) (hs : s.size ≤ 32) :
    Calls Tryd.prog 60 #[.agg #[.int .i64 2, .int .i64 n, .string s, .slice a ll lc]] w fun e w' => e = .returned (.string ⟨(pText s.data.toList).toArray⟩) ∧ Below w.heap.size w w' := by
  have HSL : Hid (s.data.toList.length = s.size) := Lib.hid rfl
  go_enter Tryd.func60, Tryd.ntmps60
  go_wp2
  go_loopw [3, 4, 5] (fun o i _ wr => ∃ (j : Nat) (l : List UInt8) (g cap : Nat), j ≤ s.size ∧ i = .int .i64 j ∧ o = .slice (some ⟨g, 0, none⟩) l.length cap ∧ Hid (l = 39 :: (s.data.toList.take j).flatMap pB) ∧ Hid (Row w.heap.size wr (.slice (some ⟨g, 0, none⟩) l.length cap) l) ∧ Hid (Below w.heap.size w wr) ∧ Hid (Lib.OthersKept 5 none (w.alloc (.cells #[.int .i64 2, .int .i64 n, .string s, .slice a ll lc] 24)) wr) ∧ w.heap.size ≤ wr.heap.size) (fun _ i _ _ => s.size - (intOf i).toNat)
  case atStart =>
    refine ⟨0, [39], w.heap.size + 1, 1, by omega, rfl, rfl, Lib.hid (by simp), Lib.hid ?_, Lib.hid ?_, Lib.hid ?_, by simp; omega⟩
    · have := World.ownsRow_lit (base := w.heap.size) (e := 5) (size := 1) (w.alloc (.cells #[.int .i64 2, .int .i64 n, .string s, .slice a ll lc] 24)) #[.int .u8 39] 1 (by simp) (by decide) (by rfl)
      rw [World.size_alloc] at this
      show World.ownsRow _ _ 5 1 _ 1 (Lib.byteCells [39])
      rw [oneByte]
      exact this
    · exact ((Below.refl _ _).alloc (Nat.le_refl _) _).alloc (by simp) _
    · exact (Lib.OthersKept.refl _ _ _).alloc _
  case round =>
    obtain ⟨j, l, g, cap, h1, rfl, rfl, HLL, HR, HB, HK, hz⟩ := hrel
    have HX := Lib.hid (box_kept HK.out (new_heap w _))
    obtain ⟨c0, c1, c2, c3⟩ := box_heap_cells HX.out
    have hll : l.length ≤ 1 + 3 * 32 := by
      have := flatMap_pB_length (s.data.toList.take j)
      have := List.length_take_le j s.data.toList
      rw [HLL.out, List.length_cons]
      omega
    by_cases hlt : j < s.size
    · have HT := Lib.hid (take_snoc s j hlt)
      have h0 : 0 ≤ (s[j].toNat : Int) := by omega
      have hc1 : (s[j].toNat : Int) < 256 := by have := s[j].toNat_lt; omega
      have e1 : (s[j].toNat : Int) / 16 < 16 := by omega
      have e2 : 0 ≤ (s[j].toNat : Int) / 16 := by omega
      have e3 : (s[j].toNat : Int) % 16 < 16 := by omega
      have e4 : 0 ≤ (s[j].toNat : Int) % 16 := by omega
      have hw1 : IntKind.u8.wrap ((s[j].toNat : Int) / 16) = (s[j].toNat : Int) / 16 := by simp [IntKind.wrap, IntKind.signed, IntKind.bits]; omega
      have hw2 : (s[j].toNat : Int).tmod 16 = (s[j].toNat : Int) % 16 := Int.tmod_eq_emod_of_nonneg h0
      by_cases he : esc s[j] = true
      · have F3 : Hid (∀ (ha : ((s[j].toNat : Int) / 16).toNat < digS.size) (hb : ((s[j].toNat : Int) % 16).toNat < digS.size), [37, digS[((s[j].toNat : Int) / 16).toNat]'ha, digS[((s[j].toNat : Int) % 16).toNat]'hb] = pB s[j]) := Lib.hid (by
          intro ha hb
          rw [dig_at _ (by omega), dig_at _ (by omega), pB, if_pos he]
          have q1 : ((s[j].toNat : Int) / 16).toNat = s[j].toNat / 16 := by omega
          have q2 : ((s[j].toNat : Int) % 16).toNat = s[j].toNat % 16 := by omega
          rw [q1, q2])
        have hc : (s[j].toNat : Int) < 33 ∨ (¬ (s[j].toNat : Int) < 33 ∧ 126 < (s[j].toNat : Int)) ∨ (¬ (s[j].toNat : Int) < 33 ∧ ¬ 126 < (s[j].toNat : Int) ∧ ((s[j].toNat : Int) == 39) = true) ∨ (¬ (s[j].toNat : Int) < 33 ∧ ¬ 126 < (s[j].toNat : Int) ∧ ((s[j].toNat : Int) == 39) = false ∧ ((s[j].toNat : Int) == 37) = true) := by
          have := of_decide_eq_true he
          simp only [beq_iff_eq, beq_eq_false_iff_ne, ne_eq]
          omega
        clear he
        rcases hc with a1 | ⟨a1, a2⟩ | ⟨a1, a2, a3⟩ | ⟨a1, a2, a3, a4⟩
        all_goals
          go_wp2_with fail
          go_region_law ((refine step_app3 (w := wr) rfl (.tmp 38) (.tmp 45) (by rfl) w.heap.size l _ (by rfl) HR.out hz (by omega) 37 _ _ (by rfl) ?_; intro g3 cap3 w3 ho3 hb3 hk3))
          all_goals go_wp2
          all_goals
            go_roundw
            case rel =>
              have hz3 := hb3.size
              rw [F3.out] at ho3
              have hlen : (l ++ pB s[j]).length = l.length + 3 := by rw [← F3.out (show ((s[j].toNat : Int) / 16).toNat < 16 by omega) (show ((s[j].toNat : Int) % 16).toNat < 16 by omega)]; simp
              refine ⟨j + 1, l ++ pB s[j], g3, cap3, by omega, by go_num, by rw [hlen], Lib.hid ?_, Lib.hid (by rw [hlen]; exact ho3), Lib.hid (HB.out.trans hb3), Lib.hid (HK.out.trans hk3), by omega⟩
              rw [HT.out, List.flatMap_append, HLL.out]
              simp
            case measure => simp [intOf]; omega
      · have F1 : Hid ([s[j]] = pB s[j]) := Lib.hid (by rw [pB, if_neg he])
        have hc : ¬ (s[j].toNat : Int) < 33 ∧ ¬ 126 < (s[j].toNat : Int) ∧ ((s[j].toNat : Int) == 39) = false ∧ ((s[j].toNat : Int) == 37) = false := by
          have := of_decide_eq_false (p := ((s[j].toNat : Int) < 33 ∨ 126 < (s[j].toNat : Int) ∨ (s[j].toNat : Int) = 39 ∨ (s[j].toNat : Int) = 37)) (Bool.eq_false_iff.2 he)
          simp only [beq_eq_false_iff_ne, ne_eq]
          omega
        clear he
        obtain ⟨a1, a2, a3, a4⟩ := hc
        go_wp2_with (at_builtin; refine wp_app1 rfl _ _ rfl w.heap.size l _ rfl HR.out hz (by omega) s[j] _ rfl rfl ?_)
        intro g3 cap3 w3 ho3 hb3 hk3
        go_wp2
        go_roundw
        case rel =>
          have hz3 := hb3.size
          refine ⟨j + 1, l ++ [s[j]], g3, cap3, by omega, by go_num, by simp, Lib.hid ?_, Lib.hid (by rw [List.length_append]; exact ho3), Lib.hid (HB.out.trans hb3), Lib.hid (HK.out.trans hk3), by omega⟩
          rw [HT.out, List.flatMap_append, HLL.out]
          simpa using F1.out
        case measure => simp [intOf]; omega
    · go_wp2_with (at_builtin; refine wp_app1 rfl _ _ rfl w.heap.size l _ rfl HR.out hz (by omega) 39 39 rfl rfl ?_)
      intro g3 cap3 w3 ho3 hb3 hk3
      have e2 : l ++ [39] = pText s.data.toList := by
        rw [HLL.out, List.take_of_length_le (by have := HSL.out; omega)]
        simp [pText]
      have hcv : (convert 42 9 (.slice (some ⟨g3, 0, none⟩) (l.length + 1) cap3)).run Tryd.prog w3 = .ok (.string ⟨(pText s.data.toList).toArray⟩) w3 := by
        have := conv_row _ _ _ _ (l ++ [39]) (by rw [List.length_append]; exact ho3)
        rw [List.length_append, e2] at this
        exact this
      have HB3 := Lib.hid (HB.out.trans hb3)
      clear ho3 hb3 hk3 e2
      go_wp2
      go_ret
      exact ⟨rfl, HB3.out⟩

/-- The text of one that is no list. -/
theorem rtext_any (k n : Int) (s : ByteArray) (a : Option Addr) (ll lc : Nat) (w : World) (hL : Laid w) (hok : itemOk k n s 0 = true) (hn : I64 n) :
    Calls Tryd.prog 60 #[.agg #[.int .i64 k, .int .i64 n, .string s, .slice a ll lc]] w fun e w' => e = .returned (.string ⟨(itemT k n s).toArray⟩) ∧ Below w.heap.size w w' := by
  have hk := item_kind (x := ⟨k, n, s, none, 0, 0⟩) hok
  obtain ⟨h1 | h1, h2⟩ := hk
  · have h1' : k = 1 := h1
    subst h1'
    have := rtext_int n s a ll lc w hL hn
    simpa [itemT] using this
  · have h1' : k = 2 := h1
    subst h1'
    have := rtext_text n s a ll lc w h2
    simpa [itemT] using this

set_option maxHeartbeats 1600000 in
/-- The text of a datum that may be. -/
theorem rText_any (k n : Int) (s : ByteArray) (a : Option Addr) (xs : List It) (lc : Nat) (w : World) (hL : Laid w) (hS : Sl w a xs) (hok : dOk k n s xs = true) (hn : I64 n) (hns : AllI xs) :
    Calls Tryd.prog 43 #[.agg #[.int .i64 k, .int .i64 n, .string s, .slice a xs.length lc]] w fun e w' => e = .returned (.string ⟨(datT k n s xs).toArray⟩) ∧ Below w.heap.size w w' := by
  have HS := Lib.hid hS; have HLD := Lib.hid hL; clear hS hL
  have HN := Lib.hid hn; have HNS := Lib.hid hns; clear hn hns
  have hsix := HLD.out.six
  obtain ⟨L, hL⟩ : ∃ L, L = datT k n s xs := ⟨_, rfl⟩
  rw [← hL]
  by_cases hk : k = 3
  · subst hk
    rw [show dOk 3 n s xs = listOk n s xs from by simp [dOk]] at hok
    obtain ⟨hq0, hq1, hlen, hall⟩ := listOk_parts hok
    have HA := Lib.hid hall; clear hall hok hq0 hq1
    obtain ⟨ll, hll⟩ : ∃ ll, ll = xs.length := ⟨_, rfl⟩
    rw [← hll] at hlen ⊢
    have HL := Lib.hid hll; have HLL := Lib.hid hL; clear hll hL
    go_enter Tryd.func43, Tryd.ntmps43
    go_wp2
    go_loopw [3, 4] (fun o i wr => ∃ (j : Nat) (l : List UInt8), j ≤ ll ∧ i = .int .i64 j ∧ o = .string ⟨l.toArray⟩ ∧ Hid (l = 91 :: commaT (xs.take j)) ∧ Hid (Below (w.heap.size + 1) (w.alloc (.cells #[.int .i64 3, .int .i64 n, .string s, .slice a ll lc] 24)) wr)) (fun _ i _ => ll - (intOf i).toNat)
    case atStart => exact ⟨0, [91], by omega, rfl, rfl, Lib.hid (by simp [commaT]), Lib.hid (Below.refl _ _)⟩
    case round =>
      obtain ⟨j, l, hj, rfl, rfl, HQ, HB⟩ := hrel
      obtain ⟨c0, c1, c2, c3⟩ := box_cells HB.out
      have hz := HB.out.size
      simp only [World.size_alloc] at hz
      have hlen2 : l.length ≤ 1 + 99 * j := by
        have := commaT_length (xs.take j) (fun x hx => ⟨HA.out x (List.mem_of_mem_take hx), HNS.out x (List.mem_of_mem_take hx)⟩)
        have := List.length_take_le j xs
        rw [HQ.out]
        simp only [List.length_cons]
        omega
      have HBW := Lib.hid (below_al _ (by simpa using HB.out))
      by_cases hlt : j < ll
      · have hlt' : j < xs.length := by rw [← HL.out]; exact hlt
        obtain ⟨b, off, rfl, hbw, hc⟩ := (HS.out.below HBW.out (Nat.le_refl _)).at hlt'
        obtain ⟨e0, e1, e2, e3⟩ := hc j hlt'
        clear hc
        have hokj : (xs[j]'hlt').ok = true := HA.out _ (List.getElem_mem _)
        have HOKJ : Hid (itemOk (xs[j]'hlt').k (xs[j]'hlt').n (xs[j]'hlt').s 0 = true) := Lib.hid (by
          have := itemOk_true hokj
          exact itemOk_of ⟨by omega, this.2⟩)
        have HNJ : Hid (I64 (xs[j]'hlt').n) := Lib.hid (HNS.out _ (List.getElem_mem _))
        clear hokj
        have hil := itemT_length (xs[j]'hlt').k (xs[j]'hlt').n (xs[j]'hlt').s HNJ.out (item_kind (x := ⟨(xs[j]'hlt').k, (xs[j]'hlt').n, (xs[j]'hlt').s, none, 0, 0⟩) HOKJ.out).2
        have HJ := Lib.hid (show commaT (xs.take (j + 1)) = if xs.take j = [] then itemT (xs[j]'hlt').k (xs[j]'hlt').n (xs[j]'hlt').s else commaT (xs.take j) ++ [44] ++ itemT (xs[j]'hlt').k (xs[j]'hlt').n (xs[j]'hlt').s by rw [List.take_succ_eq_append_getElem hlt', commaT_snoc])
        by_cases hj0 : 0 < j
        · have hq : ¬ 9223372036854775807 < l.length + 1 + (itemT (xs[j]'hlt').k (xs[j]'hlt').n (xs[j]'hlt').s).length := by omega
          go_wp2_with fail
          refine (rtext_any _ _ _ _ _ _ _ (HLD.out.below HBW.out hsix) HOKJ.out HNJ.out).mono ?_
          rintro e w3 ⟨rfl, hb3⟩
          have HB3 := Lib.hid (below_then HB.out (by simp) hb3); clear hb3
          go_wp2
          go_roundw
          case rel =>
            refine ⟨j + 1, l ++ [44] ++ itemT (xs[j]'hlt').k (xs[j]'hlt').n (xs[j]'hlt').s, by omega, by go_num, by rw [← bytes_app, ← bytes_app], Lib.hid ?_, HB3⟩
            rw [HJ.out, if_neg (by intro h; have := congrArg List.length h; rw [List.length_take, List.length_nil] at this; omega), HQ.out]
            simp
          case measure => simp [intOf]; omega
        · have hq : ¬ 9223372036854775807 < l.length + (itemT (xs[j]'hlt').k (xs[j]'hlt').n (xs[j]'hlt').s).length := by omega
          go_wp2_with fail
          refine (rtext_any _ _ _ _ _ _ _ (HLD.out.below HBW.out hsix) HOKJ.out HNJ.out).mono ?_
          rintro e w3 ⟨rfl, hb3⟩
          have HB3 := Lib.hid (below_then HB.out (by simp) hb3); clear hb3
          go_wp2
          go_roundw
          case rel =>
            refine ⟨j + 1, l ++ itemT (xs[j]'hlt').k (xs[j]'hlt').n (xs[j]'hlt').s, by omega, by go_num, by rw [← bytes_app], Lib.hid ?_, HB3⟩
            obtain rfl : j = 0 := by omega
            rw [HJ.out, if_pos (List.take_zero), HQ.out]
            simp [commaT]
          case measure => simp [intOf]; omega
      · have hq : ¬ 9223372036854775807 < l.length + 1 := by omega
        go_wp2
        go_ret
        refine ⟨?_, HBW.out⟩
        have e : l ++ [93] = L := by
          rw [HQ.out, HLL.out, List.take_of_length_le (by have := HL.out; omega)]
          simp [datT]
        rw [← e, ← bytes_app]
        rfl
  · have hit := items_none hok hk
    obtain ⟨rfl, hit⟩ := hit
    have HIT := Lib.hid hit; have HLL := Lib.hid hL; clear hit hok hL
    go_enter Tryd.func43, Tryd.ntmps43
    go_wp2_with fail
    refine (rtext_any _ _ _ _ _ _ _ (HLD.out.below ((Below.refl _ _).alloc (Nat.le_refl _) _) hsix) HIT.out HN.out).mono ?_
    rintro e w3 ⟨rfl, hb3⟩
    go_wp2
    go_ret
    exact ⟨by rw [HLL.out, datT, if_neg hk]; rfl, below_al _ hb3⟩

set_option maxHeartbeats 800000 in
theorem rprint_ok (k n : Int) (s : ByteArray) (a : Option Addr) (xs : List It) (lc : Nat) (w : World) (hL : Laid w) (hS : Sl w a xs) (h : dOk k n s xs = true) (hn : I64 n) (hns : AllI xs) :
    Calls Tryd.prog 20 #[.agg #[.int .i64 k, .int .i64 n, .string s, .slice a xs.length lc]] w fun e w' => e = .returned (.tuple #[.string ⟨(datT k n s xs).toArray⟩, .int .i64 0]) ∧ Below w.heap.size w w' := by
  have HS := Lib.hid hS; have HF := Lib.hid h; have HN := Lib.hid hn; have HNS := Lib.hid hns; have HLD := Lib.hid hL; clear hS h hn hns hL
  go_enter Tryd.func20, Tryd.ntmps20
  go_wp2_with fail
  refine (may_ok _ _ _ _ _ _ _ (HS.out.below ((Below.refl _ _).alloc (Nat.le_refl _) _) (Nat.le_refl _)) HF.out).mono ?_
  rintro e w1 ⟨rfl, hb1⟩
  obtain ⟨c0, c1, c2, c3⟩ := box_cells (by simpa using hb1)
  have HB1 := Lib.hid (below_al _ hb1)
  clear hb1
  go_wp2_with fail
  refine (rText_any _ _ _ _ _ _ _ (HLD.out.below HB1.out HLD.out.six) (HS.out.below HB1.out (Nat.le_refl _)) HF.out HN.out HNS.out).mono ?_
  rintro e w2 ⟨rfl, hb2⟩
  go_wp2
  go_ret2
  exact ⟨rfl, below_then HB1.out (Nat.le_refl _) hb2⟩

set_option maxHeartbeats 400000 in
theorem rprint_no (k n : Int) (s : ByteArray) (a : Option Addr) (xs : List It) (lc : Nat) (w : World) (hS : Sl w a xs) (h : dOk k n s xs = false) :
    Calls Tryd.prog 20 #[.agg #[.int .i64 k, .int .i64 n, .string s, .slice a xs.length lc]] w fun e w' => e = .returned (.tuple #[.string ⟨#[]⟩, .int .i64 11]) ∧ Below w.heap.size w w' := by
  have HS := Lib.hid hS; have HF := Lib.hid h; clear hS h
  go_enter Tryd.func20, Tryd.ntmps20
  go_wp2_with fail
  refine (may_no _ _ _ _ _ _ _ (HS.out.below ((Below.refl _ _).alloc (Nat.le_refl _) _) (Nat.le_refl _)) HF.out).mono ?_
  rintro e w1 ⟨rfl, hb1⟩
  go_wp2
  go_ret2
  exact ⟨rfl, below_al _ hb1⟩
end Go.Proofs.YtoiahhfjejddjaaDoor
