/- The contract of the reference's one: what the bytes hold from a place on; other memory stands. -/
import Derived.Test.YtoiahhfjejddjaaDoorV
set_option maxRecDepth 100000
namespace Go.Proofs.YtoiahhfjejddjaaDoor
open Go Go.RowKit

theorem txF_plain' {c : UInt8} {r acc : List UInt8} {i : Nat} (hc : c ≠ 0) : txF (c :: r) acc i = txF r (acc ++ [c]) (i + 1) := by
  by_cases h : acc.length ≤ 32
  · exact txF_plain h hc
  · rw [txF_full (by omega), txF_full (by simp; omega)]
theorem txF_nought' {r acc : List UInt8} {i : Nat} : txF (0 :: 255 :: r) acc i = txF r (acc ++ [0]) (i + 2) := by
  by_cases h : acc.length ≤ 32
  · exact txF_nought h
  · rw [txF_full (by omega), txF_full (by simp; omega)]
/-- How the reference tells an item that was read from a place on. -/
def resO (at' : Nat) : Option ((Int × Int × ByteArray) × Nat) → Value
  | none => .tuple #[.agg #[.int .i64 0, .int .i64 0, .string ⟨#[]⟩, .slice none 0 0], .int .i64 (-1)]
  | some ((k, n, t), m) => .tuple #[.agg #[.int .i64 k, .int .i64 n, .string t, .slice none 0 0], .int .i64 ((at' + m : Nat) : Int)]

/-- One byte more, on a row however long. -/
theorem wp_app1w {ops : Array Oper} {rest : List Oper} {o : Oper} {a : Act} {Q : Exit → Act → World → Prop} {w : World} (hgd : o.guard = none) (s x : Operand)
    (ho : o.op = .call { callee := .builtin .append, args := #[s, x], argTypes := #[42, 42] }) (B : Nat) (acc : List UInt8) (v : Value) (hs : a.eval s = v) (hown : Row B w v acc) (hB : B ≤ w.heap.size) (hlen : acc.length + 1 ≤ 140737488355328)
    (u : UInt8) (c : Int) (hc : c = (u.toNat : Int)) (hx : a.eval x = .slice (some ⟨w.heap.size, 0, none⟩) 1 1)
    (h : ∀ g cap w', Row B w' (.slice (some ⟨g, 0, none⟩) (acc.length + 1) cap) (acc ++ [u]) → Below B w w' → wpList Tryd.prog ops Q rest (a.put o.dst (.slice (some ⟨g, 0, none⟩) (acc.length + 1) cap)) w') :
    wpList Tryd.prog ops Q (o :: rest) a (w.alloc (.cells #[.int .u8 c] 5)) := by
  subst hc
  obtain ⟨i0, hi, q0, q1, q2⟩ := info_parts infoByte
  refine wpList_append_own _ hgd s x 42 ho B 5 i0 (.int .u8 0) 1 1 Tryd.underlying42 hi q0 q1 q2 rfl (by decide) v acc.length (Lib.byteCells acc) hs (hown.alloc _) ⟨w.heap.size, 0, none⟩ 1 1 [.int .u8 (u.toNat : Int)] hx rfl ?_ ?_ (by unfold maxLen; omega) (by omega) (by rw [World.size_alloc]; omega) ?_
  · intro j u' hj
    match j, hj with
    | 0, hj => simp at hj; subst hj; simp [Addr.add]
  · intro u' hu; simp at hu; subst hu; rfl
  · intro v' w' hown' hgrow _
    obtain ⟨g, cap, rfl⟩ : ∃ g cap, v' = .slice (some ⟨g, 0, none⟩) (acc.length + 1) cap := by
      rcases hown'.2 with ⟨_, h0⟩ | ⟨g, cap, cur, hv, _⟩
      · omega
      · exact ⟨g, cap, hv⟩
    refine h g cap w' ?_ ?_
    · show w'.ownsRow B 5 1 _ (acc ++ [u]).length (Lib.byteCells (acc ++ [u]))
      rw [List.length_append, Lib.byteCells_append, oneByte]
      exact hown'
    · exact ((Below.refl _ _).alloc hB _).grown hgrow (by rw [World.size_alloc]; omega) (fun k hk => (hown.lt k hk).1)

set_option maxHeartbeats 3200000 in
theorem one_text (s : ByteArray) (at' : Nat) (w : World) (hs : s.size ≤ 140737488355000) (hat : at' < s.size) (h2 : s[at'] = 2) : Calls Tryd.prog 46 #[.string s, .int .i64 at'] w fun e w' => e = .returned (resO at' (itF (s.data.toList.drop at'))) ∧ Below w.heap.size w w' := by
  have HLEN := Lib.hid (toList_size s)
  have HIT : Hid (itF (s.data.toList.drop at') = (txF (s.data.toList.drop (at' + 1)) [] 1).map fun p => ((2, 0, ⟨p.1.toArray⟩), p.2)) := Lib.hid (by
    have hd : s.data.toList.drop at' = s[at'] :: s.data.toList.drop (at' + 1) := List.drop_eq_getElem_cons (by have := HLEN.out; omega)
    rw [hd, h2, itF, if_neg (by decide), if_pos rfl])
  have b1 : ((s[at'].toNat : Int) == 1) = false := by rw [h2]; rfl
  have b2 : ((s[at'].toNat : Int) != 2) = false := by rw [h2]; rfl
  have hat2 : ¬ ((s.size : Int) ≤ (at' : Int)) := by omega
  have hat3 : (at' : Int) < (s.size : Int) := by omega
  clear h2
  go_enter Tryd.func46, Tryd.ntmps46
  go_wp2
  go_loopw [5, 10, 11] (fun _ vo vi wr => ∃ (j : Nat) (acc : List UInt8) (v : Value), vo = v ∧ at' + 1 ≤ j ∧ j ≤ s.size ∧ vi = .int .i64 j ∧ acc.length ≤ j ∧ Hid (Row (w.heap.size + 1 + 1) wr v acc) ∧ (acc = [] ∧ v = .slice none 0 0 ∨ ∃ g cap, v = .slice (some ⟨g, 0, none⟩) acc.length cap) ∧ w.heap.size + 1 + 1 ≤ wr.heap.size ∧ Hid (Below (w.heap.size + 1 + 1) ((w.alloc (.cells #[.int .i64 0, .int .i64 0, .string ⟨#[]⟩, .slice none 0 0] 24)).alloc (.cells #[.int .i64 0, .int .i64 0, .string ⟨#[]⟩, .slice none 0 0] 24)) wr) ∧ Hid (txF (s.data.toList.drop (at' + 1)) [] 1 = txF (s.data.toList.drop j) acc (j - at'))) (fun _ _ i _ => s.size - (intOf i).toNat)
  case atStart => exact ⟨at' + 1, [], _, rfl, Nat.le_refl _, by omega, by go_num, by simp, Lib.hid (World.ownsRow_nil _ _ _ _), .inl ⟨rfl, rfl⟩, by simp, Lib.hid (Below.refl _ _), Lib.hid (by rw [show at' + 1 - at' = 1 by omega])⟩
  case round =>
    obtain ⟨j, acc, v, hv, hj1, hj, rfl, hacc, HR, hform, hsz, HB, HC⟩ := hrel
    have hv' := hv.symm
    clear hv
    subst hv'
    obtain ⟨⟨c0, c1, c2, c3⟩, d0, d1, d2, d3⟩ := box_cells2 HB.out
    have HB0 : Hid (Below (w.heap.size + 1) (w.alloc (.cells #[.int .i64 0, .int .i64 0, .string ⟨#[]⟩, .slice none 0 0] 24)) wr) := Lib.hid (((Below.refl _ _).alloc (by simp) _).trans (HB.out.mono (by omega)))
    obtain ⟨f0, f1, f2, f3⟩ := box_frozen HB0.out
    have HBW : Hid (Below w.heap.size w wr) := Lib.hid (below_al _ (by simpa using HB0.out))
    obtain ⟨va, vc, rfl, HCV⟩ : ∃ va vc, v = .slice va acc.length vc ∧ Hid ((convert 42 9 (.slice va acc.length vc)).run Tryd.prog wr = .ok (.string ⟨acc.toArray⟩) wr) := by
      rcases hform with ⟨rfl, rfl⟩ | ⟨g, cap, rfl⟩
      · exact ⟨none, 0, rfl, Lib.hid (by rw [List.length_nil, run_convert_bytes_string wr 42 9 5 none 0 0 Tryd.underlying42 Tryd.underlying5 Tryd.underlying9]; rfl)⟩
      · exact ⟨_, cap, rfl, Lib.hid (conv_row _ _ _ _ _ HR.out)⟩
    clear hform
    by_cases hlt : j < s.size
    · have hlt' : j < s.data.toList.length := hlt
      have hd : s.data.toList.drop j = s[j] :: s.data.toList.drop (j + 1) := List.drop_eq_getElem_cons hlt'
      by_cases h0 : s[j] = 0
      · have b0 : ((s[j].toNat : Int) != 0) = false := by rw [h0]; rfl
        have HD := Lib.hid hd; have H0 := Lib.hid h0; clear hd h0
        by_cases hend : j + 1 < s.size
        · have hd2 : s.data.toList.drop (j + 1) = s[j + 1] :: s.data.toList.drop (j + 1 + 1) := List.drop_eq_getElem_cons (by have := HLEN.out; omega)
          by_cases g1 : s[j + 1] = 255
          · have b2 : ((s[j + 1].toNat : Int) == 255) = true := by rw [g1]; rfl
            have HN : Hid (txF (s.data.toList.drop (at' + 1)) [] 1 = txF (s.data.toList.drop (j + 2)) (acc ++ [0]) (j + 2 - at')) := Lib.hid (by
              rw [HC.out, HD.out, hd2, H0.out, g1, txF_nought', show j - at' + 2 = j + 2 - at' by omega])
            clear hd2 g1
            go_wp2_with (at_builtin; refine wp_app1w rfl _ _ rfl (w.heap.size + 1 + 1) acc _ rfl HR.out hsz (by omega) 0 0 rfl rfl ?_)
            intro g cap w1 ho1 hb1
            have hz1 := hb1.size
            go_wp2
            go_roundw
            case rel => exact ⟨j + 2, acc ++ [0], _, rfl, by omega, by omega, by go_num, by simp; omega, Lib.hid ho1, .inr ⟨g, cap, by simp⟩, by omega, Lib.hid (HB.out.trans hb1), HN⟩
            case measure => simp [intOf]; omega
          · have b2 : ((s[j + 1].toNat : Int) == 255) = false := u8_not (c := 255) g1
            by_cases g0 : s[j + 1] = 0
            · have b3 : ((s[j + 1].toNat : Int) == 0) = true := by rw [g0]; rfl
              by_cases ha : acc.length ≤ 32
              · have HN : Hid (itF (s.data.toList.drop at') = some ((2, 0, ⟨acc.toArray⟩), j + 2 - at')) := Lib.hid (by
                  rw [HIT.out, HC.out, HD.out, hd2, H0.out, g0, txF_end ha, show j - at' + 2 = j + 2 - at' by omega]
                  rfl)
                clear hd2 g1 g0
                have hcv := HCV.out
                go_wp2_with fail
                refine bodyPost_ret (v := .tuple #[.agg #[.int .i64 2, .int .i64 0, .string ⟨acc.toArray⟩, .slice none 0 0], .int .i64 ((j + 2 : Nat) : Int)]) (by simp [results, Tryd.results46, go_sem, c0, c1, c2, c3]) rfl ⟨by rw [HN.out, resO, show at' + (j + 2 - at') = j + 2 by omega], below_res HBW.out⟩
              · have HN : Hid (itF (s.data.toList.drop at') = none) := Lib.hid (by
                  rw [HIT.out, HC.out, txF_full (by omega)]
                  rfl)
                clear hd2 g1 g0
                go_wp2_with fail
                exact bodyPost_ret (v := .tuple #[.agg #[.int .i64 0, .int .i64 0, .string ⟨#[]⟩, .slice none 0 0], .int .i64 (-1)]) (by simp [results, Tryd.results46, go_sem, c0, c1, c2, c3]) rfl ⟨by rw [HN.out]; rfl, below_res HBW.out⟩
            · have b3 : ((s[j + 1].toNat : Int) == 0) = false := u8_not (c := 0) g0
              have HN : Hid (itF (s.data.toList.drop at') = none) := Lib.hid (by
                rw [HIT.out, HC.out, HD.out, hd2, H0.out, txF_bad g0 g1]
                rfl)
              clear hd2 g1 g0
              go_wp2_with fail
              exact bodyPost_ret (v := .tuple #[.agg #[.int .i64 0, .int .i64 0, .string ⟨#[]⟩, .slice none 0 0], .int .i64 (-1)]) (by simp [results, Tryd.results46, go_sem, c0, c1, c2, c3]) rfl ⟨by rw [HN.out]; rfl, below_res HBW.out⟩
        · have HN : Hid (itF (s.data.toList.drop at') = none) := Lib.hid (by
            rw [HIT.out, HC.out, HD.out, List.drop_eq_nil_of_le (by have := HLEN.out; omega)]
            rfl)
          go_wp2_with fail
          exact bodyPost_ret (v := .tuple #[.agg #[.int .i64 0, .int .i64 0, .string ⟨#[]⟩, .slice none 0 0], .int .i64 (-1)]) (by simp [results, Tryd.results46, go_sem, c0, c1, c2, c3]) rfl ⟨by rw [HN.out]; rfl, below_res HBW.out⟩
      · have b0 : ((s[j].toNat : Int) != 0) = true := by
          have := u8_not (c := 0) h0
          rw [bne, show (0 : Int) = ((0 : UInt8).toNat : Int) from rfl, this]
          rfl
        have HN : Hid (txF (s.data.toList.drop (at' + 1)) [] 1 = txF (s.data.toList.drop (j + 1)) (acc ++ [s[j]]) (j + 1 - at')) := Lib.hid (by
          rw [HC.out, hd, txF_plain' h0, show j - at' + 1 = j + 1 - at' by omega])
        clear hd h0
        go_wp2_with (at_builtin; refine wp_app1w rfl _ _ rfl (w.heap.size + 1 + 1) acc _ rfl HR.out hsz (by omega) s[j] _ rfl rfl ?_)
        intro g cap w1 ho1 hb1
        have hz1 := hb1.size
        go_wp2
        go_roundw
        case rel => exact ⟨j + 1, acc ++ [s[j]], _, rfl, by omega, by omega, by go_num, by simp; omega, Lib.hid ho1, .inr ⟨g, cap, by simp⟩, by omega, Lib.hid (HB.out.trans hb1), HN⟩
        case measure => simp [intOf]; omega
    · have HN : Hid (itF (s.data.toList.drop at') = none) := Lib.hid (by
        rw [HIT.out, HC.out, List.drop_eq_nil_of_le (by have := HLEN.out; omega)]
        rfl)
      go_wp2_with fail
      exact bodyPost_ret (v := .tuple #[.agg #[.int .i64 0, .int .i64 0, .string ⟨#[]⟩, .slice none 0 0], .int .i64 (-1)]) (by simp [results, Tryd.results46, go_sem, c0, c1, c2, c3]) rfl ⟨by rw [HN.out]; rfl, below_res HBW.out⟩
end Go.Proofs.YtoiahhfjejddjaaDoor
