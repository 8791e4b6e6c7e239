/- The contract of the reference's read at quoted texts. -/
import Derived.Test.YtoiahhfjejddjaaDoorRF
import Derived.Test.YtoiahhfjejddjaaDoorQ
import Derived.Test.YtoiahhfjejddjaaDoorA
import Derived.Deep.RegionHeld3
set_option maxRecDepth 100000
namespace Go.Proofs.YtoiahhfjejddjaaDoor
open Go Go.RowKit

/-- One byte more, on a row however long, at a step of a region that draws. -/
theorem step_app1w {ops : Array Oper} {o : Oper} {a : Act} {K : Act → World → Prop} {Q : Exit → Act → World → Prop} {E : Prop} {w : World} (hgd : o.guard = none) (s x : Operand)
    (ho : o.op = .call { callee := .builtin .append, args := #[s, x], argTypes := #[42, 42] }) (B : Nat) (acc : List UInt8) (v : Value) (hs : a.eval s = v) (hown : Row B w v acc) (hB : B ≤ w.heap.size) (hlen : acc.length + 1 ≤ 140737488355328)
    (u : UInt8) (c : Int) (hc : c = (u.toNat : Int)) (hx : a.eval x = .slice (some ⟨w.heap.size, 0, none⟩) 1 1)
    (h : ∀ g cap w', Row B w' (.slice (some ⟨g, 0, none⟩) (acc.length + 1) cap) (acc ++ [u]) → Below B w w' → K (a.put o.dst (.slice (some ⟨g, 0, none⟩) (acc.length + 1) cap)) w') :
    if Region.wanted o (yielded ops a.tmps) = true then Oper.wp Tryd.prog o a (w.drew.alloc (.cells #[.int .u8 c] 5)) K Q else E := by
  have hw : Region.wanted o (yielded ops a.tmps) = true := by simp [Region.wanted, hgd]
  rw [if_pos hw]
  subst hc
  have hown2 : Row B w.drew v acc := hown
  obtain ⟨i0, hi, q0, q1, q2⟩ := info_parts infoByte
  refine wp_append_own _ s x 42 ho B 5 i0 (.int .u8 0) 1 1 Tryd.underlying42 hi q0 q1 q2 rfl (by decide) v acc.length (Lib.byteCells acc) hs (hown2.alloc _) ⟨w.heap.size, 0, none⟩ 1 1 [.int .u8 (u.toNat : Int)] hx rfl ?_ ?_ (by unfold maxLen; omega) (by omega) (by rw [World.size_alloc]; show B ≤ w.heap.size + 1; omega) ?_
  · intro j u' hj
    have hq : j = 0 := by have := (List.getElem?_eq_some_iff.1 hj).1; simp at this; exact this
    subst hq
    show (w.alloc _).cell? _ = _
    simp at hj; subst hj; simp [Addr.add]
  · intro u' hu; simp at hu; subst hu; rfl
  · intro v' w' hown' hgrow _
    obtain ⟨g, cap, rfl⟩ : ∃ g cap, v' = .slice (some ⟨g, 0, none⟩) (acc.length + 1) cap := by
      rcases hown'.2 with ⟨_, h0⟩ | ⟨g, cap, cur, hv, _⟩
      · omega
      · exact ⟨g, cap, hv⟩
    refine h g cap w' ?_ ?_
    · show w'.ownsRow B 5 1 _ (acc ++ [u]).length (Lib.byteCells (acc ++ [u]))
      rw [List.length_append, Lib.byteCells_append, oneByte]
      exact hown'
    · exact (Below.refl B w).drew.trans (((Below.refl B w.drew).alloc (show B ≤ w.heap.size from hB) _).grown hgrow (by rw [World.size_alloc]; show B ≤ w.heap.size + 1; omega) (fun k hk => (hown2.lt k hk).1))

theorem quot_no {s : List UInt8} (h39 : s.head? = some 39) (h : ∀ t, t.length ≤ 32 → s ≠ pText t) : ∀ k n t, itemOk k n t 0 = true → I64 n → itemT k n t ≠ s := by
  intro k n t hok hn he
  unfold itemT at he
  split at he
  · obtain ⟨c, r, hi, hc, _⟩ := itoa_head n
    rw [← he, hi] at h39
    simp at h39
    exact hc h39
  · refine h t.data.toList ?_ he.symm
    rcases (itemOk_true hok).2 with ⟨h1, _⟩ | ⟨_, _, h2⟩
    · exact absurd h1 (by assumption)
    · have : t.data.toList.length = t.size := rfl
      omega

theorem held15 {w0 w1 w2 : World} {b q : Nat} {v0 v1 v2 v3 u0 u1 u2 u3 : Value}
    (h : w1.cell? ⟨b, 0, none⟩ = some v0 ∧ w1.cell? ⟨b, 1, none⟩ = some v1 ∧ w1.cell? ⟨b, 2, none⟩ = some v2 ∧ w1.cell? ⟨b, 3, none⟩ = some v3 ∧ w1.cell? ⟨q, 0, none⟩ = some u0 ∧ w1.cell? ⟨q, 1, none⟩ = some u1 ∧ w1.cell? ⟨q, 2, none⟩ = some u2 ∧ w1.cell? ⟨q, 3, none⟩ = some u3 ∧
      w1.frozen? ⟨q, 0, none⟩ = false ∧ w1.frozen? ⟨q, 1, none⟩ = false ∧ w1.frozen? ⟨q, 2, none⟩ = false ∧ w1.frozen? ⟨q, 3, none⟩ = false ∧ Below (b + 1) w0 w1 ∧ b < w1.heap.size ∧ q < b) (hb : Below w1.heap.size w1 w2) :
    w2.cell? ⟨b, 0, none⟩ = some v0 ∧ w2.cell? ⟨b, 1, none⟩ = some v1 ∧ w2.cell? ⟨b, 2, none⟩ = some v2 ∧ w2.cell? ⟨b, 3, none⟩ = some v3 ∧ w2.cell? ⟨q, 0, none⟩ = some u0 ∧ w2.cell? ⟨q, 1, none⟩ = some u1 ∧ w2.cell? ⟨q, 2, none⟩ = some u2 ∧ w2.cell? ⟨q, 3, none⟩ = some u3 ∧
      w2.frozen? ⟨q, 0, none⟩ = false ∧ w2.frozen? ⟨q, 1, none⟩ = false ∧ w2.frozen? ⟨q, 2, none⟩ = false ∧ w2.frozen? ⟨q, 3, none⟩ = false ∧ Below (b + 1) w0 w2 ∧ b < w2.heap.size ∧ q < b := by
  obtain ⟨h0, h1, h2, h3, g0, g1, g2, g3, f0, f1, f2, f3, h4, h5, h6⟩ := h
  have hq : q < w1.heap.size := by omega
  refine ⟨(hb.cell (p := ⟨b, 0, none⟩) h5).trans h0, (hb.cell (p := ⟨b, 1, none⟩) h5).trans h1, (hb.cell (p := ⟨b, 2, none⟩) h5).trans h2, (hb.cell (p := ⟨b, 3, none⟩) h5).trans h3,
    (hb.cell (p := ⟨q, 0, none⟩) hq).trans g0, (hb.cell (p := ⟨q, 1, none⟩) hq).trans g1, (hb.cell (p := ⟨q, 2, none⟩) hq).trans g2, (hb.cell (p := ⟨q, 3, none⟩) hq).trans g3,
    (hb.frozen (p := ⟨q, 0, none⟩) hq).trans f0, (hb.frozen (p := ⟨q, 1, none⟩) hq).trans f1, (hb.frozen (p := ⟨q, 2, none⟩) hq).trans f2, (hb.frozen (p := ⟨q, 3, none⟩) hq).trans f3, h4.trans (hb.mono (by omega)), ?_, h6⟩
  have := hb.size
  omega

set_option maxHeartbeats 4000000 in
theorem read_quot (s : ByteArray) (w : World) (hs : s.size ≤ 140737488355000) (h39 : s.data.toList.head? = some 39) : Calls Tryd.prog 49 #[.string s] w (ReadR s.data.toList w) := by
  have HLEN := Lib.hid (toList_size s)
  have H39 := Lib.hid h39
  obtain ⟨r, hl⟩ : ∃ r, s.data.toList = 39 :: r := by
    match hl : s.data.toList with
    | [] => rw [hl] at h39; simp at h39
    | c :: r => rw [hl] at h39; simp at h39; exact ⟨r, by rw [h39]⟩
  have h0 : 0 < s.size := by have := size_cons hl; omega
  have hz2 : s.toList ≠ [] ∧ s.toList.isEmpty = false := by rw [ByteArray.toList_eq, hl]; exact ⟨by simp, rfl⟩
  have hb : ((s[0].toNat : Int) != 39) = false := by rw [first_cons hl h0]; rfl
  clear h39 hl
  go_enter Tryd.func49, Tryd.ntmps49
  go_wp2
  go_loopw [6, 7] (fun vo vi wr => ∃ (j : Nat) (acc : List UInt8) (v : Value), vo = v ∧ 1 ≤ j ∧ j ≤ s.size ∧ vi = .int .i64 j ∧ acc.length ≤ j ∧ Hid (Row (w.heap.size + 1) wr v acc) ∧ (acc = [] ∧ v = .slice none 0 0 ∨ ∃ g cap, v = .slice (some ⟨g, 0, none⟩) acc.length cap) ∧ w.heap.size + 1 ≤ wr.heap.size ∧ Hid (Below (w.heap.size + 1) (w.alloc (.cells #[.int .i64 0, .int .i64 0, .string ⟨#[]⟩, .slice none 0 0] 24)) wr) ∧ Hid (ScanW s.data.toList acc j)) (fun _ vi _ => s.size - (intOf vi).toNat)
  case atStart => exact ⟨1, [], _, rfl, Nat.le_refl _, by omega, by go_num, by simp, Lib.hid (World.ownsRow_nil _ _ _ _), .inl ⟨rfl, rfl⟩, by simp, Lib.hid (Below.refl _ _), Lib.hid ScanW.start⟩
  case round =>
    obtain ⟨j, acc, v, hv, hj1, hj, rfl, hacc, HR, hform, hsz, HB, HC⟩ := hrel
    have hv' := hv.symm
    clear hv
    subst hv'
    obtain ⟨c0, c1, c2, c3⟩ := box_cells HB.out
    obtain ⟨f0, f1, f2, f3⟩ := box_frozen HB.out
    have HBW : Hid (Below w.heap.size w wr) := Lib.hid (below_al _ (by simpa using HB.out))
    obtain ⟨va, vc, rfl, HCV⟩ : ∃ va vc, v = .slice va acc.length vc ∧ Hid ((convert 42 9 (.slice va acc.length vc)).run Tryd.prog wr = .ok (.string ⟨acc.toArray⟩) wr) := by
      rcases hform with ⟨rfl, rfl⟩ | ⟨g, cap, rfl⟩
      · exact ⟨none, 0, rfl, Lib.hid (by rw [List.length_nil, run_convert_bytes_string wr 42 9 5 none 0 0 Tryd.underlying42 Tryd.underlying5 Tryd.underlying9]; rfl)⟩
      · exact ⟨_, cap, rfl, Lib.hid (conv_row _ _ _ _ _ HR.out)⟩
    clear hform
    by_cases hlt : (j : Int) < (s.size : Int) - 1
    · have hlt2 : j + 1 < s.data.toList.length := by have := HLEN.out; omega
      have HLT := Lib.hid hlt2; clear hlt2
      have hjs : j < s.size := by omega
      by_cases h37 : s[j] = 37
      · have b37 : ((s[j].toNat : Int) != 37) = false := by rw [h37]; rfl
        have H37 := Lib.hid h37; clear h37
        by_cases hsh : (s.size : Int) - 1 ≤ (j : Int) + 2
        · have HN := Lib.hid (quot_no H39.out (HC.out.short (by have := HLT.out; omega) H37.out (by have := HLEN.out; omega)))
          go_wp2
          exact bodyPost_ret (v := .tuple #[.agg #[.int .i64 0, .int .i64 0, .string ⟨#[]⟩, .slice none 0 0], .bool false]) (by simp [results, Tryd.results49, go_sem, c0, c1, c2, c3]) rfl ⟨below_res HBW.out, 0, 0, _, false, rfl, ⟨by decide, by decide⟩, (fun h => by cases h), fun _ => HN.out⟩
        · have hj1s : j + 1 < s.size := by omega
          have hj2s : j + 2 < s.size := by omega
          have hsh2 : (j : Int) + 2 < (s.size : Int) - 1 := by omega
          obtain ⟨x1, hx1⟩ : ∃ x1, hexV (s[j + 1]'hj1s) = x1 := ⟨_, rfl⟩
          obtain ⟨x2, hx2⟩ : ∃ x2, hexV (s[j + 2]'hj2s) = x2 := ⟨_, rfl⟩
          have hx1b := hexV_bd (s[j + 1]'hj1s)
          have hx2b := hexV_bd (s[j + 2]'hj2s)
          rw [hx1] at hx1b
          rw [hx2] at hx2b
          have HX1 := Lib.hid hx1
          have HX2 := Lib.hid hx2
          by_cases hneg : x1 < 0 ∨ x2 < 0
          · have HN := Lib.hid (quot_no H39.out (HC.out.bad (by have := HLEN.out; omega) H37.out (by
              rcases hneg with h | h
              · left; have : hexV (s.data.toList[j + 1]'(by have := HLEN.out; omega)) = x1 := HX1.out; omega
              · right; have : hexV (s.data.toList[j + 2]'(by have := HLEN.out; omega)) = x2 := HX2.out; omega)))
            by_cases hn1 : x1 < 0
            · clear hneg
              go_wp2_with (go_at_call 67; refine (digit_any _ _).mono ?_; rintro e w6 ⟨rfl, hw6⟩; subst w6; try rw [hx1]; try rw [hx2])
              exact bodyPost_ret (v := .tuple #[.agg #[.int .i64 0, .int .i64 0, .string ⟨#[]⟩, .slice none 0 0], .bool false]) (by simp [results, Tryd.results49, go_sem, c0, c1, c2, c3]) rfl ⟨below_res HBW.out, 0, 0, _, false, rfl, ⟨by decide, by decide⟩, (fun h => by cases h), fun _ => HN.out⟩
            · have hn2 : x2 < 0 := hneg.resolve_left hn1
              clear hneg
              go_wp2_with (go_at_call 67; refine (digit_any _ _).mono ?_; rintro e w6 ⟨rfl, hw6⟩; subst w6; try rw [hx1]; try rw [hx2])
              exact bodyPost_ret (v := .tuple #[.agg #[.int .i64 0, .int .i64 0, .string ⟨#[]⟩, .slice none 0 0], .bool false]) (by simp [results, Tryd.results49, go_sem, c0, c1, c2, c3]) rfl ⟨below_res HBW.out, 0, 0, _, false, rfl, ⟨by decide, by decide⟩, (fun h => by cases h), fun _ => HN.out⟩
          · have hn1 : ¬ x1 < 0 := fun h => hneg (.inl h)
            have hn2 : ¬ x2 < 0 := fun h => hneg (.inr h)
            clear hneg
            have hsc := HC.out.hex (by have := HLEN.out; omega) H37.out
            have hsc2 : ScanW s.data.toList (acc ++ [byt (16 * x1 + x2)]) (j + 3) := by
              have e1 : hexV (s.data.toList[j + 1]'(by have := HLEN.out; omega)) = x1 := HX1.out
              have e2 : hexV (s.data.toList[j + 2]'(by have := HLEN.out; omega)) = x2 := HX2.out
              rw [e1, e2] at hsc
              exact hsc
            have HSC := Lib.hid hsc2; clear hsc hsc2
            have hcu : IntKind.u8.wrap (16 * x1 + x2) = ((byt (16 * x1 + x2)).toNat : Int) := by rw [byt_nat, IntKind.wrap_u8]
            have HCU := Lib.hid hcu; clear hcu
            go_wp2_with (go_at_call 67; refine (digit_any _ _).mono ?_; rintro e w6 ⟨rfl, hw6⟩; subst w6; try rw [hx1]; try rw [hx2])
            have hw1 : IntKind.i64.wrap ((j : Int) + 1) = ((j + 1 : Nat) : Int) := by rw [IntKind.wrap_i64]; omega
            have hw2 : IntKind.i64.wrap ((j : Int) + 2) = ((j + 2 : Nat) : Int) := by rw [IntKind.wrap_i64]; omega
            have hw3 : IntKind.i64.wrap (16 * x1) = 16 * x1 := by rw [IntKind.wrap_i64]; omega
            have hw4 : IntKind.i64.wrap (16 * x1 + x2) = 16 * x1 + x2 := by rw [IntKind.wrap_i64]; omega
            have hj1i : ((j + 1 : Nat) : Int) < s.size := by omega
            have hj2i : ((j + 2 : Nat) : Int) < s.size := by omega
            have ht1 : ((j : Int) + 1).toNat = j + 1 := by omega
            have ht2 : ((j : Int) + 2).toNat = j + 2 := by omega
            go_region_law (first
              | (refine step_app1w rfl _ _ rfl (w.heap.size + 1) acc _ rfl HR.out hsz (by omega) (byt (16 * x1 + x2)) _ HCU.out rfl ?_; intro g cap w1 ho1 hb1)
              | (go_simp; go_at_call 67; refine (digit_any _ _).mono ?_; rintro e w6 ⟨rfl, hw6⟩; subst w6; first | rw [hx1] | rw [hx2]))
            all_goals
              have hz1 := hb1.size
              go_wp2
              go_roundw
            all_goals first
              | exact ⟨j + 3, acc ++ [byt (16 * x1 + x2)], _, rfl, by omega, by omega, by go_num, by simp; omega, Lib.hid ho1, .inr ⟨g, cap, by simp⟩, by omega, Lib.hid (HB.out.trans hb1), HSC⟩
              | (simp [intOf]; omega)
      · have b37 : ((s[j].toNat : Int) != 37) = true := by
          have := u8_not (c := 37) h37
          rw [bne, show (37 : Int) = ((37 : UInt8).toNat : Int) from rfl, this]
          rfl
        have HN := Lib.hid (HC.out.plain HLT.out h37)
        clear h37
        go_wp2_with (at_builtin; refine wp_app1w rfl _ _ rfl (w.heap.size + 1) acc _ rfl HR.out hsz (by omega) s[j] _ rfl rfl ?_)
        intro g cap w1 ho1 hb1
        have hz1 := hb1.size
        go_wp2
        go_roundw
        case rel => exact ⟨j + 1, acc ++ [s[j]], _, rfl, by omega, by omega, by go_num, by simp; omega, Lib.hid ho1, .inr ⟨g, cap, by simp⟩, by omega, Lib.hid (HB.out.trans hb1), HN⟩
        case measure => simp [intOf]; omega
    · have hge : s.data.toList.length ≤ j + 1 := by have := HLEN.out; omega
      have HDN := Lib.hid (HC.out.done hge)
      have hcv := HCV.out
      obtain ⟨T0, hT0⟩ : ∃ T0 : ByteArray, (⟨acc.toArray⟩ : ByteArray) = T0 := ⟨_, rfl⟩
      rw [hT0] at hcv
      have HT0 := Lib.hid hT0; clear hT0
      obtain ⟨ok, hok⟩ : ∃ ok, itemOk 2 0 T0 0 = ok := ⟨_, rfl⟩
      have HD1 : Hid (∀ W, Calls Tryd.prog 53 #[.agg #[.int .i64 2, .int .i64 0, .string T0, .slice none 0 0]] W fun e w' => e = .returned (.bool ok) ∧ Below W.heap.size W w') := Lib.hid (fun W => by rw [← hok]; exact simple_any 2 0 T0 none 0 0 W)
      have HOK := Lib.hid hok; clear hok
      obtain ⟨w0, hw0⟩ : ∃ w0, w0 = wr.alloc (.cells #[.int .i64 2, .int .i64 0, .string T0, .slice none 0 0] 24) := ⟨_, rfl⟩
      have hal : Below wr.heap.size wr w0 := by rw [hw0]; exact (Below.refl _ _).alloc (Nat.le_refl _) _
      have HFIN : Hid (∀ w', Below (wr.heap.size + 1) w0 w' → Below w.heap.size w w') := Lib.hid (fun w' h => (HBW.out.trans (hal.mono (by omega))).trans (h.mono (by omega)))
      have k8 : w0.heap[wr.heap.size]? = some (.cells #[.int .i64 2, .int .i64 0, .string T0, .slice none 0 0] 24) := by rw [hw0]; exact heap_alloc_new wr _
      have hS0 : (fun w' => w'.cell? ⟨wr.heap.size, 0, none⟩ = some (.int .i64 2) ∧ w'.cell? ⟨wr.heap.size, 1, none⟩ = some (.int .i64 0) ∧ w'.cell? ⟨wr.heap.size, 2, none⟩ = some (.string T0) ∧ w'.cell? ⟨wr.heap.size, 3, none⟩ = some (.slice none 0 0) ∧ w'.cell? ⟨w.heap.size, 0, none⟩ = some (.int .i64 0) ∧ w'.cell? ⟨w.heap.size, 1, none⟩ = some (.int .i64 0) ∧ w'.cell? ⟨w.heap.size, 2, none⟩ = some (.string ⟨#[]⟩) ∧ w'.cell? ⟨w.heap.size, 3, none⟩ = some (.slice none 0 0) ∧ w'.frozen? ⟨w.heap.size, 0, none⟩ = false ∧ w'.frozen? ⟨w.heap.size, 1, none⟩ = false ∧ w'.frozen? ⟨w.heap.size, 2, none⟩ = false ∧ w'.frozen? ⟨w.heap.size, 3, none⟩ = false ∧ Below (wr.heap.size + 1) w0 w' ∧ wr.heap.size < w'.heap.size ∧ w.heap.size < wr.heap.size) w0 := by
        have hq : w.heap.size < wr.heap.size := by omega
        exact ⟨by rw [Lib.cell_of_heap k8]; rfl, by rw [Lib.cell_of_heap k8]; rfl, by rw [Lib.cell_of_heap k8]; rfl, by rw [Lib.cell_of_heap k8]; rfl, (hal.cell (p := ⟨w.heap.size, 0, none⟩) hq).trans c0, (hal.cell (p := ⟨w.heap.size, 1, none⟩) hq).trans c1, (hal.cell (p := ⟨w.heap.size, 2, none⟩) hq).trans c2, (hal.cell (p := ⟨w.heap.size, 3, none⟩) hq).trans c3,
          (hal.frozen (p := ⟨w.heap.size, 0, none⟩) hq).trans f0, (hal.frozen (p := ⟨w.heap.size, 1, none⟩) hq).trans f1, (hal.frozen (p := ⟨w.heap.size, 2, none⟩) hq).trans f2, (hal.frozen (p := ⟨w.heap.size, 3, none⟩) hq).trans f3, Below.refl _ _, (Array.getElem?_eq_some_iff.1 k8).1, by omega⟩
      have HS0 : Hid ((fun w' => w'.cell? ⟨wr.heap.size, 0, none⟩ = some (.int .i64 2) ∧ w'.cell? ⟨wr.heap.size, 1, none⟩ = some (.int .i64 0) ∧ w'.cell? ⟨wr.heap.size, 2, none⟩ = some (.string T0) ∧ w'.cell? ⟨wr.heap.size, 3, none⟩ = some (.slice none 0 0) ∧ w'.cell? ⟨w.heap.size, 0, none⟩ = some (.int .i64 0) ∧ w'.cell? ⟨w.heap.size, 1, none⟩ = some (.int .i64 0) ∧ w'.cell? ⟨w.heap.size, 2, none⟩ = some (.string ⟨#[]⟩) ∧ w'.cell? ⟨w.heap.size, 3, none⟩ = some (.slice none 0 0) ∧ w'.frozen? ⟨w.heap.size, 0, none⟩ = false ∧ w'.frozen? ⟨w.heap.size, 1, none⟩ = false ∧ w'.frozen? ⟨w.heap.size, 2, none⟩ = false ∧ w'.frozen? ⟨w.heap.size, 3, none⟩ = false ∧ Below (wr.heap.size + 1) w0 w' ∧ wr.heap.size < w'.heap.size ∧ w.heap.size < wr.heap.size) w0) := Lib.hid hS0
      have HS1 : Hid ((fun w' => w'.cell? ⟨wr.heap.size, 0, none⟩ = some (.int .i64 2) ∧ w'.cell? ⟨wr.heap.size, 1, none⟩ = some (.int .i64 0) ∧ w'.cell? ⟨wr.heap.size, 2, none⟩ = some (.string T0) ∧ w'.cell? ⟨wr.heap.size, 3, none⟩ = some (.slice none 0 0) ∧ w'.cell? ⟨w.heap.size, 0, none⟩ = some (.int .i64 0) ∧ w'.cell? ⟨w.heap.size, 1, none⟩ = some (.int .i64 0) ∧ w'.cell? ⟨w.heap.size, 2, none⟩ = some (.string ⟨#[]⟩) ∧ w'.cell? ⟨w.heap.size, 3, none⟩ = some (.slice none 0 0) ∧ w'.frozen? ⟨w.heap.size, 0, none⟩ = false ∧ w'.frozen? ⟨w.heap.size, 1, none⟩ = false ∧ w'.frozen? ⟨w.heap.size, 2, none⟩ = false ∧ w'.frozen? ⟨w.heap.size, 3, none⟩ = false ∧ Below (wr.heap.size + 1) w0 w' ∧ wr.heap.size < w'.heap.size ∧ w.heap.size < wr.heap.size) w0.drew) := Lib.hid (held15 hS0 (Below.refl _ _).drew)
      have HW0 := Lib.hid hw0
      clear hS0 k8 hal hw0
      clear c0 c1 c2 c3 f0 f1 f2 f3
      cases ok
      · have HN := Lib.hid (quot_no H39.out (fun t ht he => by
          have e1 := HDN.out t he ht
          have e2 : T0.size = t.length := by rw [← HT0.out, e1]; rfl
          have := itemOk_false HOK.out
          apply this
          exact ⟨by omega, .inr ⟨rfl, rfl, by omega⟩⟩))
        go_wp2
        rw [← HW0.out]
        obtain ⟨a0, a1, a2, a3, r0, r1, r2, r3, f0, f1, f2, f3, _, _, _⟩ := HS0.out
        first
          | (go_region_law (first | (go_simp; go_at_call 53; refine (HD1.out _).mono ?_; rintro e w' ⟨rfl, hb'⟩; obtain ⟨c0, c1, c2, c3, q0, q1, q2, q3, g0, g1, g2, g3, hb2, hz2, _⟩ := held15 HS1.out hb')))
          | fail "no"
        all_goals
          go_wp2
          exact bodyPost_ret (v := .tuple #[.agg #[.int .i64 2, .int .i64 0, .string T0, .slice none 0 0], .bool false]) (by simp [results, Tryd.results49, go_sem, q0, q1, q2, q3]) rfl ⟨((((HFIN.out _ hb2).setCell (p := ⟨w.heap.size, 0, none⟩) (Nat.le_refl _) _).setCell (p := ⟨w.heap.size, 1, none⟩) (Nat.le_refl _) _).setCell (p := ⟨w.heap.size, 2, none⟩) (Nat.le_refl _) _).setCell (p := ⟨w.heap.size, 3, none⟩) (Nat.le_refl _) _, 2, 0, _, false, rfl, ⟨by decide, by decide⟩, (fun h => by cases h), fun _ => HN.out⟩
      · have h32 : T0.size ≤ 32 := by
          rcases (itemOk_true HOK.out).2 with ⟨h, _⟩ | ⟨_, _, h⟩
          · exact absurd h (by decide)
          · omega
        obtain ⟨T, hT⟩ : ∃ T : ByteArray, (⟨(pText T0.data.toList).toArray⟩ : ByteArray) = T := ⟨_, rfl⟩
        have HD2 : Hid (∀ W, Calls Tryd.prog 60 #[.agg #[.int .i64 2, .int .i64 0, .string T0, .slice none 0 0]] W fun e w' => e = .returned (.string T) ∧ Below W.heap.size W w') := Lib.hid (fun W => by rw [← hT]; exact rtext_text 0 T0 none 0 0 W h32)
        obtain ⟨eq, hdec⟩ : ∃ eq, decide (T = s) = eq := ⟨_, rfl⟩
        have hbeq : (T.toList == s.toList) = eq := by
          rw [← hdec]
          by_cases h : T = s
          · rw [h]; simp
          · have hne : ¬ T.toList = s.toList := fun e => h (by rw [ByteArray.toList_eq, ByteArray.toList_eq] at e; exact ByteArray.ext (Array.toList_inj.1 e))
            rw [decide_eq_false h]
            exact beq_eq_false_iff_ne.2 hne
        have HEQ : Hid ((eq = true → itemOk 2 0 T0 0 = true ∧ itemT 2 0 T0 = s.data.toList) ∧ (eq = false → ∀ k n t, itemOk k n t 0 = true → I64 n → itemT k n t ≠ s.data.toList)) := by
          refine Lib.hid ⟨fun h => ⟨HOK.out, ?_⟩, fun h => quot_no H39.out (fun t ht he => ?_)⟩
          · rw [h] at hdec
            have e := of_decide_eq_true hdec
            rw [← e, ← hT]
            rfl
          · rw [h] at hdec
            have e := of_decide_eq_false hdec
            have e1 := HDN.out t he ht
            apply e
            rw [← hT, ← HT0.out]
            show (⟨(pText acc).toArray⟩ : ByteArray) = s
            rw [← e1, ← he]
        have HT := Lib.hid hT; clear hT h32
        go_wp2
        rw [← HW0.out]
        obtain ⟨a0, a1, a2, a3, r0, r1, r2, r3, f0, f1, f2, f3, _, _, _⟩ := HS0.out
        first
          | (go_region_law (first | (go_simp; go_at_call 53; refine (HD1.out _).mono ?_; rintro e w' ⟨rfl, hb'⟩; have hS2 := held15 HS1.out hb'; have HS2 := Lib.hid hS2; obtain ⟨c0, c1, c2, c3, q0, q1, q2, q3, g0, g1, g2, g3, _, _, _⟩ := hS2) | (go_simp; go_at_call 60; refine (HD2.out _).mono ?_; rintro e w3 ⟨rfl, hb3⟩; obtain ⟨d0, d1, d2, d3, p0, p1, p2, p3, k0, k1, k2, k3, hb2, _, _⟩ := held15 HS2.out hb3)))
          | fail "no"
        all_goals
          go_wp2
          exact bodyPost_ret (v := .tuple #[.agg #[.int .i64 2, .int .i64 0, .string T0, .slice none 0 0], .bool eq]) (by simp [results, Tryd.results49, go_sem, p0, p1, p2, p3]) rfl ⟨((((HFIN.out _ hb2).setCell (p := ⟨w.heap.size, 0, none⟩) (Nat.le_refl _) _).setCell (p := ⟨w.heap.size, 1, none⟩) (Nat.le_refl _) _).setCell (p := ⟨w.heap.size, 2, none⟩) (Nat.le_refl _) _).setCell (p := ⟨w.heap.size, 3, none⟩) (Nat.le_refl _) _, 2, 0, _, eq, rfl, ⟨by decide, by decide⟩, HEQ.out.1, HEQ.out.2⟩
end Go.Proofs.YtoiahhfjejddjaaDoor
