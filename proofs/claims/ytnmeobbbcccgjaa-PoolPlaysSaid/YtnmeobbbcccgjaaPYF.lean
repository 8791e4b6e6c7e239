/- The law's told: what Held tells goes up, and each of the law's pages is told by Read, Pins and Held. -/
import Derived.Test.YtnmeobbbcccgjaaPYD
import Derived.BigQuiet
import Derived.Deep.QuietTactic
set_option maxRecDepth 100000
namespace Go.Proofs.Ytnmeobbbcccgjaa
open Go Go.RowKit

theorem row_ints {B : Nat} {w : World} {v : Value} {l : List Int} (h : RowAt B w v (asInts l)) : ∃ a c, v = .slice a l.length c ∧ ∀ (j : Nat) (x : Int), l[j]? = some x → ∃ b, a = some ⟨b, 0, none⟩ ∧ b < w.heap.size ∧ w.cell? ⟨b, j, none⟩ = some (.int .i64 x) := by
  obtain ⟨a, c, rfl, hsh⟩ := h
  refine ⟨a, c, by simp [asInts], fun j x hx => ?_⟩
  rcases hsh with h0 | ⟨b, ha, _, hb, hc⟩
  · have : l = [] := by simpa [asInts] using h0
    subst this
    simp at hx
  · exact ⟨b, ha, hb, hc j _ (by simp [asInts, hx])⟩

theorem up_of {l : List Int} (h : l.Pairwise (· < ·)) {i : Nat} {x y : Int} (h1 : 1 ≤ i) (hx : l[i - 1]? = some x) (hy : l[i]? = some y) : x < y := by
  obtain ⟨hi, rfl⟩ := List.getElem?_eq_some_iff.1 hx
  obtain ⟨hj, rfl⟩ := List.getElem?_eq_some_iff.1 hy
  exact List.pairwise_iff_getElem.1 h _ _ hi hj (by omega)

theorem drewB (w : World) (k : Nat) : Below w.heap.size w (w.drewN k) := ⟨rfl, rfl, rfl, Nat.le_refl _, fun _ _ => rfl⟩

set_option maxHeartbeats 3200000 in
theorem told_any (B : Nat) (S T : Nat → Prop) (p d g n : Nat) (L : List Pg) (C : Nat → List UInt8) (P : Nat → Nat) (N : Nat) (w : World) (h : Both B S T p d g n L C P N w) :
    Calls Try.prog 12 #[.pointer (some ⟨g, 0, none⟩), .pointer (some ⟨p, 0, none⟩)] w fun e w' => e = .returned (.bool true) ∧ Below w.heap.size w w' := by
  obtain ⟨fb, mb, hand, m, fr, Sd, ops, hG, _⟩ := h.st
  have hn2 : n ≤ 1024 := hG.n2
  clear hG
  have HH := Lib.hid (held_st h.st)
  have H := Lib.hid h; clear h
  go_enter Try.func12, Try.ntmps12
  go_wp2_with fail
  refine HH.out.mono ?_
  rintro e w1 ⟨v, l, rfl, hrow, hln, hpw, hin, hb1⟩
  obtain ⟨a, c, rfl, hrw⟩ := row_ints hrow
  clear hrow
  obtain ⟨kk, hkk⟩ : ∃ kk, kk = l.length := ⟨_, rfl⟩
  rw [← hkk] at hln ⊢
  obtain ⟨LL, hLL⟩ : ∃ LL, LL = L.length := ⟨_, rfl⟩
  have hL4 : LL ≤ 4096 := by rw [hLL]; exact H.out.rel.len
  have H1 := Lib.hid (H.out.below hb1)
  have HB1 := Lib.hid hb1
  have HROW := Lib.hid hrw; have HPW := Lib.hid hpw; have HIN := Lib.hid hin; have HKK := Lib.hid hkk; have HLL := Lib.hid hLL
  clear hrw hpw hin hkk hb1 hLL H HH
  have c0 : w1.cell? ⟨g, 0, none⟩ = some (.int .i64 n) := by
    obtain ⟨va, vb, vp, bs, hpf⟩ := H1.out.pg
    exact hpf.c0
  have hgt : decide ((n : Int) < (kk : Int)) = false := by simp; omega
  have hgt2 : decide (n < kk) = false := by simp; omega
  go_wp2
  go_loopw [6] (fun vi wr => ∃ i : Nat, 1 ≤ i ∧ i ≤ kk + 1 ∧ vi = .int .i64 i ∧ Hid (Below w1.heap.size w1 wr)) (fun vi _ => kk + 1 - (intOf vi).toNat)
  case atStart => exact ⟨1, by omega, by omega, rfl, Lib.hid (Below.refl _ _)⟩
  case round =>
    obtain ⟨i, hi1, hik, rfl, HB⟩ := hrel
    by_cases hlt : i < kk
    · obtain ⟨x, hx⟩ : ∃ x, l[i - 1]? = some x := ⟨_, List.getElem?_eq_getElem (by have := HKK.out; omega)⟩
      obtain ⟨y, hy⟩ : ∃ y, l[i]? = some y := ⟨_, List.getElem?_eq_getElem (by have := HKK.out; omega)⟩
      have hxy := up_of HPW.out hi1 hx hy
      obtain ⟨b, rfl, hbl, d1⟩ := HROW.out _ _ hx
      obtain ⟨b', hbb, _, d2⟩ := HROW.out _ _ hy
      cases hbb
      have d1 := (HB.out.cell hbl).trans d1
      have d2 := (HB.out.cell hbl).trans d2
      have hge : decide (y ≤ x) = false := by simp; omega
      have hi0 : (0 : Int) ≤ (i : Int) - 1 := by omega
      have hi2 : (i : Int) - 1 < (kk : Int) := by omega
      have hi3 : ((i : Int) - 1).toNat = i - 1 := by omega
      clear hx hy hxy c0
      go_wp2
      go_quiet (fail)
      obtain ⟨W, hW⟩ : ∃ W, W = wr.drewN nq := ⟨_, rfl⟩
      rw [← hW]
      have hWb : Below wr.heap.size wr W := by rw [hW]; exact drewB _ _
      have HBW := Lib.hid (HB.out.trans (hWb.mono HB.out.size))
      clear hW hWb d1 d2
      go_wp2
      go_roundw
      case rel => exact ⟨i + 1, by omega, by omega, by go_num, HBW⟩
      case measure => simp [intOf]; omega
    · clear c0
      go_wp2
      go_loopw [7] (fun vi wr => ∃ i : Nat, i ≤ LL ∧ vi = .int .i64 i ∧ Hid (Below w1.heap.size w1 wr)) (fun vi _ => LL - (intOf vi).toNat)
      case atStart => exact ⟨0, by omega, rfl, HB⟩
      case round =>
        clear HB
        obtain ⟨i2, hi2, rfl, HB2⟩ := hrel
        by_cases hl2 : i2 < LL
        · obtain ⟨y, hy⟩ : ∃ y, L[i2]? = some y := ⟨_, List.getElem?_eq_getElem (by have := HLL.out; omega)⟩
          have HE := Lib.hid (H1.out.rel.ent y (List.mem_of_getElem? hy))
          have hwf : (Lit.int .i64 (y.page : Int)).wf = true := wf_of_i64 ⟨by omega, by have := HE.out.1; omega⟩
          have H2 := Lib.hid (H1.out.below HB2.out)
          obtain ⟨b1, cc1, a1, hc1, a2⟩ := H2.out.pg.page hy
          obtain ⟨b2, cc2, a3, hc2, a4, _, _⟩ := H2.out.pg.pinsAt hy
          rw [← HLL.out] at a1 hc1 a3 hc2
          have HY := Lib.hid hy; clear hy
          have hl2' : (i2 : Int) < LL := by omega
          by_cases hz : y.pins = 0
          · have hnp := H2.out.noPins0 HY.out hz
            have HRD := Lib.hid (read_st_no H2.out.st y.page hwf hnp)
            have HPS : Hid (∀ W, Below wr.heap.size wr W → Calls Try.prog 18 #[.pointer (some ⟨p, 0, none⟩), .int .i64 y.page] W fun e w' => e = .returned (.int .i64 0) ∧ w' = W) := Lib.hid (fun W hW => pins_st_no (H2.out.below hW).st y.page hwf hnp)
            rw [hz] at a4
            have HZ := Lib.hid hz
            clear hnp hwf hz
            go_wp2_with fail
            refine HRD.out.mono ?_
            rintro e w3 ⟨rfl, hw⟩
            subst w3
            go_wp2
            go_quiet ((go_at_call 18; exact Calls.quiet_of_same (HPS.out _ (drewB _ _))))
            obtain ⟨W, hW⟩ : ∃ W, W = wr.drewN nq := ⟨_, rfl⟩
            rw [← hW]
            have hWb : Below wr.heap.size wr W := by rw [hW]; exact drewB _ _
            have HBW := Lib.hid (HB2.out.trans (hWb.mono HB2.out.size))
            clear hW hWb a1 a2 a3 a4
            obtain ⟨b2, cc2, a3, hc2, a4, _, _⟩ := (H1.out.below HBW.out).pg.pinsAt HY.out
            rw [← HLL.out] at a3 hc2
            rw [HZ.out] at a4
            go_wp2
            go_roundw
            case rel => exact ⟨i2 + 1, by omega, by go_num, HBW⟩
            case measure => simp [intOf]; omega
          · have hp0 : 0 < P y.page := by rw [HE.out.2.1]; omega
            have hrd := read_st H2.out.st y.page hp0
            rw [HE.out.2.2.1] at hrd
            obtain ⟨t, ht⟩ : ∃ t : ByteArray, t = ⟨y.bytes.toArray⟩ := ⟨_, rfl⟩
            rw [← ht] at hrd
            have HRD := Lib.hid hrd; have HT := Lib.hid ht
            have HMEM := Lib.hid (HIN.out y.page hp0)
            obtain ⟨k0, hk0⟩ : ∃ k0 : Int, k0 = y.pins := ⟨_, rfl⟩
            have HPS : Hid (∀ W, Below wr.heap.size wr W → Calls Try.prog 18 #[.pointer (some ⟨p, 0, none⟩), .int .i64 y.page] W fun e w' => e = .returned (.int .i64 k0) ∧ w' = W) := Lib.hid (fun W hW => by
              have := pins_st (H2.out.below hW).st y.page hp0
              rw [HE.out.2.1, ← hk0] at this
              exact this)
            rw [← hk0] at a4
            have hkz : (k0 == 0) = false := by simp; omega
            have HK0 := Lib.hid hk0
            clear hwf hz hp0 hrd ht hk0
            go_wp2_with fail
            refine HRD.out.mono ?_
            rintro e w3 ⟨rfl, hw⟩
            subst w3
            go_wp2
            go_quiet ((go_at_call 18; exact Calls.quiet_of_same (HPS.out _ (drewB _ _))))
            obtain ⟨W, hW⟩ : ∃ W, W = wr.drewN nq := ⟨_, rfl⟩
            rw [← hW]
            have hWb : Below wr.heap.size wr W := by rw [hW]; exact drewB _ _
            have HBW := Lib.hid (HB2.out.trans (hWb.mono HB2.out.size))
            clear hW hWb a1 a2 a3 a4
            obtain ⟨b2, cc2, a3, hc2, a4, _, _⟩ := (H1.out.below HBW.out).pg.pinsAt HY.out
            rw [← HLL.out] at a3 hc2
            rw [← HK0.out] at a4
            go_wp2
            go_loopw [10, 11] (fun vb vm wq => ∃ (m3 : Nat) (bb : Bool), m3 ≤ kk ∧ vb = .bool bb ∧ vm = .int .i64 m3 ∧ Hid (bb = true ↔ (y.page : Int) ∈ l.take m3) ∧ Hid (Below w1.heap.size w1 wq)) (fun _ vm _ => kk - (intOf vm).toNat)
            case atStart => exact ⟨0, false, by omega, rfl, rfl, Lib.hid (by simp), HBW⟩
            case round =>
              clear a3 a4 HBW
              obtain ⟨m3, bb, hm3, rfl, rfl, HIFF, HB3⟩ := hrel
              have HBW := HB3
              obtain ⟨b1, cc1, a1, hc1, a2⟩ := (H1.out.below HB3.out).pg.page HY.out
              rw [← HLL.out] at a1 hc1
              by_cases hl3 : m3 < kk
              · obtain ⟨x, hx⟩ : ∃ x, l[m3]? = some x := ⟨_, List.getElem?_eq_getElem (by have := HKK.out; omega)⟩
                obtain ⟨b, rfl, hbl, d1⟩ := HROW.out _ _ hx
                have d1 := (HB3.out.cell hbl).trans d1
                have htk : l.take (m3 + 1) = l.take m3 ++ [x] := by rw [List.take_add_one, hx]; rfl
                have hl3' : (m3 : Int) < kk := by omega
                have HTK := Lib.hid htk; clear htk hx
                cases bb with
                | true =>
                  have HN : Hid ((y.page : Int) ∈ l.take (m3 + 1)) := Lib.hid (by rw [HTK.out]; exact List.mem_append.2 (.inl (HIFF.out.1 rfl)))
                  go_wp2
                  go_quiet (fail)
                  obtain ⟨W, hW⟩ : ∃ W, W = wr.drewN nq := ⟨_, rfl⟩
                  rw [← hW]
                  have hWb : Below wr.heap.size wr W := by rw [hW]; exact drewB _ _
                  have HBW := Lib.hid (HB3.out.trans (hWb.mono HB3.out.size))
                  clear hW hWb a1 a2 d1
                  go_wp2
                  go_roundw
                  case rel => exact ⟨m3 + 1, true, by omega, by simp, by go_num, Lib.hid ⟨fun _ => HN.out, fun _ => rfl⟩, HBW⟩
                  case measure => simp [intOf]; omega
                | false =>
                  have hno : ¬ (y.page : Int) ∈ l.take m3 := fun hc => by simpa using HIFF.out.2 hc
                  by_cases hxy : x = (y.page : Int)
                  · have HN : Hid ((y.page : Int) ∈ l.take (m3 + 1)) := Lib.hid (by rw [HTK.out, hxy]; simp)
                    subst hxy
                    clear hno
                    go_wp2
                    go_quiet (fail)
                    obtain ⟨W, hW⟩ : ∃ W, W = wr.drewN nq := ⟨_, rfl⟩
                    rw [← hW]
                    have hWb : Below wr.heap.size wr W := by rw [hW]; exact drewB _ _
                    have HBW := Lib.hid (HB3.out.trans (hWb.mono HB3.out.size))
                    clear hW hWb a1 a2 d1
                    go_wp2
                    go_roundw
                    case rel => exact ⟨m3 + 1, true, by omega, by simp, by go_num, Lib.hid ⟨fun _ => HN.out, fun _ => rfl⟩, HBW⟩
                    case measure => simp [intOf]; omega
                  · have HN : Hid (¬ (y.page : Int) ∈ l.take (m3 + 1)) := Lib.hid (by
                      rw [HTK.out]
                      intro h0
                      rcases List.mem_append.1 h0 with h0 | h0
                      · exact absurd h0 hno
                      · exact absurd (List.mem_singleton.1 h0).symm hxy)
                    have hxyb : (x == (y.page : Int)) = false := by simpa using hxy
                    clear hno hxy
                    go_wp2
                    go_quiet (fail)
                    obtain ⟨W, hW⟩ : ∃ W, W = wr.drewN nq := ⟨_, rfl⟩
                    rw [← hW]
                    have hWb : Below wr.heap.size wr W := by rw [hW]; exact drewB _ _
                    have HBW := Lib.hid (HB3.out.trans (hWb.mono HB3.out.size))
                    clear hW hWb a1 a2 d1
                    go_wp2
                    go_roundw
                    case rel => exact ⟨m3 + 1, false, by omega, by simp, by go_num, Lib.hid ⟨(fun h0 => by cases h0), (fun h0 => absurd h0 HN.out)⟩, HBW⟩
                    case measure => simp [intOf]; omega
              · obtain rfl : bb = true := HIFF.out.2 (by
                  rw [List.take_of_length_le (by have := HKK.out; omega)]
                  exact HMEM.out)
                obtain ⟨gB, cc3, b3, f3, hc3, f4, hrg, _, _⟩ := (H1.out.below HB3.out).pg.bytesAt HY.out
                have hcv := run_string_mid wr b3 0 512 y.bytes hrg
                rw [HE.out.2.2.2, ← HT.out] at hcv
                rw [← HLL.out] at f3 hc3
                unfold rowVal at f4
                clear hrg a1 a2
                go_wp2
                go_roundw
                case rel => exact ⟨i2 + 1, by omega, by go_num, HB3⟩
                case measure => simp [intOf]; omega
        · obtain ⟨b1, cc1, a1⟩ := (H1.out.below HB2.out).pg.lenCell
          rw [← HLL.out] at a1
          go_wp2
          go_ret
          exact ⟨rfl, HB1.out.trans (HB2.out.mono HB1.out.size)⟩
end Go.Proofs.Ytnmeobbbcccgjaa
