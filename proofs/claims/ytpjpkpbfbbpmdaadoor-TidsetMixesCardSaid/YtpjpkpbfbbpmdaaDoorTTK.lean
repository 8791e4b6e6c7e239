/- The document's Or. -/
import Derived.Test.YtpjpkpbfbbpmdaaDoorTTJ
set_option maxRecDepth 100000
namespace Go.Proofs.YtpjpkpbfbbpmdaaDoor.Ts
open Go Go.RowKit

def POr (x y : Tset) (i j : Nat) (P : List Nat) : Prop := Srt P ∧ ∀ p, p ∈ P ↔ p ∈ x.P.take i ∨ p ∈ y.P.take j
def TOr (x y : Tset) (i j : Nat) (T : List Nat) : Prop := Srt T ∧ ∀ t, t ∈ T ↔ (t ∈ x.T.take i ∨ t ∈ y.T.take j) ∧ ¬ EitherP x y (t / 64)
theorem POr.swap {x y : Tset} {i j : Nat} {P : List Nat} (h : POr x y i j P) : POr y x j i P := ⟨h.1, fun t => (h.2 t).trans Or.comm⟩
theorem TOr.swap {x y : Tset} {i j : Nat} {T : List Nat} (h : TOr x y i j T) : TOr y x j i T := ⟨h.1, fun t => by rw [h.2, or_comm (a := t ∈ x.T.take i)]; unfold EitherP; rw [or_comm (a := t / 64 ∈ x.P)]⟩
theorem POr.add {x y : Tset} {i j : Nat} {P : List Nat} (h : POr x y i j P) (hi : i < x.P.length) : POr x y (i + 1) j (ins x.P[i] P) :=
  ⟨srt_ins h.1, fun p => by
    rw [mem_ins, h.2, mem_take_succ hi]
    constructor
    · rintro (e | e | e)
      · exact .inl (.inr e)
      · exact .inl (.inl e)
      · exact .inr e
    · rintro ((e | e) | e)
      · exact .inr (.inl e)
      · exact .inl e
      · exact .inr (.inr e)⟩
theorem TOr.yes {x y : Tset} {i j : Nat} {T : List Nat} (h : TOr x y i j T) (hi : i < x.T.length) (hn : ¬ EitherP x y (x.T[i] / 64)) : TOr x y (i + 1) j (ins x.T[i] T) :=
  ⟨srt_ins h.1, fun t => by
    rw [mem_ins, h.2, mem_take_succ hi]
    constructor
    · rintro (e | ⟨e | e, e2⟩)
      · exact ⟨.inl (.inr e), e ▸ hn⟩
      · exact ⟨.inl (.inl e), e2⟩
      · exact ⟨.inr e, e2⟩
    · rintro ⟨(e | e) | e, e2⟩
      · exact .inr ⟨.inl e, e2⟩
      · exact .inl e
      · exact .inr ⟨.inr e, e2⟩⟩
theorem TOr.no {x y : Tset} {i j : Nat} {T : List Nat} (h : TOr x y i j T) (hi : i < x.T.length) (hn : EitherP x y (x.T[i] / 64)) : TOr x y (i + 1) j T :=
  ⟨h.1, fun t => by
    rw [h.2, mem_take_succ hi]
    constructor
    · rintro ⟨e | e, e2⟩
      · exact ⟨.inl (.inl e), e2⟩
      · exact ⟨.inr e, e2⟩
    · rintro ⟨(e | e) | e, e2⟩
      · exact ⟨.inl e, e2⟩
      · exact absurd (e ▸ hn) e2
      · exact ⟨.inr e, e2⟩⟩

set_option maxHeartbeats 6400000 in
theorem ror_ok {w : World} {x y : Tset} {v u : Value} (hv : RAt (fun _ => False) w x v) (hu : RAt (fun _ => False) w y u) (hx : x.Ok) (hy : y.Ok) :
    Calls Tryd.prog 15 #[v, u] w fun e w' => ∃ s v', e = .returned v' ∧ OrTo x y s ∧ RAt (fun _ => False) w' s v' ∧ Below w.heap.size w w' := by
  obtain ⟨a, n, c, a', n', c', rfl, hn, hn', hT, hP⟩ := hv
  obtain ⟨b, k, d, b', k', d', rfl, hk, hk', hT2, hP2⟩ := hu
  obtain ⟨m, hm⟩ : ∃ m, m = x.most := ⟨_, rfl⟩
  obtain ⟨m2, hm2⟩ : ∃ m, m = y.most := ⟨_, rfl⟩
  obtain ⟨g, hg⟩ : ∃ g, g = min m m2 := ⟨_, rfl⟩
  have hgi : min (m : Int) (m2 : Int) = (g : Int) := by omega
  rw [← hm, ← hm2]
  unfold rv
  obtain ⟨W4, hW4⟩ : ∃ W4, W4 = (((w.alloc (.cells #[.int .i64 (m : Int), .slice a n c, .slice a' n' c'] 27)).alloc (.cells #[.int .i64 (m2 : Int), .slice b k d, .slice b' k' d'] 27)).alloc (.cells #[.int .i64 0, .slice none 0 0, .slice none 0 0] 27)).alloc (.cells #[.int .i64 (g : Int), .slice none 0 0, .slice none 0 0] 27) := ⟨_, rfl⟩
  obtain ⟨ka, kb, kr, ko, hb4, hz4⟩ := four_of w _ _ _ _ _ W4 hW4
  obtain ⟨B0, hB0⟩ : ∃ B, B = w.heap.size := ⟨_, rfl⟩
  obtain ⟨B1, hB1⟩ : ∃ B, B = w.heap.size + 1 := ⟨_, rfl⟩
  obtain ⟨B2, hB2⟩ : ∃ B, B = w.heap.size + 1 + 1 := ⟨_, rfl⟩
  obtain ⟨B3, hB3⟩ : ∃ B, B = w.heap.size + 1 + 1 + 1 := ⟨_, rfl⟩
  rw [show w.heap.size + 2 = B2 by omega] at kr
  rw [show w.heap.size + 3 = B3 by omega] at ko
  rw [← hB1] at kb
  rw [← hB0] at ka
  have HW4 := Lib.hid hW4
  have HBE : Hid (B0 = w.heap.size ∧ B1 = w.heap.size + 1 ∧ B2 = w.heap.size + 1 + 1 ∧ B3 = w.heap.size + 1 + 1 + 1) := Lib.hid ⟨hB0, hB1, hB2, hB3⟩
  have HLT : Hid (B0 < W4.heap.size ∧ B1 < W4.heap.size ∧ B2 < W4.heap.size ∧ B0 ≠ B3 ∧ B1 ≠ B3 ∧ B2 ≠ B3 ∧ w.heap.size ≤ B3 ∧ B3 < W4.heap.size) := Lib.hid (by omega)
  have HB4 := Lib.hid hb4
  have hnb : ∀ k : Nat, (fun k => k = B3) k → False ∨ w.heap.size ≤ k := fun k e => .inr (by have : k = B3 := e; omega)
  have HTA := Lib.hid ((hT.more (T := fun k => k = B3) hnb).below hb4)
  have HPA := Lib.hid ((hP.more (T := fun k => k = B3) hnb).below hb4)
  have HTB := Lib.hid ((hT2.more (T := fun k => k = B3) hnb).below hb4)
  have HPB := Lib.hid ((hP2.more (T := fun k => k = B3) hnb).below hb4)
  have HN := Lib.hid hn; have HN' := Lib.hid hn'; have HK := Lib.hid hk; have HK' := Lib.hid hk'
  have HX := Lib.hid hx; have HY := Lib.hid hy
  have HM := Lib.hid hm; have HM2 := Lib.hid hm2; have HG := Lib.hid hg
  have hnl : n ≤ 64 := by rw [hn]; exact Nat.le_trans hx.few hx.most
  have hkl : k ≤ 64 := by rw [hk]; exact Nat.le_trans hy.few hy.most
  have hnl' : n' ≤ 262144 := by rw [hn']; exact raw_few hx.raw
  have hkl' : k' ≤ 262144 := by rw [hk']; exact raw_few hy.raw
  have HCA : Hid (∀ (V : World) (ta : Option Addr) (tn tc : Nat) (pa : Option Addr) (pn pc : Nat) (T P : List Nat), Out W4 V B3 g ta tn tc pa pn pc T P → V.cell? ⟨B0, 0, none⟩ = some (.int .i64 (m : Int)) ∧ V.cell? ⟨B0, 1, none⟩ = some (.slice a n c) ∧ V.cell? ⟨B0, 2, none⟩ = some (.slice a' n' c') ∧
      V.cell? ⟨B1, 0, none⟩ = some (.int .i64 (m2 : Int)) ∧ V.cell? ⟨B1, 1, none⟩ = some (.slice b k d) ∧ V.cell? ⟨B1, 2, none⟩ = some (.slice b' k' d')) := Lib.hid fun V ta tn tc pa pn pc T P h => by
    obtain ⟨l0, l1, l2, l3, l4, _⟩ := HLT.out
    exact ⟨h.cell (q := ⟨B0, 0, none⟩) l0 l3 (Lib.cell_of_heap ka 0), h.cell (q := ⟨B0, 1, none⟩) l0 l3 (Lib.cell_of_heap ka 1), h.cell (q := ⟨B0, 2, none⟩) l0 l3 (Lib.cell_of_heap ka 2),
      h.cell (q := ⟨B1, 0, none⟩) l1 l4 (Lib.cell_of_heap kb 0), h.cell (q := ⟨B1, 1, none⟩) l1 l4 (Lib.cell_of_heap kb 1), h.cell (q := ⟨B1, 2, none⟩) l1 l4 (Lib.cell_of_heap kb 2)⟩
  have HKR := Lib.hid kr
  have HOS : Hid (Out W4 W4 B3 g none 0 0 none 0 0 [] []) := Lib.hid ⟨ko, rfl, rfl, .nil _ _ _, .nil _ _ _, Kept.refl _ _⟩
  clear hn hn' hk hk' hT hP hT2 hP2 hm hm2 hg hW4 hB0 hB1 hB2 hB3 hb4 ka kb kr ko hnb hx hy hz4
  go_enter Tryd.func15, Tryd.ntmps15
  go_wp2_with fail
  rw [← HW4.out, ← HBE.out.2.2.2, ← HBE.out.2.2.1, ← HBE.out.2.1, ← HBE.out.1]
  go_loopw [6] (fun v wr => ∃ (i pn pc : Nat) (pa : Option Addr) (P : List Nat), i ≤ n' ∧ v = .int .i64 i ∧ pn ≤ 262144 ∧ Hid (POr x y i 0 P) ∧ Hid (Out W4 wr B3 g none 0 0 pa pn pc [] P)) (fun v _ => n' - (intOf v).toNat)
  case atStart => exact ⟨0, 0, 0, none, [], by omega, rfl, by omega, Lib.hid ⟨List.Pairwise.nil, by simp⟩, HOS⟩
  case round =>
    rename World => wr
    obtain ⟨i, pn, pc, pa, P, hi, rfl, hpn, HTB1, HO⟩ := hrel
    clear HOS
    obtain ⟨x0, x1, x2, y0, y1, y2⟩ := HCA.out _ _ _ _ _ _ _ _ _ HO.out
    have o2 := HO.out.p
    by_cases hlt : i < n'
    · have hlt' : i < x.P.length := by rw [← HN'.out]; exact hlt
      obtain ⟨eb, eo, rfl, hel, ce⟩ := (HPA.out.kept HO.out.kept).at hlt'
      have hii : (i : Int) < (n' : Int) := by omega
      have HB1' : Hid (POr x y (i + 1) 0 (ins x.P[i] P)) := Lib.hid (HTB1.out.add hlt')
      have HPL : Hid ((ins x.P[i] P).length ≤ 262144) := Lib.hid (srt_le _ HB1'.out.1 fun z hz => ((HB1'.out.2 z).1 hz).elim (fun e => HX.out.raw.pl z (List.mem_of_mem_take e)) (fun e => HY.out.raw.pl z (List.mem_of_mem_take e)))
      obtain ⟨p, hp⟩ : ∃ p, p = x.P[i] := ⟨_, rfl⟩
      rw [← hp] at ce HB1' HPL
      obtain ⟨n5, hn5⟩ : ∃ n5, n5 = (ins p P).length := ⟨_, rfl⟩
      have hn52 : n5 ≤ 262144 := by rw [hn5]; exact HPL.out
      have HPU : Hid (∀ V, Below wr.heap.size wr V → Calls Tryd.prog 31 #[.slice pa pn pc, .int .i64 (p : Int)] V fun e w' => ∃ a5 c5, e = .returned (.slice a5 n5 c5) ∧ w'.cell? ⟨B3, 2, none⟩ = some (.slice pa pn pc) ∧ w'.frozen? ⟨B3, 2, none⟩ = false ∧ Hid (Out W4 (w'.setCell ⟨B3, 2, none⟩ (.slice a5 n5 c5)) B3 g none 0 0 a5 n5 c5 [] (ins p P))) := Lib.hid fun V hV => by
        refine (HO.out.callP HTB1.out.1 p (by omega) hV).mono ?_
        rintro e w' ⟨a5, c5, rfl, H5⟩
        exact ⟨a5, c5, by rw [hn5], H5.out.2.1.p, H5.out.2.1.f 2, Lib.hid (H5.out.2.1.putP hn5 H5.out.1)⟩
      clear hp hn5 HO HPL HTB1
      go_wp2_with fail
      go_still_tail 7, (by kernel_rfl)
      go_wp2_with fail
      refine (HPU.out _ (Below.refl _ _).drew).mono ?_
      rintro e w5 ⟨a5, c5, rfl, hc5, hf5, HP5⟩
      go_wp2
      go_roundw
      case rel => exact ⟨i + 1, n5, c5, a5, ins p P, by omega, by go_num, hn52, HB1', HP5⟩
      case measure => simp [intOf]; omega
    · have hki : ¬ (i : Int) < (n' : Int) := by omega
      have HPS0 : Hid (POr x y n' 0 P) := Lib.hid (by have := HTB1.out; rwa [show i = n' by omega] at this)
      have HOS := HO
      go_wp2_with fail
      clear HO HTB1 x0 x1 x2 y0 y1 y2 o2
      go_loopw [7] (fun v wr => ∃ (i pn pc : Nat) (pa : Option Addr) (P : List Nat), i ≤ k' ∧ v = .int .i64 i ∧ pn ≤ 262144 ∧ Hid (POr x y n' i P) ∧ Hid (Out W4 wr B3 g none 0 0 pa pn pc [] P)) (fun v _ => k' - (intOf v).toNat)
      case atStart => exact ⟨0, pn, pc, pa, P, by omega, rfl, hpn, HPS0, HOS⟩
      case round =>
        rename World => wr
        obtain ⟨i, pn, pc, pa, P, hi, rfl, hpn, HTB1, HO⟩ := hrel
        clear HOS
        obtain ⟨x0, x1, x2, y0, y1, y2⟩ := HCA.out _ _ _ _ _ _ _ _ _ HO.out
        have o2 := HO.out.p
        by_cases hlt : i < k'
        · have hlt' : i < y.P.length := by rw [← HK'.out]; exact hlt
          obtain ⟨eb, eo, rfl, hel, ce⟩ := (HPB.out.kept HO.out.kept).at hlt'
          have hii : (i : Int) < (k' : Int) := by omega
          have HB1' : Hid (POr x y n' (i + 1) (ins y.P[i] P)) := Lib.hid ((HTB1.out.swap.add hlt').swap)
          have HPL : Hid ((ins y.P[i] P).length ≤ 262144) := Lib.hid (srt_le _ HB1'.out.1 fun z hz => ((HB1'.out.2 z).1 hz).elim (fun e => HX.out.raw.pl z (List.mem_of_mem_take e)) (fun e => HY.out.raw.pl z (List.mem_of_mem_take e)))
          obtain ⟨p, hp⟩ : ∃ p, p = y.P[i] := ⟨_, rfl⟩
          rw [← hp] at ce HB1' HPL
          obtain ⟨n5, hn5⟩ : ∃ n5, n5 = (ins p P).length := ⟨_, rfl⟩
          have hn52 : n5 ≤ 262144 := by rw [hn5]; exact HPL.out
          have HPU : Hid (∀ V, Below wr.heap.size wr V → Calls Tryd.prog 31 #[.slice pa pn pc, .int .i64 (p : Int)] V fun e w' => ∃ a5 c5, e = .returned (.slice a5 n5 c5) ∧ w'.cell? ⟨B3, 2, none⟩ = some (.slice pa pn pc) ∧ w'.frozen? ⟨B3, 2, none⟩ = false ∧ Hid (Out W4 (w'.setCell ⟨B3, 2, none⟩ (.slice a5 n5 c5)) B3 g none 0 0 a5 n5 c5 [] (ins p P))) := Lib.hid fun V hV => by
            refine (HO.out.callP HTB1.out.1 p (by omega) hV).mono ?_
            rintro e w' ⟨a5, c5, rfl, H5⟩
            exact ⟨a5, c5, by rw [hn5], H5.out.2.1.p, H5.out.2.1.f 2, Lib.hid (H5.out.2.1.putP hn5 H5.out.1)⟩
          clear hp hn5 HO HPL HTB1
          go_wp2_with fail
          go_still_tail 7, (by kernel_rfl)
          go_wp2_with fail
          refine (HPU.out _ (Below.refl _ _).drew).mono ?_
          rintro e w5 ⟨a5, c5, rfl, hc5, hf5, HP5⟩
          go_wp2
          go_roundw
          case rel => exact ⟨i + 1, n5, c5, a5, ins p P, by omega, by go_num, hn52, HB1', HP5⟩
          case measure => simp [intOf]; omega
        · have hki : ¬ (i : Int) < (k' : Int) := by omega
          have HPS : Hid (Says [] P (fun _ => False) (EitherP x y)) := Lib.hid ⟨List.Pairwise.nil, HTB1.out.1, by simp, fun p => by
            rw [HTB1.out.2, List.take_of_length_le (by have := HN'.out; omega), List.take_of_length_le (by have := HK'.out; omega)]; exact Iff.rfl⟩
          have HOS := HO
          go_wp2_with fail
          clear HO HTB1 x0 x1 x2 y0 y1 y2 o2
          go_loopw [8] (fun v wr => ∃ (i tn tc : Nat) (ta : Option Addr) (T : List Nat), i ≤ n ∧ v = .int .i64 i ∧ tn ≤ i ∧ Hid (TOr x y i 0 T) ∧ Hid (Out W4 wr B3 g ta tn tc pa pn pc T P)) (fun v _ => n - (intOf v).toNat)
          case atStart => exact ⟨0, 0, 0, none, [], by omega, rfl, by omega, Lib.hid ⟨List.Pairwise.nil, by simp⟩, HOS⟩
          case round =>
            rename World => wr
            obtain ⟨i, tn, tc, ta, T, hi, rfl, htn, HTB1, HO⟩ := hrel
            clear HOS
            obtain ⟨x0, x1, x2, y0, y1, y2⟩ := HCA.out _ _ _ _ _ _ _ _ _ HO.out
            have o1 := HO.out.t
            have o2 := HO.out.p
            by_cases hlt : i < n
            · have hlt' : i < x.T.length := by rw [← HN.out]; exact hlt
              obtain ⟨eb, eo, rfl, hel, ce⟩ := (HTA.out.kept HO.out.kept).at hlt'
              have hii : (i : Int) < (n : Int) := by omega
              have HYES : Hid (x.T[i] / 64 ∉ P → TOr x y (i + 1) 0 (ins x.T[i] T)) := Lib.hid fun h0 => by
                have h : ¬ EitherP x y (x.T[i] / 64) := fun e => h0 ((HPS.out.mp _).2 e)
                exact HTB1.out.yes hlt' h
              have HNO : Hid (x.T[i] / 64 ∈ P → TOr x y (i + 1) 0 T) := Lib.hid fun h0 => by
                have h : EitherP x y (x.T[i] / 64) := (HPS.out.mp _).1 h0
                exact HTB1.out.no hlt' h
              have htl : x.T[i] < 16777216 := HX.out.raw.tl _ (List.getElem_mem hlt')
              obtain ⟨t, ht⟩ : ∃ t, t = x.T[i] := ⟨_, rfl⟩
              rw [← ht] at ce HYES HNO htl
              have HPG : Hid (∀ W, Calls Tryd.prog 33 #[.int .i64 (t : Int)] W fun e w' => e = .returned (.int .i64 ((t / 64 : Nat) : Int)) ∧ w' = W) := Lib.hid fun W => (rpage_any t W htl).mono fun _ _ h => ⟨h.1, h.2.symm⟩
              have HIN : Hid (∀ j, Calls Tryd.prog 30 #[.slice pa pn pc, .int .i64 ((t / 64 : Nat) : Int)] (wr.drewN j) fun e w' => e = .returned (.bool (decide (t / 64 ∈ P))) ∧ w' = wr.drewN j) := Lib.hid fun j => (rin_any pc (HO.out.np.below (belowDrewN wr j)) HO.out.pl _ (by omega)).mono fun _ _ h => ⟨h.1, h.2.symm⟩
              obtain ⟨pg, hpg⟩ : ∃ pg, pg = t / 64 := ⟨_, rfl⟩
              rw [← hpg] at HPG HIN HYES HNO
              clear ht hpg
              by_cases hin : pg ∈ P
              · rw [decide_eq_true hin] at HIN
                have HB1' := Lib.hid (HNO.out hin)
                clear hin HYES HNO
                go_wp2_with fail
                go_quiet ((first
                  | (go_at_call 33; exact Calls.quiet_of_same (HPG.out _))
                  | (go_at_call 30; exact Calls.quiet_of_same (HIN.out _))))
                go_wp2
                go_roundw
                case rel => exact ⟨i + 1, tn, tc, ta, T, by omega, by go_num, by omega, HB1', Lib.hid (HO.out.below (belowDrewN _ _))⟩
                case measure => simp [intOf]; omega
              · rw [decide_eq_false hin] at HIN
                have HB1' := Lib.hid (HYES.out hin)
                clear hin HYES HNO
                go_wp2_with fail
                go_quiet ((first
                  | (go_at_call 33; exact Calls.quiet_of_same (HPG.out _))
                  | (go_at_call 30; exact Calls.quiet_of_same (HIN.out _))))
                obtain ⟨V0, hV0⟩ : ∃ V0, V0 = wr.drewN nq := ⟨_, rfl⟩
                rw [← hV0]
                have HOV : Hid (Out W4 V0 B3 g ta tn tc pa pn pc T P) := Lib.hid (by rw [hV0]; exact HO.out.below (belowDrewN _ _))
                have ce0 : V0.cell? ⟨eb, eo + i, none⟩ = some (.int .i64 (t : Int)) := by rw [hV0]; exact ((belowDrewN wr nq).cell (p := ⟨eb, eo + i, none⟩) hel).trans ce
                obtain ⟨u0, u1, u2, v0, v1, v2⟩ := HCA.out _ _ _ _ _ _ _ _ _ HOV.out
                have o3 := HOV.out.t
                obtain ⟨n5, hn5⟩ : ∃ n5, n5 = (ins t T).length := ⟨_, rfl⟩
                have hn52 : n5 ≤ tn + 1 := by rw [hn5, HOV.out.tl]; exact length_ins_le _ _
                have HPU : Hid (∀ V, Below V0.heap.size V0 V → Calls Tryd.prog 31 #[.slice ta tn tc, .int .i64 (t : Int)] V fun e w' => ∃ a5 c5, e = .returned (.slice a5 n5 c5) ∧ w'.cell? ⟨B3, 1, none⟩ = some (.slice ta tn tc) ∧ w'.frozen? ⟨B3, 1, none⟩ = false ∧ Hid (Out W4 (w'.setCell ⟨B3, 1, none⟩ (.slice a5 n5 c5)) B3 g a5 n5 c5 pa pn pc (ins t T) P)) := Lib.hid fun V hV => by
                  refine (HOV.out.callT HTB1.out.1 t (by omega) hV).mono ?_
                  rintro e w' ⟨a5, c5, rfl, H5⟩
                  exact ⟨a5, c5, by rw [hn5], H5.out.2.1.t, H5.out.2.1.f 1, Lib.hid (H5.out.2.1.putT hn5 H5.out.1)⟩
                clear hV0 hn5 HO ce x0 x1 x2 y0 y1 y2 o1 o2 HIN HPG HTB1
                go_wp2_with fail
                go_still_tail 7, (by kernel_rfl)
                go_wp2_with fail
                refine (HPU.out _ (Below.refl _ _).drew).mono ?_
                rintro e w5 ⟨a5, c5, rfl, hc5, hf5, HP5⟩
                go_wp2
                go_roundw
                case rel => exact ⟨i + 1, n5, c5, a5, ins t T, by omega, by go_num, by omega, HB1', HP5⟩
                case measure => simp [intOf]; omega
            · have hki : ¬ (i : Int) < (n : Int) := by omega
              have HTS : Hid (TOr x y n 0 T) := Lib.hid (by have := HTB1.out; rwa [show i = n by omega] at this)
              have HOS := HO
              go_wp2_with fail
              clear HO HTB1 x0 x1 x2 y0 y1 y2 o1 o2
              go_loopw [9] (fun v wr => ∃ (i tn tc : Nat) (ta : Option Addr) (T : List Nat), i ≤ k ∧ v = .int .i64 i ∧ tn ≤ n + i ∧ Hid (TOr x y n i T) ∧ Hid (Out W4 wr B3 g ta tn tc pa pn pc T P)) (fun v _ => k - (intOf v).toNat)
              case atStart => exact ⟨0, tn, tc, ta, T, by omega, rfl, by omega, HTS, HOS⟩
              case round =>
                rename World => wr
                obtain ⟨i, tn, tc, ta, T, hi, rfl, htn, HTB1, HO⟩ := hrel
                clear HOS
                obtain ⟨x0, x1, x2, y0, y1, y2⟩ := HCA.out _ _ _ _ _ _ _ _ _ HO.out
                have o1 := HO.out.t
                have o2 := HO.out.p
                by_cases hlt : i < k
                · have hlt' : i < y.T.length := by rw [← HK.out]; exact hlt
                  obtain ⟨eb, eo, rfl, hel, ce⟩ := (HTB.out.kept HO.out.kept).at hlt'
                  have hii : (i : Int) < (k : Int) := by omega
                  have HYES : Hid (y.T[i] / 64 ∉ P → TOr x y n (i + 1) (ins y.T[i] T)) := Lib.hid fun h0 => by
                    have h : ¬ EitherP x y (y.T[i] / 64) := fun e => h0 ((HPS.out.mp _).2 e)
                    exact (HTB1.out.swap.yes hlt' (fun e => h (Or.comm.1 e))).swap
                  have HNO : Hid (y.T[i] / 64 ∈ P → TOr x y n (i + 1) T) := Lib.hid fun h0 => by
                    have h : EitherP x y (y.T[i] / 64) := (HPS.out.mp _).1 h0
                    exact (HTB1.out.swap.no hlt' (Or.comm.1 h)).swap
                  have htl : y.T[i] < 16777216 := HY.out.raw.tl _ (List.getElem_mem hlt')
                  obtain ⟨t, ht⟩ : ∃ t, t = y.T[i] := ⟨_, rfl⟩
                  rw [← ht] at ce HYES HNO htl
                  have HPG : Hid (∀ W, Calls Tryd.prog 33 #[.int .i64 (t : Int)] W fun e w' => e = .returned (.int .i64 ((t / 64 : Nat) : Int)) ∧ w' = W) := Lib.hid fun W => (rpage_any t W htl).mono fun _ _ h => ⟨h.1, h.2.symm⟩
                  have HIN : Hid (∀ j, Calls Tryd.prog 30 #[.slice pa pn pc, .int .i64 ((t / 64 : Nat) : Int)] (wr.drewN j) fun e w' => e = .returned (.bool (decide (t / 64 ∈ P))) ∧ w' = wr.drewN j) := Lib.hid fun j => (rin_any pc (HO.out.np.below (belowDrewN wr j)) HO.out.pl _ (by omega)).mono fun _ _ h => ⟨h.1, h.2.symm⟩
                  obtain ⟨pg, hpg⟩ : ∃ pg, pg = t / 64 := ⟨_, rfl⟩
                  rw [← hpg] at HPG HIN HYES HNO
                  clear ht hpg
                  by_cases hin : pg ∈ P
                  · rw [decide_eq_true hin] at HIN
                    have HB1' := Lib.hid (HNO.out hin)
                    clear hin HYES HNO
                    go_wp2_with fail
                    go_quiet ((first
                      | (go_at_call 33; exact Calls.quiet_of_same (HPG.out _))
                      | (go_at_call 30; exact Calls.quiet_of_same (HIN.out _))))
                    go_wp2
                    go_roundw
                    case rel => exact ⟨i + 1, tn, tc, ta, T, by omega, by go_num, by omega, HB1', Lib.hid (HO.out.below (belowDrewN _ _))⟩
                    case measure => simp [intOf]; omega
                  · rw [decide_eq_false hin] at HIN
                    have HB1' := Lib.hid (HYES.out hin)
                    clear hin HYES HNO
                    go_wp2_with fail
                    go_quiet ((first
                      | (go_at_call 33; exact Calls.quiet_of_same (HPG.out _))
                      | (go_at_call 30; exact Calls.quiet_of_same (HIN.out _))))
                    obtain ⟨V0, hV0⟩ : ∃ V0, V0 = wr.drewN nq := ⟨_, rfl⟩
                    rw [← hV0]
                    have HOV : Hid (Out W4 V0 B3 g ta tn tc pa pn pc T P) := Lib.hid (by rw [hV0]; exact HO.out.below (belowDrewN _ _))
                    have ce0 : V0.cell? ⟨eb, eo + i, none⟩ = some (.int .i64 (t : Int)) := by rw [hV0]; exact ((belowDrewN wr nq).cell (p := ⟨eb, eo + i, none⟩) hel).trans ce
                    obtain ⟨u0, u1, u2, v0, v1, v2⟩ := HCA.out _ _ _ _ _ _ _ _ _ HOV.out
                    have o3 := HOV.out.t
                    obtain ⟨n5, hn5⟩ : ∃ n5, n5 = (ins t T).length := ⟨_, rfl⟩
                    have hn52 : n5 ≤ tn + 1 := by rw [hn5, HOV.out.tl]; exact length_ins_le _ _
                    have HPU : Hid (∀ V, Below V0.heap.size V0 V → Calls Tryd.prog 31 #[.slice ta tn tc, .int .i64 (t : Int)] V fun e w' => ∃ a5 c5, e = .returned (.slice a5 n5 c5) ∧ w'.cell? ⟨B3, 1, none⟩ = some (.slice ta tn tc) ∧ w'.frozen? ⟨B3, 1, none⟩ = false ∧ Hid (Out W4 (w'.setCell ⟨B3, 1, none⟩ (.slice a5 n5 c5)) B3 g a5 n5 c5 pa pn pc (ins t T) P)) := Lib.hid fun V hV => by
                      refine (HOV.out.callT HTB1.out.1 t (by omega) hV).mono ?_
                      rintro e w' ⟨a5, c5, rfl, H5⟩
                      exact ⟨a5, c5, by rw [hn5], H5.out.2.1.t, H5.out.2.1.f 1, Lib.hid (H5.out.2.1.putT hn5 H5.out.1)⟩
                    clear hV0 hn5 HO ce x0 x1 x2 y0 y1 y2 o1 o2 HIN HPG HTB1
                    go_wp2_with fail
                    go_still_tail 7, (by kernel_rfl)
                    go_wp2_with fail
                    refine (HPU.out _ (Below.refl _ _).drew).mono ?_
                    rintro e w5 ⟨a5, c5, rfl, hc5, hf5, HP5⟩
                    go_wp2
                    go_roundw
                    case rel => exact ⟨i + 1, n5, c5, a5, ins t T, by omega, by go_num, by omega, HB1', HP5⟩
                    case measure => simp [intOf]; omega
                · have hki : ¬ (i : Int) < (k : Int) := by omega
                  have HSY : Hid (Says T P (EitherT x y) (EitherP x y)) := Lib.hid ⟨HTB1.out.1, HPS.out.sp, fun t => by
                    rw [HTB1.out.2, List.take_of_length_le (by have := HN.out; omega), List.take_of_length_le (by have := HK.out; omega)]; exact Iff.rfl, HPS.out.mp⟩
                  have HRW := Lib.hid (either_raw HX.out HY.out HSY.out)
                  have hg64 : g ≤ 64 := by have := HG.out; have := HM.out; have := HX.out.most; omega
                  have HBW : Hid (Below w.heap.size w wr) := Lib.hid (HB4.out.trans (HO.out.kept.toBelow (by have := HB4.out.size; omega) (fun q e => by have : q = B3 := e; have := HLT.out; omega)))
                  have hkr : wr.heap[B2]? = some (.cells #[.int .i64 0, .slice none 0 0, .slice none 0 0] 27 (0, 0)) := (HO.out.kept.block B2 HLT.out.2.2.1 HLT.out.2.2.2.2.2.1).trans HKR.out
                  have hB2l : B2 < wr.heap.size := (Array.getElem?_eq_some_iff.1 hkr).1
                  have o0 : wr.cell? ⟨B3, 0, none⟩ = some (.int .i64 (g : Int)) := Lib.cell_of_heap HO.out.box 0
                  have o2 := HO.out.p
                  have hmo : ∀ q, q = B2 → So B3 q := fun q e => .inr (by have := HBE.out; omega)
                  have HDG : Hid (∀ V, Below wr.heap.size wr V → Calls Tryd.prog 32 #[.agg #[.int .i64 (g : Int), .slice ta tn tc, .slice pa pn pc]] V fun e w' => ∃ (a5 : Option Addr) (n5 c5 : Nat) (a6 : Option Addr) (n6 c6 : Nat), e = .returned (.agg #[.int .i64 (g : Int), .slice a5 n5 c5, .slice a6 n6 c6]) ∧
                      w'.heap[B2]? = some (.cells #[.int .i64 0, .slice none 0 0, .slice none 0 0] 27 (0, 0)) ∧ Hid ((∃ s : Tset, s.most = g ∧ OrTo x y s ∧ RAt (fun q => q = B2) w' s (rv s.most a5 n5 c5 a6 n6 c6)) ∧ Below w.heap.size w w')) := Lib.hid fun V hV => by
                    refine (rdegrades_any (S := fun q => q = B2) (c := tc) (c' := pc) HO.out.tl HO.out.pl ((HO.out.nt.mono hmo).below hV) ((HO.out.np.mono hmo).below hV) HRW.out (by omega) hg64 (fun q e => by have : q = B2 := e; have := hV.size; omega)).mono ?_
                    rintro e w' ⟨T', P', v, rfl, hd, hr, hb⟩
                    have hr0 := hr
                    obtain ⟨a5, n5, c5, a6, n6, c6, rfl, _⟩ := hr
                    exact ⟨a5, n5, c5, a6, n6, c6, rfl, (hb.block B2 (Nat.lt_of_lt_of_le hB2l hV.size)).trans ((hV.block B2 hB2l).trans hkr), Lib.hid ⟨⟨⟨g, T', P'⟩, rfl, ⟨by show g = min x.most y.most; rw [HG.out, HM.out, HM2.out], T, P, HSY.out, hd⟩, hr0⟩, bel3 HBW.out (bel3 hV hb)⟩⟩
                  clear hmo
                  go_wp2_with fail
                  refine (HDG.out _ (Below.refl _ _)).mono ?_
                  rintro e w6 ⟨a5, n5, c5, a6, n6, c6, rfl, hk6, HP6⟩
                  have f0 := froz_of hk6 0
                  have f1 := froz_of hk6 1
                  have f2 := froz_of hk6 2
                  have r0 : w6.cell? ⟨B2, 0, none⟩ = some (.int .i64 0) := Lib.cell_of_heap hk6 0
                  have r1 : w6.cell? ⟨B2, 1, none⟩ = some (.slice none 0 0) := Lib.cell_of_heap hk6 1
                  have r2 : w6.cell? ⟨B2, 2, none⟩ = some (.slice none 0 0) := Lib.cell_of_heap hk6 2
                  have HE : Hid ((((w6.setCell ⟨B2, 0, none⟩ (.int .i64 (g : Int))).setCell ⟨B2, 1, none⟩ (.slice a5 n5 c5)).setCell ⟨B2, 2, none⟩ (.slice a6 n6 c6)).heap[B2]? = some (.cells #[.int .i64 (g : Int), .slice a5 n5 c5, .slice a6 n6 c6] 27 (0, 0)) ∧
                      ∃ s v', Ending.returned (.agg #[.int .i64 (g : Int), .slice a5 n5 c5, .slice a6 n6 c6]) = .returned v' ∧ OrTo x y s ∧ RAt (fun _ => False) (((w6.setCell ⟨B2, 0, none⟩ (.int .i64 (g : Int))).setCell ⟨B2, 1, none⟩ (.slice a5 n5 c5)).setCell ⟨B2, 2, none⟩ (.slice a6 n6 c6)) s v' ∧ Below w.heap.size w (((w6.setCell ⟨B2, 0, none⟩ (.int .i64 (g : Int))).setCell ⟨B2, 1, none⟩ (.slice a5 n5 c5)).setCell ⟨B2, 2, none⟩ (.slice a6 n6 c6))) := Lib.hid (by
                    obtain ⟨⟨s, hs, ha, hr⟩, hb⟩ := HP6.out
                    have hk7 := three_kept (fun q => q = B2) (w := w6) (b := B2) rfl (.int .i64 (g : Int)) (.slice a5 n5 c5) (.slice a6 n6 c6)
                    exact ⟨three hk6 _ _ _, s, _, by rw [← hs]; rfl, ha, (hr.kept hk7).mono (fun _ e => e.elim), hb.trans (hk7.toBelow (by have := hb.size; omega) (fun q e => by have := HBE.out; omega))⟩)
                  clear hk6 HP6 HDG hkr
                  go_wp2
                  exact bodyPost_ret (v := .agg #[.int .i64 (g : Int), .slice a5 n5 c5, .slice a6 n6 c6]) (by
                    have e0 := Lib.cell_of_heap HE.out.1 0
                    have e1 := Lib.cell_of_heap HE.out.1 1
                    have e2 := Lib.cell_of_heap HE.out.1 2
                    simp [results, Tryd.results15, go_sem, e0, e1, e2]) rfl HE.out.2
end Go.Proofs.YtpjpkpbfbbpmdaaDoor.Ts
