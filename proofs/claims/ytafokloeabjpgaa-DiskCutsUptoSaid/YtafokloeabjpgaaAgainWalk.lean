/- The walk of DiskAgain. -/
import Derived.Test.YtafokloeabjpgaaKO
import Derived.Test.YtafokloeabjpgaaKQ
import Derived.Test.YtafokloeabjpgaaKR
import Derived.Deep.DeepCutAuto
import Derived.Deep.Cut
import Derived.Deep.CutRange
import Derived.Deep.QuietTactic
import Derived.BigQuiet
set_option maxRecDepth 100000
namespace Go.Proofs.Ytafokloeabjpgaa
open Go.RowKit

/-- A disk of the call's own behind at most m raw writes; of what was there nothing has changed. -/
def One (B : Nat) (w wr : World) (d m : Nat) : Prop := ∃ S ops, DiskAt S d ops wr ∧ ops.length ≤ m ∧ (∀ k, S k → B ≤ k ∧ k < wr.heap.size) ∧ Below B w wr

theorem step_len (k f n : Int) (s : ByteArray) (F : Nat → List UInt8) : (step k f n s F).toList.length ≤ 1 := by cases step k f n s F <;> simp

theorem sl_at {w wr : World} {a : Option Addr} {xs : List It} (h : Sl w a xs) (hb : Below w.heap.size w wr) {j : Nat} (hj : j < xs.length) :
    ∃ b off, a = some ⟨b, off, none⟩ ∧ wr.cell? ⟨b, off + j * 4, none⟩ = some (.int .i64 (xs[j]'hj).k) ∧ wr.cell? ⟨b, off + j * 4 + 1, none⟩ = some (.int .i64 (xs[j]'hj).f) ∧ wr.cell? ⟨b, off + j * 4 + 2, none⟩ = some (.int .i64 (xs[j]'hj).n) ∧ wr.cell? ⟨b, off + j * 4 + 3, none⟩ = some (.string (xs[j]'hj).s) ∧ b < w.heap.size := by
  rcases h.below hb with h0 | ⟨b, off, ha, hbw, hc⟩
  · subst h0; simp at hj
  · rcases h with h0 | ⟨b', off', ha', hbw', _⟩
    · subst h0; simp at hj
    · rw [ha] at ha'
      cases ha'
      exact ⟨b, off, ha, (hc j hj).1, (hc j hj).2.1, (hc j hj).2.2.1, (hc j hj).2.2.2, hbw'⟩

theorem tmod_le (p : Int) (N : Nat) : -(N : Int) ≤ p.tmod (N + 1) ∧ p.tmod (N + 1) ≤ N := by
  have h : (p.tmod (N + 1)).natAbs = p.natAbs % (N + 1) := by
    rw [Int.natAbs_tmod]
    rfl
  have h2 : p.natAbs % (N + 1) < N + 1 := Nat.mod_lt _ (by omega)
  omega

set_option maxHeartbeats 8000000 in
theorem again_walk (a : Option Addr) (xs : List It) (lc : Nat) (p q : Int) (w : World) (hSl : Sl w a xs) (hF : ∀ x ∈ xs, x.Fits) (hxl : xs.length ≤ 3518437208780) (hp : I64 p) (hq : I64 q) :
    Calls Try.prog 5 #[.slice a xs.length lc, .int .i64 p, .int .i64 q] w fun e w' => e = .returned (.bool true) ∧ Below w.heap.size w w' := by
  obtain ⟨B, hBe⟩ : ∃ B, B = w.heap.size := ⟨_, rfl⟩
  rw [← hBe]
  have hBle : B ≤ w.heap.size := by omega
  have HBE := Lib.hid hBe; clear hBe
  obtain ⟨ll, hll⟩ : ∃ ll, ll = xs.length := ⟨_, rfl⟩
  rw [← hll] at hxl ⊢
  have HL := Lib.hid hll; clear hll
  have HS := Lib.hid hSl; clear hSl
  have HF := Lib.hid hF; clear hF
  have HP := Lib.hid hp; clear hp
  have HQ := Lib.hid hq; clear hq
  go_enter Try.func5, Try.ntmps5
  go_wp2_with (go_at_call 8; refine (new_disk _).mono ?_)
  rw [← HBE.out]
  rintro e w1 ⟨rfl, hd1, hb1⟩
  have h0 : One B w w1 B 0 := ⟨_, [], hd1.bound, Nat.le_refl _, fun k hk => hk, hb1⟩
  have H0 := Lib.hid h0; clear h0 hd1 hb1
  go_wp2
  go_loopw [8] (fun vi wr => ∃ j : Nat, j ≤ ll ∧ vi = .int .i64 j ∧ Hid (One B w wr B j)) (fun vi _ => ll - (intOf vi).toNat)
  case atStart => exact ⟨0, Nat.zero_le _, rfl, H0⟩
  case round =>
    obtain ⟨j, hj, rfl, HI⟩ := hrel
    obtain ⟨S, ops, hD, hol, hSB, hbw⟩ := HI.out
    have hbw' : Below w.heap.size w wr := by rw [← HBE.out]; exact hbw
    have HD := Lib.hid hD; clear hD
    have HSB := Lib.hid hSB; clear hSB
    have HBW := Lib.hid hbw; clear hbw
    have hsz : B ≤ wr.heap.size := Nat.le_trans hBle HBW.out.size
    by_cases hlt : j < ll
    · have hjx : j < xs.length := by rw [← HL.out]; exact hlt
      obtain ⟨b, off, rfl, c0, c1, c2, c3, hb0⟩ := sl_at HS.out hbw' hjx
      have hfit := HF.out _ (List.getElem_mem hjx)
      obtain ⟨x, hx⟩ : ∃ x, x = xs[j]'hjx := ⟨_, rfl⟩
      rw [← hx] at c0 c1 c2 c3 hfit
      have HX := Lib.hid hx; clear hx
      have HFIT := Lib.hid hfit; clear hfit
      obtain ⟨sb, hsb⟩ : ∃ sb, smallB x.n x.s = sb := ⟨_, rfl⟩
      go_wp2_with (go_at_call 9; refine (small_any x.k x.f x.n x.s _).mono ?_)
      rw [hsb]
      rintro e w2 ⟨rfl, hb2⟩
      have hw2 : Below B w w2 := HBW.out.trans (hb2.mono hsz)
      have HW2 := Lib.hid hw2; clear hw2
      have HD2 := Lib.hid (HD.out.below hb2)
      have hsz2 : B ≤ w2.heap.size := Nat.le_trans hsz hb2.size
      have hle2 := hb2.size
      cases sb
      · go_wp2_with (go_at_call 10; refine (awake_any _).mono ?_; rintro e w3 ⟨rfl, hb3⟩)
        go_ret
        exact ⟨rfl, HW2.out.trans (hb3.mono hsz2)⟩
      · have hbr : b < wr.heap.size := by have := hbw'.size; omega
        have d0 : w2.cell? ⟨b, off + j * 4, none⟩ = some (.int .i64 x.k) := (hb2.cell hbr).trans c0
        have d1 : w2.cell? ⟨b, off + j * 4 + 1, none⟩ = some (.int .i64 x.f) := (hb2.cell hbr).trans c1
        have d2 : w2.cell? ⟨b, off + j * 4 + 2, none⟩ = some (.int .i64 x.n) := (hb2.cell hbr).trans c2
        have d3 : w2.cell? ⟨b, off + j * 4 + 3, none⟩ = some (.string x.s) := (hb2.cell hbr).trans c3
        have hlen : ops.length ≤ 4398046511104 := by omega
        have HDO := Lib.hid (does_any x.k x.f x.n x.s S B ops _ (fun _ => []) 0 w2 HD2.out (refAt_nil S w2) (fun k hk => by have := (HSB.out k hk).2; omega) hlen (by omega) (fun _ => by simp) HFIT.out.2.2.2)
        clear hb2 c0 c1 c2 c3
        go_wp2_with (go_at_call 11; refine HDO.out.mono ?_)
        rintro e w3 ⟨v', bb, rfl, _, S', hD3, hR3, hSS, hS3, hSz, hK⟩
        have hone : One B w w3 B (j + 1) := ⟨S', _, hD3, by rw [List.length_append]; have := step_len x.k x.f x.n x.s (play ops); omega, fun k hk => ⟨(hS3 k hk).elim (fun h => (HSB.out k h).1) (by omega), hSz k hk⟩, HW2.out.trans (hK.toBelow hsz2 (fun i hi => (HSB.out i hi).1))⟩
        have HO := Lib.hid hone
        clear hone hD3 hR3 hSS hS3 hSz hK
        go_wp2
        go_roundw
        case rel => exact ⟨j + 1, by omega, by go_num, HO⟩
        case measure => simp [intOf]; omega
    · obtain ⟨N, hN⟩ : ∃ N, N = ops.length := ⟨_, rfl⟩
      have hNl : N ≤ 4398046511104 := by omega
      have hws : Calls Try.prog 18 #[.pointer (some ⟨B, 0, none⟩)] wr fun e w' => e = .returned (.int .i64 N) ∧ w' = wr := by rw [hN]; exact writes_ok S B ops wr HD.out
      have HWS := Lib.hid hws; clear hws
      have HN := Lib.hid hN; clear hN
      have hn1 : ¬ ((N : Int) + 1 = 0) := by omega
      go_wp2_with (go_at_call 18; refine HWS.out.mono ?_; rintro e w6 ⟨rfl, hw6⟩; subst w6)
      obtain ⟨X, hX⟩ : ∃ X, p.tmod ((N : Int) + 1) = X := ⟨_, rfl⟩
      obtain ⟨Y, hY⟩ : ∃ Y, q.tmod ((N : Int) + 1) = Y := ⟨_, rfl⟩
      have hXb := tmod_le p N
      have hYb := tmod_le q N
      rw [hX] at hXb
      rw [hY] at hYb
      go_quiet (fail)
      go_upto_if 57 with fail
      go_cut [10] (fun x wx => (∃ m : Nat, m ≤ N ∧ x = .int .i64 m) ∧ wx = wr.drewN nq)
      case first =>
        go_wp2_with fail
        all_goals go_meet
        all_goals first
          | exact ⟨⟨X.toNat, by omega, by congr 1; omega⟩, rfl⟩
          | exact ⟨⟨(-X).toNat, by omega, by congr 1; omega⟩, rfl⟩
      case rest =>
        obtain ⟨⟨m1, hm1, rfl⟩, rfl⟩ := hcut
        clear hXb
        go_upto_if 61 with fail
        go_cut [11] (fun x wx => (∃ m : Nat, m ≤ N ∧ x = .int .i64 m) ∧ wx = wr.drewN nq)
        case first =>
          go_wp2_with fail
          all_goals go_meet
          all_goals first
            | exact ⟨⟨Y.toNat, by omega, by congr 1; omega⟩, rfl⟩
            | exact ⟨⟨(-Y).toNat, by omega, by congr 1; omega⟩, rfl⟩
        case rest =>
          obtain ⟨⟨m2, hm2, rfl⟩, rfl⟩ := hcut
          clear hYb
          go_upto_if 66 with fail
          go_cut [10, 11] (fun x y wx => (∃ m n : Nat, m ≤ N ∧ n ≤ m ∧ x = .int .i64 m ∧ y = .int .i64 n) ∧ wx = wr.drewN nq)
          case first =>
            go_wp2_with fail
            all_goals go_meet
            all_goals first
              | exact ⟨⟨m1, m2, by omega, by omega, rfl, rfl⟩, rfl⟩
              | exact ⟨⟨m2, m1, by omega, by omega, rfl, rfl⟩, rfl⟩
          case rest =>
            obtain ⟨⟨x, y, hx, hy, rfl, rfl⟩, rfl⟩ := hcut
            clear hm1 hm2
            have hlen : ops.length ≤ 4398046511104 := by omega
            obtain ⟨wz, hwz⟩ : ∃ wz, wz = wr.drewN nq := ⟨_, rfl⟩
            rw [← hwz]
            have HDz : Hid (DiskAt S B ops wz) := Lib.hid (by rw [hwz]; exact HD.out.drewN nq)
            have HBz : Hid (Below B w wz) := Lib.hid (by rw [hwz]; exact below_drewN HBW.out nq)
            have hszz : B ≤ wz.heap.size := by rw [hwz]; exact hsz
            clear hwz
            have hxo : x ≤ ops.length := by have := HN.out; omega
            have hyo : y ≤ ops.length := by omega
            have hyx : y ≤ (ops.take x).length := by rw [List.length_take]; omega
            have htt : (ops.take x).take y = ops.take y := by rw [List.take_take, Nat.min_eq_left hy]
            have HXO := Lib.hid hxo; clear hxo
            have HYO := Lib.hid hyo; clear hyo
            have HYX := Lib.hid hyx; clear hyx
            have HTT := Lib.hid htt; clear htt
            have HLN := Lib.hid hlen; clear hlen
            go_wp2_with (go_at_call 15; refine (cut_ok x S B ops _ HDz.out HLN.out HXO.out).mono ?_)
            obtain ⟨c1, hc1⟩ : ∃ c1, c1 = wz.heap.size := ⟨_, rfl⟩
            rw [← hc1]
            rintro e w4 ⟨rfl, hd4, hb4⟩
            have hb4' : Below wz.heap.size wz w4 := by rw [← hc1]; exact hb4
            have HC4 := Lib.hid hd4; clear hd4
            have HD4 := Lib.hid (HDz.out.below hb4')
            have HB4 := Lib.hid (HBz.out.trans (hb4'.mono hszz))
            have hsz4 : B ≤ w4.heap.size := Nat.le_trans hszz hb4'.size
            clear hb4 hb4' hc1
            go_wp2_with (go_at_call 15; refine (cut_ok y (From c1) c1 (ops.take x) _ HC4.out (by rw [List.length_take]; have := HLN.out; omega) HYX.out).mono ?_)
            obtain ⟨c2, hc2⟩ : ∃ c2, c2 = w4.heap.size := ⟨_, rfl⟩
            rw [← hc2, HTT.out]
            rintro e w5 ⟨rfl, hd5, hb5⟩
            have hb5' : Below w4.heap.size w4 w5 := by rw [← hc2]; exact hb5
            have HP5 := Lib.hid hd5; clear hd5
            have HD5 := Lib.hid (HD4.out.below hb5')
            have HB5 := Lib.hid (HB4.out.trans (hb5'.mono hsz4))
            have hsz5 : B ≤ w5.heap.size := Nat.le_trans hsz4 hb5'.size
            clear hb5 hb5' hc2
            go_wp2_with (go_at_call 15; refine (cut_ok y S B ops _ HD5.out HLN.out HYO.out).mono ?_)
            obtain ⟨c3, hc3⟩ : ∃ c3, c3 = w5.heap.size := ⟨_, rfl⟩
            rw [← hc3]
            rintro e w6 ⟨rfl, hd6, hb6⟩
            have hb6' : Below w5.heap.size w5 w6 := by rw [← hc3]; exact hb6
            have HQ6 := Lib.hid hd6; clear hd6
            have HP6 := Lib.hid (HP5.out.below hb6')
            have HB6 := Lib.hid (HB5.out.trans (hb6'.mono hsz5))
            have hsz6 : B ≤ w6.heap.size := Nat.le_trans hsz5 hb6'.size
            clear hb6 hb6' hc3
            obtain ⟨oy, hoy⟩ : ∃ oy, oy = ops.take y := ⟨_, rfl⟩
            rw [← hoy] at HP6 HQ6
            clear hoy
            go_wp2
            go_loopw [18] (fun vi wx => ∃ j : Nat, j ≤ 4 ∧ vi = .int .i64 j ∧ wx = w6) (fun vi _ => 4 - (intOf vi).toNat)
            case atStart => exact ⟨0, by omega, rfl, rfl⟩
            case round =>
              obtain ⟨j2, hj2, rfl, hwx⟩ := hrel
              subst hwx
              by_cases hlt2 : j2 < 4
              · obtain ⟨m, hm⟩ : ∃ m, m = (play oy j2).length := ⟨_, rfl⟩
                obtain ⟨T, hT⟩ : ∃ T : ByteArray, (⟨(((play oy j2).drop 0).take m).toArray⟩ : ByteArray) = T := ⟨_, rfl⟩
                have hz2 := size_ok j2 _ c2 oy _ HP6.out hlt2
                have hz3 := size_ok j2 _ c3 oy _ HQ6.out hlt2
                have hr2 := read_ok j2 0 m _ c2 oy _ HP6.out hlt2 (by omega)
                have hr3 := read_ok j2 0 m _ c3 oy _ HQ6.out hlt2 (by omega)
                rw [← hm] at hz2 hz3
                rw [hT] at hr2 hr3
                have HZ2 := Lib.hid hz2; clear hz2
                have HZ3 := Lib.hid hz3; clear hz3
                have HR2 := Lib.hid hr2; clear hr2
                have HR3 := Lib.hid hr3; clear hr3
                clear hm hT
                go_wp2_with (first
                  | (go_at_call_of 19 c2; refine HZ2.out.mono ?_; rintro e w7 ⟨rfl, hw7⟩; subst w7)
                  | (go_at_call_of 19 c3; refine HZ3.out.mono ?_; rintro e w7 ⟨rfl, hw7⟩; subst w7)
                  | (go_at_call_of 12 c2; refine HR2.out.mono ?_; rintro e w7 ⟨rfl, hw7⟩; subst w7)
                  | (go_at_call_of 12 c3; refine HR3.out.mono ?_; rintro e w7 ⟨rfl, hw7⟩; subst w7))
                go_roundw
                case rel => exact ⟨j2 + 1, by omega, by go_num, trivial⟩
                case measure => simp [intOf]; omega
              · have hw2 := writes_ok _ c2 oy _ HP6.out
                have hw3 := writes_ok _ c3 oy _ HQ6.out
                have HW2 := Lib.hid hw2; clear hw2
                have HW3 := Lib.hid hw3; clear hw3
                go_wp2_with (first
                  | (go_at_call_of 18 c2; refine HW2.out.mono ?_; rintro e w7 ⟨rfl, hw7⟩; subst w7)
                  | (go_at_call_of 18 c3; refine HW3.out.mono ?_; rintro e w7 ⟨rfl, hw7⟩; subst w7)
                  | (go_at_call 10; refine (awake_any _).mono ?_; rintro e w7 ⟨rfl, hb7⟩))
                go_ret
                exact ⟨rfl, HB6.out.trans (hb7.mono hsz6)⟩
end Go.Proofs.Ytafokloeabjpgaa
