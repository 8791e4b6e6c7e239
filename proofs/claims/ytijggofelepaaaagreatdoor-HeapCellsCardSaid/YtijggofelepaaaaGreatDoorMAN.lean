/- Texts of the same proof, one behind the other: FD, HN, HO, FE, FA, VD. -/
import Derived.Test.YtijggofelepaaaaGreatDoorMAB
import Derived.Test.YtijggofelepaaaaGreatDoorMAM
import Derived.BigQuiet
import Derived.StillTailTactics
import Derived.RangeFuncNested
import Derived.RangeFuncCalls
import Derived.Test.YtijggofelepaaaaGreatDoorProg
/- Contract: the sheet that is read from a page's bytes. -/
set_option maxRecDepth 100000
namespace Go.Proofs.YtijggofelepaaaaGreatDoor
open Go.RowKit

theorem built_sheet (c : Int) : Tryz.prog.built 168 [(0, .int .i64 c)] = some (.int .i64 c :: plCells (noP 64)).toArray := by kernel_rfl

theorem SheetAt.put {w : World} {sb q k : Nat} {l : List Pl} (h : SheetAt w sb q l) (p : Pl) : SheetAt ((w.setCell ⟨sb, 1 + k * 2, none⟩ (.string ⟨p.row.toArray⟩)).setCell ⟨sb, 1 + k * 2 + 1, none⟩ (.bool p.dead)) sb q (l.set k p) := by
  rw [Nat.mul_comm]
  unfold SheetAt at h ⊢
  rw [heap_set_at (heap_set_at h _ _) _ _, plCells_set]
  congr 2
  apply Array.ext'
  rw [Array.toList_setIfInBounds, Array.toList_setIfInBounds, List.toList_toArray, List.toList_toArray, show 1 + 2 * k = 2 * k + 1 by omega, List.set_cons_succ, List.set_cons_succ]
theorem sheet_put_below {w : World} {sb i : Nat} {B : Nat} (hB : B ≤ sb) (x y : Value) : Below B w ((w.setCell ⟨sb, i, none⟩ x).setCell ⟨sb, i + 1, none⟩ y) := ((Below.refl B w).setCell (p := ⟨sb, i, none⟩) hB _).setCell (p := ⟨sb, i + 1, none⟩) hB _

theorem and511 (n : Int) : bits .and .i64 n 511 = n % 512 := by
  have h7 : (BitVec.ofInt 64 511).toNat = 2 ^ 9 - 1 := by decide
  have key : (BitVec.ofInt 64 n &&& BitVec.ofInt 64 511).toNat = (n % ((2 ^ 64 : Nat) : Int)).toNat % 2 ^ 9 := by
    rw [BitVec.toNat_and, BitVec.toNat_ofInt, h7, Nat.and_two_pow_sub_one_eq_mod]
  show IntKind.i64.wrap ((BitVec.ofInt 64 n &&& BitVec.ofInt 64 511).toNat : Nat) = n % 512
  rw [key, IntKind.wrap_i64]
  omega
theorem and1' (n : Int) : bits .and .i64 n 1 = n % 2 := by
  have h7 : (BitVec.ofInt 64 1).toNat = 2 ^ 1 - 1 := by decide
  have key : (BitVec.ofInt 64 n &&& BitVec.ofInt 64 1).toNat = (n % ((2 ^ 64 : Nat) : Int)).toNat % 2 ^ 1 := by
    rw [BitVec.toNat_and, BitVec.toNat_ofInt, h7, Nat.and_two_pow_sub_one_eq_mod]
  show IntKind.i64.wrap ((BitVec.ofInt 64 n &&& BitVec.ofInt 64 1).toNat : Nat) = n % 2
  rw [key, IntKind.wrap_i64]
  omega

/-- What sheetOf leaves: a sheet in new memory. -/
def SheetPost (q : Nat) (l : List Pl) (w : World) (e : Ending) (w' : World) : Prop := ∃ sb, e = .returned (.pointer (some ⟨sb, 0, none⟩)) ∧ w.heap.size ≤ sb ∧ SheetAt w' sb q l ∧ Below w.heap.size w w'

set_option maxHeartbeats 3200000 in
theorem sheetOf_any (q : Nat) (b : List UInt8) (hb : b.length = 512) (w : World) :
    Calls Tryz.prog 156 #[.int .i64 q, .string ⟨b.toArray⟩] w (SheetPost q (rdSh b) w) := by
  obtain ⟨Y, hY⟩ : ∃ Y : Array Value, Y = (.int .i64 q :: plCells (noP 64)).toArray := ⟨_, rfl⟩
  have HBD := Lib.hid (built_sheet q)
  rw [← hY] at HBD
  obtain ⟨w1, hw1⟩ : ∃ w1, w1 = w.alloc (.cells Y 168) := ⟨_, rfl⟩
  obtain ⟨sb, hsb⟩ : ∃ sb, sb = w.heap.size := ⟨_, rfl⟩
  have HS1 : Hid (SheetAt w1 sb q (noP 64)) := Lib.hid (by unfold SheetAt; rw [hw1, hsb, ← hY]; exact heap_alloc_new w _)
  have HB1 : Hid (Below w.heap.size w w1) := Lib.hid (by rw [hw1]; exact (Below.refl _ _).alloc (Nat.le_refl _) _)
  obtain ⟨s, hs⟩ : ∃ s : ByteArray, s = ⟨b.toArray⟩ := ⟨_, rfl⟩
  have hsz : s.size = 512 := by rw [hs, ← hb]; rfl
  have HIX : Hid (∀ (j : Nat), j < 512 → ∀ W, (Instr.index 9 (.string s) (.int .i64 (j : Int))).run Tryz.prog W = .ok (.int .u8 ((b.getD j 0).toNat : Int)) W) := Lib.hid fun j hj W => by
    rw [run_index_string W _ _ _ _ (by kernel_rfl), dif_pos ⟨by omega, by omega⟩, List.getD_eq_getElem?_getD, List.getElem?_eq_getElem (by omega)]
    subst hs
    rfl
  have HSL : Hid (∀ x y : Nat, x ≤ y → y ≤ 512 → (s.extract x y) = ⟨((b.drop x).take (y - x)).toArray⟩) := Lib.hid fun x y hxy hy => by
    subst hs
    apply ByteArray.ext
    apply Array.ext'
    simp [ByteArray.data_extract, List.extract_eq_take_drop]
  obtain ⟨n, hn⟩ : ∃ n, n = (b.getD 0 0).toNat := ⟨_, rfl⟩
  have hn5 : n < 256 := by rw [hn]; exact UInt8.toNat_lt _
  have hix0 : ∀ W, (Instr.index 9 (.string s) (.int .i64 0)).run Tryz.prog W = .ok (.int .u8 (n : Int)) W := fun W => by rw [hn]; exact HIX.out 0 (by omega) W
  have HST : Hid (rdP b n 1 (noP 64) = rdSh b) := Lib.hid (by unfold rdSh; rw [hn])
  have HBL := Lib.hid hb
  have HWB := Lib.hid hw1
  have HSB := Lib.hid hsb
  rw [← hs]
  clear hs hn hb hY hw1 hsb
  go_enter Tryz.func156, Tryz.ntmps156
  go_wp2_with (refine wpList_val rfl (.agg Y) (exec_build rfl _ (by simp [go_sem]) Y HBD.out w) ?_)
  rw [← HWB.out, ← HSB.out]
  go_wp2
  go_loopw [6, 14] (fun a i wr => ∃ k at_ : Nat, ∃ l : List Pl, a = .int .i64 at_ ∧ i = .int .u8 k ∧ k ≤ n ∧ at_ ≤ 512 ∧ Hid (l.length = 64) ∧ Hid (rdP b (n - k) at_ l = rdSh b) ∧ Hid (SheetAt wr sb q l) ∧ Hid (Below w.heap.size w wr)) (fun _ i _ => n - (intOf i).toNat)
  case atStart => exact ⟨0, 1, noP 64, rfl, rfl, by omega, by omega, Lib.hid (by simp [noP]), HST, HS1, HB1⟩
  case round =>
    clear hix0 HST HS1 HB1 HWB HBD
    obtain ⟨k, at_, l, rfl, rfl, hk, hat, HLL, HRD, HSH, HBW⟩ := hrel
    by_cases hkn : k < n
    · have e1 : IntKind.i64.wrap ((at_ : Int) + 2) = (at_ : Int) + 2 := IntWalk.i64_in _ (by omega)
      have hRD := HRD.out
      rw [show n - k = (n - k - 1) + 1 by omega, rdP, HBL.out] at hRD
      by_cases h2 : 512 < at_ + 2
      · rw [if_pos h2] at hRD
        have HE : Hid (l = rdSh b) := Lib.hid hRD
        clear hRD
        go_wp2
        go_ret
        exact ⟨sb, rfl, by have := HSB.out; omega, by rw [← HE.out]; exact HSH.out, HBW.out⟩
      · rw [if_neg h2] at hRD
        obtain ⟨v0, hv0⟩ : ∃ v0, v0 = (b.getD at_ 0).toNat := ⟨_, rfl⟩
        obtain ⟨v1, hv1⟩ : ∃ v1, v1 = (b.getD (at_ + 1) 0).toNat := ⟨_, rfl⟩
        have hv0l : v0 < 256 := by rw [hv0]; exact UInt8.toNat_lt _
        have hv1l : v1 < 256 := by rw [hv1]; exact UInt8.toNat_lt _
        have hr1 : ∀ W, (Instr.index 9 (.string s) (.int .i64 (at_ : Int))).run Tryz.prog W = .ok (.int .u8 (v0 : Int)) W := fun W => by rw [hv0]; exact HIX.out at_ (by omega) W
        have hr2 : ∀ W, (Instr.index 9 (.string s) (.int .i64 ((at_ : Int) + 1))).run Tryz.prog W = .ok (.int .u8 (v1 : Int)) W := fun W => by rw [hv1]; exact HIX.out (at_ + 1) (by omega) W
        have e3 : IntKind.i64.wrap ((at_ : Int) + 1) = (at_ : Int) + 1 := IntWalk.i64_in _ (by omega)
        simp only [← hv0, ← hv1] at hRD
        obtain ⟨H, hH⟩ : ∃ H, H = v0 * 256 + v1 := ⟨_, rfl⟩
        rw [← hH] at hRD
        have hH6 : H < 65536 := by omega
        have hor : bits BinOp.or IntKind.i64 ((v0 : Int) * 256) (v1 : Int) = (H : Int) := by rw [or_i64 v0 v1 (by omega) hv1l, hH]
        obtain ⟨z, hz⟩ : ∃ z, z = H % 512 := ⟨_, rfl⟩
        have hz5 : z < 512 := by omega
        have han : bits BinOp.and IntKind.i64 (H : Int) 511 = (z : Int) := by rw [and511]; omega
        have e4 : IntKind.i64.wrap ((at_ : Int) + 2 + (z : Int)) = (at_ : Int) + 2 + (z : Int) := IntWalk.i64_in _ (by omega)
        rw [← hz] at hRD
        clear hv0 hv1 hH
        have HOR := Lib.hid hor
        have HZ := Lib.hid hz
        clear hz HRD hor
        by_cases h5 : 512 < at_ + 2 + z
        · rw [if_pos h5] at hRD
          have HE : Hid (l = rdSh b) := Lib.hid hRD
          clear hRD
          go_wp2
          go_quiet (fail)
          rw [HOR.out]
          go_wp2
          go_ret
          exact ⟨sb, rfl, by have := HSB.out; omega, by rw [← HE.out]; exact HSH.out, HBW.out.trans ((below_drewN _ _).mono HBW.out.size)⟩
        · rw [if_neg h5] at hRD
          by_cases h6 : 0 < z
          · rw [if_pos (by omega), show at_ + 2 + z - (at_ + 2) = z by omega] at hRD
            obtain ⟨j, hj⟩ : ∃ j, j = H / 1024 := ⟨_, rfl⟩
            obtain ⟨g, hg⟩ : ∃ g, g = H / 512 := ⟨_, rfl⟩
            have hj6 : j < 64 := by omega
            have hjc : (j : Int) < 64 := by omega
            have hj0 : (0 : Int) ≤ (j : Int) := by omega
            have e10 : (H : Int) / 1024 = (j : Int) := by omega
            have e9 : (H : Int) / 512 = (g : Int) := by omega
            rw [← hj, ← hg] at hRD
            have HSX : Hid (s.extract (at_ + 2) (at_ + 2 + z) = ⟨((b.drop (at_ + 2)).take z).toArray⟩) := Lib.hid (by rw [HSL.out _ _ (by omega) (by omega), show at_ + 2 + z - (at_ + 2) = z by omega])
            obtain ⟨row, hrow⟩ : ∃ row : ByteArray, row = ⟨((b.drop (at_ + 2)).take z).toArray⟩ := ⟨_, rfl⟩
            have n1 : ((at_ : Int) + 2).toNat = at_ + 2 := by omega
            have n2 : ((at_ : Int) + 2 + (z : Int)).toNat = at_ + 2 + z := by omega
            have m1 : (0 : Int) ≤ (at_ : Int) + 2 := by omega
            have m2 : (at_ : Int) + 2 ≤ (at_ : Int) + 2 + (z : Int) := by omega
            have m3 : (0 : Int) ≤ (at_ : Int) + 2 + (z : Int) := by omega
            have m4 : (at_ : Int) + 2 + (z : Int) ≤ 512 := by omega
            have hxr : s.extract (at_ + 2) (at_ + 2 + z) = row := by rw [HSX.out, hrow]
            have HROW := Lib.hid hrow
            clear hrow HSX
            obtain ⟨p0, hp0⟩ : ∃ p, l[j]? = some p := ⟨l[j]'(by rw [HLL.out]; exact hj6), List.getElem?_eq_getElem (by rw [HLL.out]; exact hj6)⟩
            have c0 := HSH.out.row hp0
            have c1 := HSH.out.dead hp0
            have z0 := fun i => Lib.frozen_of_heap HSH.out i
            have HP0 := Lib.hid hp0
            have hlt := HSH.out.lt
            clear hj hg hp0
            by_cases hd : g % 2 = 1
            · rw [decide_eq_true hd] at hRD
              have HRD2 : Hid (rdP b (n - (k + 1)) (at_ + 2 + z) (l.set j ⟨(b.drop (at_ + 2)).take z, true⟩) = rdSh b) := Lib.hid hRD
              have han1 : bits BinOp.and IntKind.i64 (g : Int) 1 = 1 := by rw [and1']; omega
              clear hRD hd
              go_wp2
              go_quiet (fail)
              rw [HOR.out]
              go_wp2
              obtain ⟨wq, hwq⟩ : ∃ wq, wq = wr.drewN nq := ⟨_, rfl⟩
              rw [← hwq]
              have HSQ : Hid (SheetAt wq sb q l) := Lib.hid (by rw [hwq]; exact HSH.out)
              have HBQ : Hid (Below w.heap.size w wq) := Lib.hid (by rw [hwq]; exact HBW.out.trans ((below_drewN _ _).mono HBW.out.size))
              clear hwq HSH HBW c0 c1 z0 hlt
              have c0 : wq.cell? ⟨sb, 1 + j * 2, none⟩ = some (.string ⟨p0.row.toArray⟩) := by rw [Nat.mul_comm]; exact HSQ.out.row HP0.out
              have c1 : wq.cell? ⟨sb, 1 + j * 2 + 1, none⟩ = some (.bool p0.dead) := by rw [Nat.mul_comm]; exact HSQ.out.dead HP0.out
              have z0 := fun i => Lib.frozen_of_heap HSQ.out i
              have hlt := HSQ.out.lt
              go_still_tail 15, (by kernel_rfl)
              go_wp2
              go_roundw
              case rel => exact ⟨k + 1, at_ + 2 + z, l.set j ⟨(b.drop (at_ + 2)).take z, true⟩, by go_num, by go_num, by omega, by omega, Lib.hid (by rw [List.length_set]; exact HLL.out), HRD2, Lib.hid (by rw [HROW.out]; exact HSQ.out.put ⟨(b.drop (at_ + 2)).take z, true⟩), Lib.hid (HBQ.out.trans (sheet_put_below (by have := HSB.out; omega) _ _).drew)⟩
              case measure => simp [intOf]; omega
            · rw [decide_eq_false hd] at hRD
              have HRD2 : Hid (rdP b (n - (k + 1)) (at_ + 2 + z) (l.set j ⟨(b.drop (at_ + 2)).take z, false⟩) = rdSh b) := Lib.hid hRD
              have han1 : bits BinOp.and IntKind.i64 (g : Int) 1 = 0 := by rw [and1']; omega
              clear hRD hd
              go_wp2
              go_quiet (fail)
              rw [HOR.out]
              go_wp2
              obtain ⟨wq, hwq⟩ : ∃ wq, wq = wr.drewN nq := ⟨_, rfl⟩
              rw [← hwq]
              have HSQ : Hid (SheetAt wq sb q l) := Lib.hid (by rw [hwq]; exact HSH.out)
              have HBQ : Hid (Below w.heap.size w wq) := Lib.hid (by rw [hwq]; exact HBW.out.trans ((below_drewN _ _).mono HBW.out.size))
              clear hwq HSH HBW c0 c1 z0 hlt
              have c0 : wq.cell? ⟨sb, 1 + j * 2, none⟩ = some (.string ⟨p0.row.toArray⟩) := by rw [Nat.mul_comm]; exact HSQ.out.row HP0.out
              have c1 : wq.cell? ⟨sb, 1 + j * 2 + 1, none⟩ = some (.bool p0.dead) := by rw [Nat.mul_comm]; exact HSQ.out.dead HP0.out
              have z0 := fun i => Lib.frozen_of_heap HSQ.out i
              have hlt := HSQ.out.lt
              go_still_tail 15, (by kernel_rfl)
              go_wp2
              go_roundw
              case rel => exact ⟨k + 1, at_ + 2 + z, l.set j ⟨(b.drop (at_ + 2)).take z, false⟩, by go_num, by go_num, by omega, by omega, Lib.hid (by rw [List.length_set]; exact HLL.out), HRD2, Lib.hid (by rw [HROW.out]; exact HSQ.out.put ⟨(b.drop (at_ + 2)).take z, false⟩), Lib.hid (HBQ.out.trans (sheet_put_below (by have := HSB.out; omega) _ _).drew)⟩
              case measure => simp [intOf]; omega
          · rw [if_neg (by omega)] at hRD
            obtain rfl : z = 0 := by omega
            have HRD2 : Hid (rdP b (n - (k + 1)) (at_ + 2) l = rdSh b) := Lib.hid hRD
            clear hRD
            go_wp2
            go_quiet (fail)
            rw [HOR.out]
            go_wp2
            go_roundw
            case rel => exact ⟨k + 1, at_ + 2, l, by go_num, by go_num, by omega, by omega, HLL, HRD2, HSH, Lib.hid (HBW.out.trans ((below_drewN _ _).mono HBW.out.size))⟩
            case measure => simp [intOf]; omega
    · obtain rfl : k = n := by omega
      have HE : Hid (l = rdSh b) := Lib.hid (by have := HRD.out; rw [Nat.sub_self] at this; exact this)
      go_wp2
      go_ret
      exact ⟨sb, rfl, by have := HSB.out; omega, by rw [← HE.out]; exact HSH.out, HBW.out⟩
end Go.Proofs.YtijggofelepaaaaGreatDoor

/- Contracts: the first spare place of a sheet; how many bytes it takes; how much room it has. -/
set_option maxRecDepth 100000
namespace Go.Proofs.YtijggofelepaaaaGreatDoor
open Go.RowKit

theorem run_index_place (cs : Array Value) (k : Nat) (w : World) (hk : k < 64) :
    (Instr.index 166 (.agg cs) (.int .i64 k)).run Tryz.prog w = .ok (.agg (cs.extract (k * 2) (k * 2 + 2))) w := by
  have hin : (0 : Int) ≤ k ∧ (k : Int) < 64 := by omega
  have hs : (Tryz.prog.info? 125).map (·.size) = some 2 := by kernel_rfl
  cases hq : Tryz.prog.info? 125 with
  | none => simp [hq] at hs
  | some inf =>
    have hsz : inf.size = 2 := by simpa [hq] using hs
    simp only [Instr.index, asIntOf, Sem.run_bind, Sem.run_pure, Result.andThen_ok, run_underlying Tryz.underlying166, sizeOf, typeInfo, Int.toNat_natCast]
    simp [hq, hsz, part, isAgg, run_underlying Tryz.underlying125, sizeOf, typeInfo]
    intro h
    exact absurd h (by omega)

theorem place_extract {l : List Pl} {k : Nat} {p : Pl} (h : l[k]? = some p) : (plCells l).toArray.extract (k * 2) (k * 2 + 2) = #[.string ⟨p.row.toArray⟩, .bool p.dead] := by
  obtain ⟨h1, h2⟩ := plCells_at l k p h
  apply Array.ext'
  rw [Array.toList_extract]
  apply List.ext_getElem?
  intro i
  rw [List.extract_eq_take_drop, List.getElem?_take, List.getElem?_drop]
  rcases (by omega : i = 0 ∨ i = 1 ∨ 2 ≤ i) with rfl | rfl | hi
  · rw [if_pos (by omega), Nat.add_zero, Nat.mul_comm]; exact h1
  · rw [if_pos (by omega), Nat.mul_comm]; exact h2
  · rw [if_neg (by omega), List.getElem?_eq_none (by simpa using hi)]

/-- The first spare place. -/
def spareP : Nat → List Pl → Nat
  | k, [] => k
  | k, p :: r => if p.row = [] then k else spareP (k + 1) r
theorem spareP_at : ∀ (l : List Pl) (k i : Nat), (∀ j, j < i → ∀ p, l[j]? = some p → p.row ≠ []) → (∀ p, l[i]? = some p → p.row = []) → i ≤ l.length → spareP k l = k + i
  | [], k, i, _, _, h => by simp at h; subst h; rfl
  | x :: r, k, 0, _, h2, _ => by unfold spareP; rw [if_pos (h2 x rfl)]; rfl
  | x :: r, k, i + 1, h1, h2, h3 => by
    unfold spareP
    rw [if_neg (h1 0 (by omega) x rfl), spareP_at r (k + 1) i (fun j hj p hp => h1 (j + 1) (by omega) p (by simpa using hp)) (fun p hp => h2 p (by simpa using hp)) (by simpa using h3)]
    omega

section
variable {w : World} {sb q : Nat} {l : List Pl}
set_option maxHeartbeats 1600000 in
theorem spare_any (h : SheetAt w sb q l) (hl : l.length = 64) : Calls Tryz.prog 102 #[.pointer (some ⟨sb, 0, none⟩)] w fun e w' => e = .returned (.int .i64 (spareP 0 l)) ∧ Below w.heap.size w w' := by
  have hcl : (plCells l).length = 128 := by rw [plCells_len, hl]
  have hrg : w.rangeAt sb 1 (plCells l) := fun j v hv => by
    rw [Lib.cell_of_heap h, List.getElem?_toArray, show 1 + j = j + 1 by omega, List.getElem?_cons_succ]; exact hv
  have HR := Lib.hid hrg
  have HI : Hid ((Tryz.prog.info? 166).map (·.size) = some (plCells l).length) := Lib.hid (by rw [hcl]; kernel_rfl)
  have HIX : Hid (∀ i : Nat, i < 64 → ∀ p, l[i]? = some p → ∀ W, (Instr.index 166 (.agg (plCells l).toArray) (.int .i64 i)).run Tryz.prog W = .ok (plV p) W) := Lib.hid fun i hi p hp W => by rw [run_index_place _ _ _ hi, place_extract hp]; rfl
  obtain ⟨X, hX⟩ : ∃ X, X = (plCells l).toArray := ⟨_, rfl⟩
  obtain ⟨cs, hcs⟩ : ∃ cs, cs = plCells l := ⟨_, rfl⟩
  rw [← hcs] at HR HI hX
  have HX := Lib.hid hX
  have HIY : Hid (∀ i : Nat, i < 64 → ∀ p, l[i]? = some p → ∀ W, (Instr.index 166 (.agg X) (.int .i64 i)).run Tryz.prog W = .ok (plV p) W) := Lib.hid (by rw [hX, hcs]; exact HIX.out)
  have HL := Lib.hid hl
  clear HIX hX hcl hrg h hl hcs
  go_enter Tryz.func102, Tryz.ntmps102
  go_wp2_with (refine wpList_load_mid rfl 166 _ rfl sb 1 (by rfl) cs _ HR.out Tryz.underlying166 rfl HI.out ?_)
  rw [← HX.out]
  go_wp2
  go_loopw [9] (fun i wr => ∃ k : Nat, k ≤ 64 ∧ i = .int .i64 k ∧ Hid (∀ j, j < k → ∀ p, l[j]? = some p → p.row ≠ []) ∧ Hid (Below w.heap.size w wr)) (fun i _ => 64 - (intOf i).toNat)
  case atStart => exact ⟨0, by omega, rfl, Lib.hid (fun j hj => by omega), Lib.hid (Below.refl _ _)⟩
  case round =>
    obtain ⟨k, hk, rfl, HN, HB⟩ := hrel
    by_cases hlt : k < 64
    · obtain ⟨p, hp⟩ : ∃ p, l[k]? = some p := ⟨l[k]'(by rw [HL.out]; exact hlt), List.getElem?_eq_getElem (by rw [HL.out]; exact hlt)⟩
      have HP := Lib.hid hp
      clear hp
      have hlt' : (k : Int) < 64 := by omega
      have hix := HIY.out k hlt p HP.out
      have HH : Hid (∀ W, Calls Tryz.prog 107 #[plV p] W fun e w' => e = .returned (.bool (decide (p.row ≠ []))) ∧ Below W.heap.size W w') := Lib.hid fun W => holds_any p W
      unfold plV at hix HH
      obtain ⟨s, hs⟩ : ∃ s : ByteArray, s = ⟨p.row.toArray⟩ := ⟨_, rfl⟩
      obtain ⟨d, hd⟩ : ∃ d, d = p.dead := ⟨_, rfl⟩
      rw [← hs, ← hd] at hix HH
      clear hs hd
      by_cases h0 : p.row = []
      · have HE : Hid (spareP 0 l = k) := Lib.hid (by
          rw [spareP_at l 0 k HN.out (fun x hx => by rw [HP.out] at hx; cases hx; exact h0) (by rw [HL.out]; omega)]; omega)
        rw [decide_eq_false (fun h => h h0)] at HH
        clear h0
        go_wp2_with (go_at_call 107; refine (HH.out _).mono ?_; rintro e w1 ⟨rfl, hb1⟩)
        go_ret
        rw [HE.out]
        exact ⟨rfl, HB.out.trans ((((Below.refl _ _).alloc (Nat.le_refl _) _).trans (hb1.mono (by simp))).mono HB.out.size)⟩
      · rw [decide_eq_true h0] at HH
        have HN2 : Hid (∀ j, j < k + 1 → ∀ p, l[j]? = some p → p.row ≠ []) := Lib.hid fun j hj x hx => by
          by_cases hjk : j = k
          · subst hjk; rw [HP.out] at hx; cases hx; exact h0
          · exact HN.out j (by omega) x hx
        clear h0
        go_wp2_with (go_at_call 107; refine (HH.out _).mono ?_; rintro e w1 ⟨rfl, hb1⟩)
        go_roundw
        case rel => exact ⟨k + 1, by omega, by go_num, HN2, Lib.hid (HB.out.trans ((((Below.refl _ _).alloc (Nat.le_refl _) _).trans (hb1.mono (by simp))).mono HB.out.size))⟩
        case measure => simp [intOf]; omega
    · obtain rfl : k = 64 := by omega
      have HE : Hid (spareP 0 l = 64) := Lib.hid (by rw [spareP_at l 0 64 HN.out (fun x hx => by rw [List.getElem?_eq_none (by rw [HL.out]; omega)] at hx; cases hx) (by rw [HL.out]; omega)])
      go_wp2
      go_ret
      rw [HE.out]
      exact ⟨rfl, HB.out⟩
end
end Go.Proofs.YtijggofelepaaaaGreatDoor

/- Contracts: how many bytes a sheet takes; how much room it has. -/
set_option maxRecDepth 100000
namespace Go.Proofs.YtijggofelepaaaaGreatDoor
open Go.RowKit

theorem szP_app : ∀ a b : List Pl, szP (a ++ b) = szP a + szP b
  | [], b => by simp [szP]
  | p :: r, b => by rw [List.cons_append, szP, szP, szP_app r b]; omega
theorem szP_take {l : List Pl} {k : Nat} {p : Pl} (h : l[k]? = some p) : szP (l.take (k + 1)) = szP (l.take k) + p.sz := by
  rw [List.take_add_one, h, szP_app]; simp [szP]
theorem szP_le : ∀ (l : List Pl), (∀ p ∈ l, p.row.length ≤ 400) → szP l ≤ 402 * l.length
  | [], _ => Nat.zero_le _
  | p :: r, h => by
    have h1 := szP_le r (fun x hx => h x (List.mem_cons_of_mem _ hx))
    have h2 := h p (List.mem_cons_self ..)
    have h3 : p.sz ≤ 402 := by unfold Pl.sz; split <;> omega
    rw [szP, List.length_cons]; omega

section
variable {w : World} {sb q : Nat} {l : List Pl}
set_option maxHeartbeats 1600000 in
theorem size_sh (h : SheetAt w sb q l) (hl : l.length = 64) (hrow : ∀ p ∈ l, p.row.length ≤ 400) : Calls Tryz.prog 150 #[.pointer (some ⟨sb, 0, none⟩)] w fun e w' => e = .returned (.int .i64 ((1 + szP l : Nat) : Int)) ∧ Below w.heap.size w w' := by
  have hcl : (plCells l).length = 128 := by rw [plCells_len, hl]
  have hrg : w.rangeAt sb 1 (plCells l) := fun j v hv => by
    rw [Lib.cell_of_heap h, List.getElem?_toArray, show 1 + j = j + 1 by omega, List.getElem?_cons_succ]; exact hv
  have HR := Lib.hid hrg
  have HI : Hid ((Tryz.prog.info? 166).map (·.size) = some (plCells l).length) := Lib.hid (by rw [hcl]; kernel_rfl)
  have HIX : Hid (∀ i : Nat, i < 64 → ∀ p, l[i]? = some p → ∀ W, (Instr.index 166 (.agg (plCells l).toArray) (.int .i64 i)).run Tryz.prog W = .ok (plV p) W) := Lib.hid fun i hi p hp W => by rw [run_index_place _ _ _ hi, place_extract hp]; rfl
  obtain ⟨X, hX⟩ : ∃ X, X = (plCells l).toArray := ⟨_, rfl⟩
  obtain ⟨cs, hcs⟩ : ∃ cs, cs = plCells l := ⟨_, rfl⟩
  rw [← hcs] at HR HI hX
  have HX := Lib.hid hX
  have HIY : Hid (∀ i : Nat, i < 64 → ∀ p, l[i]? = some p → ∀ W, (Instr.index 166 (.agg X) (.int .i64 i)).run Tryz.prog W = .ok (plV p) W) := Lib.hid (by rw [hX, hcs]; exact HIX.out)
  have HL := Lib.hid hl
  have HRW := Lib.hid hrow
  clear HIX hX hcl hrg h hl hcs hrow
  go_enter Tryz.func150, Tryz.ntmps150
  go_wp2_with (refine wpList_load_mid rfl 166 _ rfl sb 1 (by rfl) cs _ HR.out Tryz.underlying166 rfl HI.out ?_)
  rw [← HX.out]
  go_wp2
  go_loopw [3, 10] (fun s i wr => ∃ k z : Nat, k ≤ 64 ∧ i = .int .i64 k ∧ s = .int .i64 ((1 + z : Nat) : Int) ∧ z ≤ 30000 ∧ Hid (z = szP (l.take k)) ∧ Hid (Below w.heap.size w wr)) (fun _ i _ => 64 - (intOf i).toNat)
  case atStart => exact ⟨0, 0, by omega, rfl, rfl, by omega, Lib.hid (by simp [szP]), Lib.hid (Below.refl _ _)⟩
  case round =>
    obtain ⟨k, z, hk, rfl, rfl, hz, HZ, HB⟩ := hrel
    by_cases hlt : k < 64
    · obtain ⟨p, hp⟩ : ∃ p, l[k]? = some p := ⟨l[k]'(by rw [HL.out]; exact hlt), List.getElem?_eq_getElem (by rw [HL.out]; exact hlt)⟩
      have hmem : p ∈ l := List.mem_of_getElem? hp
      have hp4 := HRW.out p hmem
      have HP := Lib.hid hp
      clear hp
      have hlt' : (k : Int) < 64 := by omega
      have hix := HIY.out k hlt p HP.out
      have HH : Hid (∀ W, Calls Tryz.prog 107 #[plV p] W fun e w' => e = .returned (.bool (decide (p.row ≠ []))) ∧ Below W.heap.size W w') := Lib.hid fun W => holds_any p W
      unfold plV at hix HH
      have HZ1 : Hid (z + p.sz = szP (l.take (k + 1)) ∧ z + p.sz ≤ 30000) := Lib.hid ⟨by rw [szP_take HP.out, HZ.out], by
        have h1 := szP_take HP.out
        have h2 := szP_le (l.take (k + 1)) (fun x hx => HRW.out x (List.mem_of_mem_take hx))
        rw [List.length_take] at h2
        have h3 := HZ.out
        omega⟩
      obtain ⟨s, hs⟩ : ∃ s : ByteArray, s = ⟨p.row.toArray⟩ := ⟨_, rfl⟩
      obtain ⟨d, hd⟩ : ∃ d, d = p.dead := ⟨_, rfl⟩
      have HSS : Hid (s.size = p.row.length) := Lib.hid (by rw [hs]; rfl)
      rw [← hs, ← hd] at hix HH
      clear hs hd hmem
      by_cases h0 : p.row = []
      · rw [decide_eq_false (fun h => h h0)] at HH
        have HZ2 : Hid (z = szP (l.take (k + 1))) := Lib.hid (by have := HZ1.out.1; unfold Pl.sz at this; rw [if_pos h0] at this; omega)
        clear h0 hp4
        go_wp2_with (go_at_call 107; refine (HH.out _).mono ?_; rintro e w1 ⟨rfl, hb1⟩)
        go_roundw
        case rel => exact ⟨k + 1, z, by omega, by go_num, rfl, hz, HZ2, Lib.hid (HB.out.trans ((((Below.refl _ _).alloc (Nat.le_refl _) _).trans (hb1.mono (by simp))).mono HB.out.size))⟩
        case measure => simp [intOf]; omega
      · rw [decide_eq_true h0] at HH
        obtain ⟨n, hn⟩ : ∃ n, n = p.row.length := ⟨_, rfl⟩
        have hn4 : n ≤ 400 := by rw [hn]; exact hp4
        have HZ2 : Hid (z + (2 + n) = szP (l.take (k + 1))) := Lib.hid (by have := HZ1.out.1; unfold Pl.sz at this; rw [if_neg h0, ← hn] at this; exact this)
        have hz2 : z + (2 + n) ≤ 30000 := by have := HZ1.out.2; unfold Pl.sz at this; rw [if_neg h0, ← hn] at this; exact this
        have HS2 : Hid (∀ W, Calls Tryz.prog 101 #[.string s] W fun e w' => e = .returned (.int .i64 (2 + (n : Int))) ∧ w' = W) := Lib.hid fun W => by
          have h1 : s.size = n := by rw [HSS.out, hn]
          have := sizeOf_any s W (by omega)
          rw [h1] at this; exact this
        clear h0 hp4 hn
        have hwr : IntKind.i64.wrap (1 + (z : Int) + (2 + (n : Int))) = ((1 + (z + (2 + n)) : Nat) : Int) := by rw [IntWalk.i64_in _ (by omega)]; omega
        go_wp2_with (first
          | (go_at_call 107; refine (HH.out _).mono ?_; rintro e w1 ⟨rfl, hb1⟩; have d0 : w1.cell? ⟨wr.heap.size, 0, none⟩ = some (.string s) := (hb1.cell (p := ⟨wr.heap.size, 0, none⟩) (by simp)).trans (by rw [Lib.cell_of_heap (heap_alloc_new wr _)]; rfl))
          | (go_at_call 101; refine (HS2.out _).mono ?_; rintro e w2 ⟨rfl, hw2⟩; subst w2))
        go_roundw
        case rel => exact ⟨k + 1, z + (2 + n), by omega, by go_num, by go_num, hz2, HZ2, Lib.hid (HB.out.trans ((((Below.refl _ _).alloc (Nat.le_refl _) _).trans (hb1.mono (by simp))).mono HB.out.size))⟩
        case measure => simp [intOf]; omega
    · obtain rfl : k = 64 := by omega
      have HE : Hid (z = szP l) := Lib.hid (by rw [HZ.out, List.take_of_length_le (by rw [HL.out]; exact Nat.le_refl _)])
      go_wp2
      go_ret
      rw [← HE.out]
      exact ⟨rfl, HB.out⟩

set_option maxHeartbeats 1600000 in
theorem room_sh (h : SheetAt w sb q l) (hl : l.length = 64) (hrow : ∀ p ∈ l, p.row.length ≤ 400) (hfit : 1 + szP l ≤ 512) : Calls Tryz.prog 153 #[.pointer (some ⟨sb, 0, none⟩)] w fun e w' => e = .returned (.int .i64 ((if spareP 0 l = 64 then 0 else 512 - (1 + szP l) : Nat) : Int)) ∧ Below w.heap.size w w' := by
  have HSP := Lib.hid (spare_any h hl)
  have HSZ : Hid (∀ W, Below w.heap.size w W → Calls Tryz.prog 150 #[.pointer (some ⟨sb, 0, none⟩)] W fun e w' => e = .returned (.int .i64 ((1 + szP l : Nat) : Int)) ∧ Below W.heap.size W w') := Lib.hid fun W hW => size_sh (h.below hW) hl hrow
  obtain ⟨z, hz⟩ : ∃ z, z = 1 + szP l := ⟨_, rfl⟩
  rw [← hz] at HSZ hfit ⊢
  obtain ⟨k, hk⟩ : ∃ k, k = spareP 0 l := ⟨_, rfl⟩
  rw [← hk] at HSP ⊢
  clear h hl hrow hz hk
  by_cases h0 : k = 64
  · rw [if_pos h0]
    subst h0
    go_enter Tryz.func153, Tryz.ntmps153
    go_wp2_with fail
    refine HSP.out.mono ?_
    rintro e w1 ⟨rfl, hb1⟩
    go_wp2
    go_ret
    exact ⟨rfl, hb1⟩
  · rw [if_neg h0]
    have h1 : ¬ (k : Int) = 64 := by omega
    have h2 : ((k : Int) == 64) = false := beq_eq_false_iff_ne.2 h1
    have h3 : IntKind.i64.wrap (512 - (z : Int)) = ((512 - z : Nat) : Int) := by rw [IntWalk.i64_in _ (by omega)]; omega
    have hB := fun (a b : World) (x : Below w.heap.size w a) (y : Below a.heap.size a b) => x.trans (y.mono x.size)
    have HB := Lib.hid hB
    clear hB
    go_enter Tryz.func153, Tryz.ntmps153
    go_wp2_with fail
    refine HSP.out.mono ?_
    rintro e w1 ⟨rfl, hb1⟩
    have HB1 := Lib.hid hb1
    clear hb1
    go_wp2_with fail
    refine (HSZ.out _ HB1.out).mono ?_
    rintro e w2 ⟨rfl, hb2⟩
    go_wp2
    go_ret
    exact ⟨rfl, HB.out _ _ HB1.out hb2⟩
end
end Go.Proofs.YtijggofelepaaaaGreatDoor

/- Contract: a sheet's page. -/
set_option maxRecDepth 100000
namespace Go.Proofs.YtijggofelepaaaaGreatDoor
open Go.RowKit

theorem rowsB_app : ∀ (a b : List Pl) (k : Nat), rowsB k (a ++ b) = rowsB k a ++ rowsB (k + a.length) b
  | [], b, k => by simp [rowsB]
  | p :: r, b, k => by rw [List.cons_append, rowsB, rowsB, rowsB_app r b (k + 1), List.append_assoc, List.length_cons, show k + 1 + r.length = k + (r.length + 1) by omega]
theorem cntP_app : ∀ (a b : List Pl), cntP (a ++ b) = cntP a + cntP b
  | [], b => by simp [cntP]
  | p :: r, b => by rw [List.cons_append, cntP, cntP, cntP_app r b]; omega
/-- A page's beginning: k places. -/
def shK (l : List Pl) (k : Nat) : List UInt8 := shB (l.take k)
theorem shK_len (l : List Pl) (k : Nat) : (shK l k).length = 1 + szP (l.take k) := shB_len _
theorem shK_none {l : List Pl} {k : Nat} {p : Pl} (h : l[k]? = some p) (h0 : p.row = []) : shK l (k + 1) = shK l k := by
  have hb : p.bytes k = [] := by unfold Pl.bytes; rw [if_pos h0]
  have hc : p.cnt = 0 := by unfold Pl.cnt; rw [if_pos h0]
  have hk : (l.take k).length = k := by have := (List.getElem?_eq_some_iff.1 h).1; rw [List.length_take]; omega
  unfold shK shB
  rw [List.take_add_one, h, rowsB_app, cntP_app, Nat.zero_add, hk]
  simp [rowsB, cntP, hb, hc]
theorem shK_some {l : List Pl} {k : Nat} {p : Pl} (h : l[k]? = some p) (h0 : p.row ≠ []) :
    shK l (k + 1) = ((shK l k).set 0 (UInt8.ofNat (cntP (l.take k) + 1)) ++ [UInt8.ofNat (p.hd k / 256), UInt8.ofNat (p.hd k % 256)]) ++ p.row := by
  have hb : p.bytes k = UInt8.ofNat (p.hd k / 256) :: UInt8.ofNat (p.hd k % 256) :: p.row := by unfold Pl.bytes; rw [if_neg h0]
  have hc : p.cnt = 1 := by unfold Pl.cnt; rw [if_neg h0]
  have hk : (l.take k).length = k := by have := (List.getElem?_eq_some_iff.1 h).1; rw [List.length_take]; omega
  unfold shK shB
  rw [List.take_add_one, h, rowsB_app, cntP_app, Nat.zero_add, hk]
  simp [rowsB, cntP, hb, hc]
theorem shK_all {l : List Pl} (h : ShOk l) : shK l 64 ++ List.replicate (512 - (shK l 64).length) 0 = shP l := by
  unfold shK
  rw [List.take_of_length_le (by rw [h.n]; exact Nat.le_refl _)]
  rfl
theorem join_hd (k n : Nat) (hk : k < 64) (hn : n < 512) : bits BinOp.or IntKind.i64 ((k : Int) * 1024) (n : Int) = ((k * 1024 + n : Nat) : Int) := by
  have h1 : (BitVec.ofInt 64 ((k : Int) * 1024)).toNat = k * 1024 := by rw [BitVec.toNat_ofInt]; omega
  have h2 : (BitVec.ofInt 64 (n : Int)).toNat = n := by rw [BitVec.toNat_ofInt]; omega
  show IntKind.i64.wrap ((BitVec.ofInt 64 ((k : Int) * 1024) ||| BitVec.ofInt 64 (n : Int)).toNat : Int) = _
  rw [BitVec.toNat_or, h1, h2, nat_join 10 (k * 1024) n (by omega) (by omega), IntKind.wrap_i64]
  omega
theorem join_dead (k n : Nat) (hk : k < 64) (hn : n < 512) : bits BinOp.or IntKind.i64 ((k * 1024 + n : Nat) : Int) 512 = ((k * 1024 + 512 + n : Nat) : Int) := by
  have h1 : (BitVec.ofInt 64 ((k * 1024 + n : Nat) : Int)).toNat = k * 1024 + n := by rw [BitVec.toNat_ofInt]; omega
  have h2 : (BitVec.ofInt 64 (512 : Int)).toNat = 512 := by rw [BitVec.toNat_ofInt]; omega
  have h3 : (k * 1024 + n) ||| 512 = k * 1024 + 512 + n := by
    rw [← nat_join 10 (k * 1024) n (by omega) (by omega), Nat.or_assoc, Nat.or_comm n 512, nat_join 9 512 n (by omega) (by omega), nat_join 10 (k * 1024) (512 + n) (by omega) (by omega)]
    omega
  show IntKind.i64.wrap ((BitVec.ofInt 64 ((k * 1024 + n : Nat) : Int) ||| BitVec.ofInt 64 (512 : Int)).toNat : Int) = _
  rw [BitVec.toNat_or, h1, h2, h3, IntKind.wrap_i64]
  omega

section
variable {w : World} {sb q : Nat} {l : List Pl}
set_option maxHeartbeats 6400000 in
theorem text_sh (h : SheetAt w sb q l) (ok : ShOk l) : Calls Tryz.prog 152 #[.pointer (some ⟨sb, 0, none⟩)] w fun e w' => e = .returned (.string ⟨(shP l).toArray⟩) ∧ Below w.heap.size w w' := by
  have hl := ok.n
  have hcl : (plCells l).length = 128 := by rw [plCells_len, hl]
  have hmk : ∀ W : World, (Instr.makeSlice 94 (.int .i64 1) (.int .i64 512)).run Tryz.prog W = .ok (.slice (some ⟨W.heap.size, 0, none⟩) 1 512) (W.alloc (.cells (Lib.byteCells (List.replicate 512 0)).toArray 5)) := fun W => by
    obtain ⟨i, hi, hz, hs, hby⟩ := info_parts infoByte
    have h := run_make (P := Tryz.prog) W 94 5 i _ Tryz.underlying94 hi hz .i64 .i64 1 512 (by omega) (by omega) (by rw [hby]; omega) (by omega)
    rw [hs] at h
    have e : madeCells (Value.int .u8 0).cells ((512 : Int).toNat * 1) = (Lib.byteCells (List.replicate 512 0)).toArray := made_zerosT 512
    rw [e] at h
    exact h
  obtain ⟨Z, hZ⟩ : ∃ Z, Z = (Lib.byteCells (List.replicate 512 0)).toArray := ⟨_, rfl⟩
  rw [← hZ] at hmk
  obtain ⟨w1, hw1⟩ : ∃ w1, w1 = w.alloc (.cells Z 5) := ⟨_, rfl⟩
  obtain ⟨gb, hgb⟩ : ∃ gb, gb = w.heap.size := ⟨_, rfl⟩
  have hb1 : Below w.heap.size w w1 := by rw [hw1]; exact (Below.refl _ _).alloc (Nat.le_refl _) _
  have HBU : Hid (BufAt w1 gb (shK l 0)) := Lib.hid ⟨by simp [shK, shB, cntP, rowsB], by rw [hw1, hgb, hZ]; simpa [shK, shB, cntP, rowsB] using heap_alloc_new w _⟩
  have HB1 := Lib.hid hb1
  have h1 := h.below hb1
  have hrg : w1.rangeAt sb 1 (plCells l) := fun j v hv => by
    rw [Lib.cell_of_heap h1, List.getElem?_toArray, show 1 + j = j + 1 by omega, List.getElem?_cons_succ]; exact hv
  have HR := Lib.hid hrg
  have HI : Hid ((Tryz.prog.info? 166).map (·.size) = some (plCells l).length) := Lib.hid (by rw [hcl]; kernel_rfl)
  have HIX : Hid (∀ i : Nat, i < 64 → ∀ p, l[i]? = some p → ∀ W, (Instr.index 166 (.agg (plCells l).toArray) (.int .i64 i)).run Tryz.prog W = .ok (plV p) W) := Lib.hid fun i hi p hp W => by rw [run_index_place _ _ _ hi, place_extract hp]; rfl
  obtain ⟨X, hX⟩ : ∃ X, X = (plCells l).toArray := ⟨_, rfl⟩
  obtain ⟨cs, hcs⟩ : ∃ cs, cs = plCells l := ⟨_, rfl⟩
  rw [← hcs] at HR HI hX
  have HX := Lib.hid hX
  have HIY : Hid (∀ i : Nat, i < 64 → ∀ p, l[i]? = some p → ∀ W, (Instr.index 166 (.agg X) (.int .i64 i)).run Tryz.prog W = .ok (plV p) W) := Lib.hid (by rw [hX, hcs]; exact HIX.out)
  have HL := Lib.hid hl
  have HOK := Lib.hid ok
  have HMK := Lib.hid hmk
  have HW1 := Lib.hid hw1
  have HGB := Lib.hid hgb
  clear HIX hX hcl hrg h hl hcs ok hmk hZ hw1 hgb hb1 h1
  go_enter Tryz.func152, Tryz.ntmps152
  have hmk2 := HMK.out
  go_wp2_with fail
  clear hmk2
  rw [← HW1.out, ← HGB.out]
  refine wp_load_mid 166 _ rfl sb 1 (by rfl) cs _ HR.out Tryz.underlying166 rfl HI.out ?_
  rw [← HX.out]
  go_wp2
  go_loopw [3, 12] (fun v i wr => ∃ k m : Nat, k ≤ 64 ∧ m ≤ 512 ∧ i = .int .i64 k ∧ v = .slice (some ⟨gb, 0, none⟩) m 512 ∧ Hid (m = (shK l k).length) ∧ Hid (BufAt wr gb (shK l k)) ∧ Hid (Below w.heap.size w wr)) (fun _ i _ => 64 - (intOf i).toNat)
  case atStart => exact ⟨0, 1, by omega, by omega, rfl, rfl, Lib.hid (by simp [shK, shB, rowsB]), HBU, HB1⟩
  case round =>
    clear HBU HB1 HR HX HW1
    obtain ⟨k, m, hk, hm5, rfl, rfl, HM, HB, HBW⟩ := hrel
    by_cases hlt : k < 64
    · obtain ⟨p, hp⟩ : ∃ p, l[k]? = some p := ⟨l[k]'(by rw [HL.out]; exact hlt), List.getElem?_eq_getElem (by rw [HL.out]; exact hlt)⟩
      have hmem : p ∈ l := List.mem_of_getElem? hp
      have HP := Lib.hid hp
      have hlt' : (k : Int) < 64 := by omega
      have hix := HIY.out k hlt p HP.out
      have HH : Hid (∀ W, Calls Tryz.prog 107 #[plV p] W fun e w' => e = .returned (.bool (decide (p.row ≠ []))) ∧ Below W.heap.size W w') := Lib.hid fun W => holds_any p W
      unfold plV at hix HH
      obtain ⟨s, hs⟩ : ∃ s : ByteArray, s = ⟨p.row.toArray⟩ := ⟨_, rfl⟩
      obtain ⟨d, hd⟩ : ∃ d, d = p.dead := ⟨_, rfl⟩
      rw [← hs, ← hd] at hix HH
      have hgbl : gb < wr.heap.size := HB.out.lt
      by_cases h0 : p.row = []
      · rw [decide_eq_false (fun h => h h0)] at HH
        have HK : Hid (shK l (k + 1) = shK l k) := Lib.hid (shK_none hp h0)
        have HG : Hid (∀ w1, Below (wr.heap.size + 1) (wr.alloc (.cells #[.string s, .bool d] 125)) w1 → BufAt w1 gb (shK l (k + 1)) ∧ Below w.heap.size w w1) := Lib.hid fun w1 hb => by
          have hb0 : Below wr.heap.size wr w1 := ((Below.refl _ _).alloc (Nat.le_refl _) _).trans (hb.mono (by omega))
          exact ⟨by rw [HK.out]; exact HB.out.kept (Kept.ofBelow (S := fun _ => False) hb0) (fun h => h), HBW.out.trans (hb0.mono HBW.out.size)⟩
        have HM2 : Hid (m = (shK l (k + 1)).length) := Lib.hid (by rw [HK.out]; exact HM.out)
        clear h0 hs hd hmem hp hgbl
        go_wp2_with (go_at_call 107; refine (HH.out _).mono ?_; rintro e w1 ⟨rfl, hb1⟩)
        go_roundw
        case rel => exact ⟨k + 1, m, by omega, hm5, by go_num, rfl, HM2, Lib.hid (HG.out _ (by simpa using hb1)).1, Lib.hid (HG.out _ (by simpa using hb1)).2⟩
        case measure => simp [intOf]; omega
      · rw [decide_eq_true h0] at HH
        have hrl : p.row.length = s.size := by rw [hs]; rfl
        have hs4 : s.size ≤ 400 := by rw [← hrl]; exact HOK.out.row p hmem
        obtain ⟨c, hc⟩ : ∃ c, c = cntP (l.take k) := ⟨_, rfl⟩
        have hc6 : c ≤ 64 := by rw [hc]; exact Nat.le_trans (cntP_le _) (by rw [List.length_take]; omega)
        obtain ⟨H0, hH0⟩ : ∃ H0, H0 = k * 1024 + s.size := ⟨_, rfl⟩
        obtain ⟨H, hH⟩ : ∃ H, H = p.hd k := ⟨_, rfl⟩
        have hHv : H = k * 1024 + (if d then 512 else 0) + s.size := by rw [hH, hd, ← hrl]; rfl
        obtain ⟨x1, hx1⟩ : ∃ x1, x1 = H / 256 := ⟨_, rfl⟩
        obtain ⟨x2, hx2⟩ : ∃ x2, x2 = H % 256 := ⟨_, rfl⟩
        have hH6 : H < 65536 := by rw [hHv]; split <;> omega
        have hx1l : x1 < 256 := by omega
        have hx2l : x2 < 256 := by omega
        have hmx : m + 2 + s.size ≤ 512 := by
          have h1 := shK_some hp h0
          have h2 := shK_len l (k + 1)
          have h3 := szP_app (l.take (k + 1)) (l.drop (k + 1))
          rw [List.take_append_drop] at h3
          have h4 := HOK.out.fit
          have h5 := congrArg List.length h1
          simp only [List.length_append, List.length_set, List.length_cons, List.length_nil, hrl] at h5
          have := HM.out
          omega
        have e1 : IntKind.i64.wrap ((k : Int) * 1024) = (k : Int) * 1024 := IntWalk.i64_in _ (by omega)
        have hor : bits BinOp.or IntKind.i64 ((k : Int) * 1024) (s.size : Int) = (H0 : Int) := by rw [join_hd k s.size hlt (by omega), hH0]
        have e7 : IntKind.u8.wrap ((c : Int) + 1) = (c : Int) + 1 := by show ((c : Int) + 1) % 256 = _; omega
        have hw1 : IntKind.u8.wrap ((H : Int) / 256) = (x1 : Int) := by
          show (H : Int) / 256 % 256 = _
          omega
        have hw2 : IntKind.u8.wrap (H : Int) = (x2 : Int) := by
          show (H : Int) % 256 = _
          omega
        have hm0 : (0 : Int) < (m : Int) := by
          have h1 := shK_len l k
          have := HM.out
          omega
        have HSTEP : Hid (∀ w2, Below (wr.heap.size + 1) (wr.alloc (.cells #[.string s, .bool d] 125)) w2 → w2.cell? ⟨wr.heap.size, 0, none⟩ = some (.string s) ∧ w2.cell? ⟨wr.heap.size, 1, none⟩ = some (.bool d) ∧ w2.cell? ⟨gb, 0, none⟩ = some (.int .u8 (c : Int)) ∧ w2.frozen? ⟨gb, 0, none⟩ = false ∧
            ∃ w5 w6, (Builtin.append_ #[94, 94] 94 #[.slice (some ⟨gb, 0, none⟩) m 512, .slice (some ⟨w2.heap.size, 0, none⟩) 2 2]).run Tryz.prog ((w2.setCell ⟨gb, 0, none⟩ (.int .u8 ((c : Int) + 1))).alloc (.cells #[.int .u8 (x1 : Int), .int .u8 (x2 : Int)] 5)) = .ok (.slice (some ⟨gb, 0, none⟩) (m + 2) 512) w5 ∧
              w5.cell? ⟨wr.heap.size, 0, none⟩ = some (.string s) ∧ (Builtin.append_ #[94, 9] 94 #[.slice (some ⟨gb, 0, none⟩) (m + 2) 512, .string s]).run Tryz.prog w5 = .ok (.slice (some ⟨gb, 0, none⟩) (m + 2 + s.size) 512) w6 ∧
              Hid (BufAt w6 gb (shK l (k + 1)) ∧ Below w.heap.size w w6)) := Lib.hid fun w2 hb => by
          have hb0 : Below wr.heap.size wr w2 := ((Below.refl _ _).alloc (Nat.le_refl _) _).trans (hb.mono (by omega))
          have hn : w2.heap[wr.heap.size]? = some (.cells #[.string s, .bool d] 125 (0, 0)) := (hb.block _ (by omega)).trans (heap_alloc_new wr _)
          have hbuf := HB.out.kept (Kept.ofBelow (S := fun _ => False) hb0) (fun h => h)
          have hlen : (shK l k).length = m := HM.out.symm
          have hpos : 0 < (shK l k).length := by rw [shK_len]; omega
          have hcell := buf_cell hbuf hpos
          have hc0 : ((shK l k)[0]'hpos).toNat = c := by
            show (UInt8.ofNat (cntP (l.take k))).toNat = c
            rw [UInt8.toNat_ofNat', ← hc]; omega
          rw [hc0] at hcell
          have hset := buf_set w2 gb (shK l k) 0 (UInt8.ofNat (c + 1)) hbuf hpos
          have hcv : ((UInt8.ofNat (c + 1)).toNat : Int) = (c : Int) + 1 := by rw [UInt8.toNat_ofNat']; omega
          rw [hcv] at hset
          obtain ⟨w3, hw3⟩ : ∃ w3, w3 = w2.setCell ⟨gb, 0, none⟩ (.int .u8 ((c : Int) + 1)) := ⟨_, rfl⟩
          rw [← hw3] at hset ⊢
          have hz3 : w3.heap.size = w2.heap.size := by rw [hw3]; simp
          have hk3 : Kept (fun k => k = gb) w2 w3 := by rw [hw3]; exact Kept.setCell (fun k => k = gb) w2 rfl _
          have hb4 : Below w3.heap.size w3 (w3.alloc (.cells #[.int .u8 (x1 : Int), .int .u8 (x2 : Int)] 5)) := (Below.refl _ _).alloc (Nat.le_refl _) _
          obtain ⟨w5, hr5, hbu5, hk5⟩ := buf_append (w3.alloc (.cells #[.int .u8 (x1 : Int), .int .u8 (x2 : Int)] 5)) gb _ [UInt8.ofNat x1, UInt8.ofNat x2] (some ⟨w3.heap.size, 0, none⟩) m 2 2 94 (hset.kept (Kept.ofBelow (S := fun _ => False) hb4) (fun h => h)) (two_reads w3 x1 x2 hx1l hx2l) (by rw [List.length_set]; exact hlen) rfl (by omega)
          obtain ⟨w6, hr6, hbu6, hk6⟩ := buf_append_str w5 gb _ s (m + 2) 94 hbu5 (by rw [List.length_append, List.length_set, hlen]; rfl) hmx
          have hgw : w.heap.size ≤ gb := by have := HGB.out; omega
          have hgn : ¬ wr.heap.size = gb := by omega
          have hz2 := hb.size
          rw [World.size_alloc] at hz2
          have hbu : shK l (k + 1) = (shK l k).set 0 (UInt8.ofNat (c + 1)) ++ [UInt8.ofNat x1, UInt8.ofNat x2] ++ s.data.toList := by
            rw [shK_some hp h0, ← hc, ← hH, ← hx1, ← hx2]
            congr 1
            rw [hs]
          have hn5 : w5.heap[wr.heap.size]? = some (.cells #[.string s, .bool d] 125 (0, 0)) := by
            rw [hk5.block _ (by rw [World.size_alloc, hz3]; omega) hgn, Below.heap_alloc _ _ _ (by omega), hk3.block _ (by omega) hgn]
            exact hn
          refine ⟨by rw [Lib.cell_of_heap hn]; rfl, by rw [Lib.cell_of_heap hn]; rfl, hcell, Lib.frozen_of_heap hbuf.2 _, w5, w6, by rw [← hz3]; exact hr5, by rw [Lib.cell_of_heap hn5]; rfl, hr6, Lib.hid ⟨by rw [hbu]; exact hbu6, ?_⟩⟩
          have t1 : Below w.heap.size w w2 := HBW.out.trans (hb0.mono HBW.out.size)
          have t3 : Below w.heap.size w2 w3 := hk3.toBelow (by have := t1.size; omega) (fun i e => e ▸ hgw)
          have t4 : Below w.heap.size w3 _ := hb4.mono (by have := t1.size; have := t3.size; omega)
          have t5 : Below w.heap.size _ w5 := hk5.toBelow (by rw [World.size_alloc, hz3]; have := t1.size; omega) (fun i e => e ▸ hgw)
          have t6 : Below w.heap.size w5 w6 := hk6.toBelow (by have := hk5.size; rw [World.size_alloc, hz3] at this; have := t1.size; omega) (fun i e => e ▸ hgw)
          exact t1.trans (t3.trans (t4.trans (t5.trans t6)))
        have HM2 : Hid (m + 2 + s.size = (shK l (k + 1)).length) := Lib.hid (by
          rw [shK_some hp h0]
          simp only [List.length_append, List.length_set, List.length_cons, List.length_nil, hrl]
          have := HM.out
          omega)
        have HHV := Lib.hid hHv
        have HH0 := Lib.hid hH0
        clear h0 hs hd hmem hp hrl hc hH hH0 hHv hx1 hx2 hx1l hx2l hc6
        cases d with
        | false =>
          have hHH : H = H0 := by have h1 := HHV.out; have h2 := HH0.out; simp only [Bool.false_eq_true, if_false] at h1; omega
          subst hHH
          go_wp2_with (first
            | (go_at_call 107; refine (HH.out _).mono ?_; rintro e w2 ⟨rfl, hb2⟩; obtain ⟨f0, f1, f2, f3, w5, w6, r5, f5, r6, HF⟩ := HSTEP.out w2 (by simpa using hb2); have HR5 := Lib.hid r5; have HR6 := Lib.hid r6; clear r5 r6 hb2)
            | (at_builtin; first | refine Lib.wpList_append_run (o := ⟨some 41, _, _, _, _, _⟩) _ rfl _ _ 94 94 rfl _ _ rfl rfl _ _ HR5.out ?_ | refine Lib.wpList_append_run (o := ⟨some 45, _, _, _, _, _⟩) _ rfl _ _ 94 9 rfl _ _ rfl rfl _ _ HR6.out ?_))
          go_roundw
          case rel => exact ⟨k + 1, m + 2 + s.size, by omega, hmx, by go_num, by simp [Nat.add_assoc], HM2, Lib.hid HF.out.1, Lib.hid HF.out.2⟩
          case measure => simp [intOf]; omega
        | true =>
          have hor2 : bits BinOp.or IntKind.i64 (H0 : Int) 512 = (H : Int) := by
            have h1 := HHV.out
            have h2 := HH0.out
            simp only [if_true] at h1
            rw [h2, join_dead k s.size hlt (by omega), h1]
          go_wp2_with (first
            | (go_at_call 107; refine (HH.out _).mono ?_; rintro e w2 ⟨rfl, hb2⟩; obtain ⟨f0, f1, f2, f3, w5, w6, r5, f5, r6, HF⟩ := HSTEP.out w2 (by simpa using hb2); have HR5 := Lib.hid r5; have HR6 := Lib.hid r6; clear r5 r6 hb2)
            | (at_builtin; first | refine Lib.wpList_append_run (o := ⟨some 41, _, _, _, _, _⟩) _ rfl _ _ 94 94 rfl _ _ rfl rfl _ _ HR5.out ?_ | refine Lib.wpList_append_run (o := ⟨some 45, _, _, _, _, _⟩) _ rfl _ _ 94 9 rfl _ _ rfl rfl _ _ HR6.out ?_))
          go_roundw
          case rel => exact ⟨k + 1, m + 2 + s.size, by omega, hmx, by go_num, by simp [Nat.add_assoc], HM2, Lib.hid HF.out.1, Lib.hid HF.out.2⟩
          case measure => simp [intOf]; omega
    · obtain rfl : k = 64 := by omega
      have hall := shK_all HOK.out
      have hcv := buf_string HB.out 512
      rw [hall] at hcv
      obtain ⟨t, ht⟩ : ∃ t : ByteArray, t = ⟨(shP l).toArray⟩ := ⟨_, rfl⟩
      rw [← ht] at hcv
      have HT := Lib.hid ht
      clear ht hall
      go_wp2
      go_ret
      exact ⟨by rw [← HT.out]; rfl, HBW.out⟩
end
end Go.Proofs.YtijggofelepaaaaGreatDoor

/- A range over a function whose iterator turns memory of its own (an action's): the statement, and one round, each by itself. -/
set_option maxRecDepth 100000
namespace Go.Proofs.YtijggofelepaaaaGreatDoor
open Go Go.RowKit

/-- A loop's record, by its state and its pending jump. -/
abbrev LpRec := LoopState → Option Code → Loop
/-- What is asked of a loop's body at its end: R is told what yield answers, and the world behind it. -/
def yPost (l : Nat) (rec : LpRec) (R : Bool → Option Code → World → Prop) : Exit → Act → World → Prop
  | .normal, _, w => w.heap[l]? = some (.loop (rec .busy none)) ∧ R true none (w.putObj l (.loop (rec .ready none)))
  | .ret, _, w => w.heap[l]? = some (.loop (rec .busy none)) ∧ R false (some .ret) (w.putObj l (.loop (rec .done (some .ret))))
  | .exit id, _, w => w.heap[l]? = some (.loop (rec .busy none)) ∧ R false (some (.exit id)) (w.putObj l (.loop (rec .done (some (.exit id)))))
  | .goto t, _, w => w.heap[l]? = some (.loop (rec .busy none)) ∧ R false (some (.goto t)) (w.putObj l (.loop (rec .done (some (.goto t)))))
  | .panic _, _, _ => False
  | .outgrown, _, _ => False

section
variable {P : Program} {n m : Nat}
/-- One call of yield: the assignments to the loop's left sides, then the body. -/
theorem yield_round {l : Nat} {W : World} {fn : FuncId} {tmps : Array Value} {ps : Array Tmp} {assign body : Code} {D : Nat} {rec : LpRec} {args : Array Value}
    (hrec : ∀ st pe, rec st pe = { state := st, pending := pe, fn, tmps, params := ps, assign, body, defers := D })
    (hl : W.heap[l]? = some (.loop (rec .ready none))) (hs : args.size = ps.size) (R : Bool → Option Code → World → Prop)
    (h : assign.wpIn (Fence.wide.inRound l) m P (Exit.then (fun a₁ w₁ => w₁.heap[l]? = some (.loop (rec .ready none)) ∧ body.wpIn (Fence.wide.inRound l) m P (yPost l rec R) a₁ (w₁.putObj l (.loop (rec .busy none)))) (fun _ _ _ => False))
      { tmps := (ps.zip args).foldl (fun t (p, v) => t.setIfInBounds p v) tmps, defers := [] } W) :
    YieldAt Fence.wide m P l args W fun e W' => ∃ b j, e = .returned (.bool b) ∧ R b j W' := by
  have hy := run_yield (P := P) (args := args) hl (by rw [hrec]; exact hs)
  rw [hrec] at hy
  refine ⟨fn, _, assign, body, hy, roundIn_of_wpIn trivial (wpIn_mono h ?_)⟩
  rintro e a1 W1 hp
  cases e with
  | normal =>
    obtain ⟨h1, h2⟩ := hp
    have hb := run_beginRound (P := P) h1 (by rw [hrec])
    have e1 : ({ rec .ready none with state := .busy } : Loop) = rec .busy none := by rw [hrec, hrec]
    rw [e1] at hb
    refine ⟨_, hb, wpIn_mono h2 ?_⟩
    have key : ∀ (j : Option Code) (W3 : World), W3.heap[l]? = some (.loop (rec .busy none)) → (Instr.endRound l j).run P W3 = .ok (.bool j.isNone) (W3.putObj l (.loop (rec (if j.isNone then .ready else .done) j))) := fun j W3 h3 => by
      have := run_endRound (P := P) j h3
      rw [hrec] at this ⊢
      exact this
    rintro e a3 W3 hp
    cases e with
    | normal => exact ⟨_, _, key none W3 hp.1, true, _, rfl, hp.2⟩
    | ret => exact ⟨_, _, key _ W3 hp.1, false, _, rfl, hp.2⟩
    | exit id => exact ⟨_, _, key _ W3 hp.1, false, _, rfl, hp.2⟩
    | goto t => exact ⟨_, _, key _ W3 hp.1, false, _, rfl, hp.2⟩
    | panic ch => exact hp.elim
    | outgrown => exact hp.elim
  | ret => exact hp.elim
  | exit id => exact hp.elim
  | goto t => exact hp.elim
  | panic ch => exact hp.elim
  | outgrown => exact hp.elim

/-- How an iterator ends: nothing is pending, or a jump is. -/
def ranOut (l : Nat) (rec : LpRec) (Qd : World → Prop) (Qj : Code → World → Prop) (e : Ending) (W : World) : Prop :=
  (∃ v, e = .returned v) ∧ ((W.heap[l]? = some (.loop (rec .ready none)) ∧ Qd (W.putObj l (.loop (rec .exhausted none)))) ∨
    ∃ c, W.heap[l]? = some (.loop (rec .done (some c))) ∧ Qj c (W.putObj l (.loop (rec .exhausted (some c)))))

/-- The statement, outside rounds: two blocks are laid, the iterator is called. -/
theorem range_outer {g : Operand} {ps : Array Tmp} {assign body : Code} {Q : Exit → Act → World → Prop} {a : Act} {w : World} {gf : Nat} {lb : Array Value}
    (hg : a.eval g = .func (.func gf) #[] lb) (eg : ∀ args w, (callFunc gf args).run P w = .ok (.enter gf args) w)
    (h : ∀ (fn : FuncId) (rec : LpRec), (∀ st pe, rec st pe = { state := st, pending := pe, fn, tmps := a.tmps, params := ps, assign, body, defers := w.heap.size }) →
      CallsIn Fence.wide m P gf (#[.func (.yield (w.heap.size + 1)) #[] #[]] ++ lb) ((w.alloc (.deferred (some []))).alloc (.loop (rec .ready none)))
        (ranOut (w.heap.size + 1) rec (Q .normal { a with defers := { target := .collected w.heap.size, args := #[] } :: a.defers }) (fun c => c.wpIn Fence.wide n P Q { a with defers := { target := .collected w.heap.size, args := #[] } :: a.defers }))) :
    (Code.rangeFunc g ps assign body).wpIn Fence.wide n P Q a w := by
  refine wpIn_rangeFunc ?_
  intro fn _
  have hc := h fn (fun st pe => { state := st, pending := pe, fn, tmps := a.tmps, params := ps, assign, body, defers := w.heap.size }) (fun _ _ => rfl)
  obtain ⟨W1, hW1⟩ : ∃ W1, W1 = (w.alloc (.deferred (some []))).alloc (.loop { state := .ready, pending := none, fn, tmps := a.tmps, params := ps, assign, body, defers := w.heap.size }) := ⟨_, rfl⟩
  rw [← hW1] at hc
  refine ⟨w.heap.size + 1, [{ target := .collected w.heap.size, args := #[] }], W1, { target := .fn (.func gf) lb, args := #[.func (.yield (w.heap.size + 1)) #[] #[]] }, W1, gf, #[.func (.yield (w.heap.size + 1)) #[] #[]] ++ lb, W1, by rw [hW1]; exact run_enterLoop_outer _ _ _ _ _, ?_, fun _ _ => trivial, ?_, fun hd => absurd hd (by simp [Fence.wide]), ?_⟩
  · simp only [resolve, hg]
    simp [go_sem]
  · simp [invoke, go_sem, eg]
  · refine (callsIn_wide (n := n - 1)).2 ((callsIn_wide (n := m)).1 (CallsIn.mono hc ?_))
    rintro e W2 ⟨⟨v, rfl⟩, (⟨h1, h2⟩ | ⟨c, h1, h2⟩)⟩
    · exact ⟨none, _, run_endLoop (P := P) h1 (by simp), h2⟩
    · exact ⟨some c, _, run_endLoop (P := P) h1 (by simp), h2⟩

end
end Go.Proofs.YtijggofelepaaaaGreatDoor

/- Contract: Action.Write of a whole page, with a draft or without. -/
set_option maxRecDepth 100000
namespace Go.Proofs.YtijggofelepaaaaGreatDoor
open Go.RowKit

theorem upd_twice {α : Type} (F : Nat → α) (q : Nat) (a b : α) : upd (upd F q a) q b = upd F q b := by
  funext j
  by_cases hj : j = q
  · subst hj; rw [upd_same, upd_same]
  · rw [upd_other _ _ hj, upd_other _ _ hj, upd_other _ _ hj]

section
variable {J : List RawOp → Prop} {B : Nat} {S : Nat → Prop} {c : Ac} {h : Hd} {G : Nat → List UInt8} {w : World}
end
end Go.Proofs.YtijggofelepaaaaGreatDoor
