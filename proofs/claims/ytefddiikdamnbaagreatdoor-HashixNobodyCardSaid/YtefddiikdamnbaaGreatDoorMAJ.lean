/- Texts of the same proof, one behind the other: SX, PRep, SY, SZ, SZA, SZB, SZC, SZD. -/
import Derived.Test.YtefddiikdamnbaaGreatDoorMAI
import Derived.Shelf.Strings.Builder1
import Derived.Shelf.Strings.Builder2
import Derived.Shelf.Strings.BuilderF
import Derived.Shelf.Strings.BuilderK
import Derived.Shelf.Sort.Plain
import Derived.Shelf.Strings.Prefix
import Derived.Shelf.Bits.Mul64
import Derived.Shelf.Strings.Repeat
import Derived.Shelf.Slices.In.SortNone
import Derived.Test.YtefddiikdamnbaaGreatDoorProg
import Derived.Test.YtefddiikdamnbaaGreatDoorMAD
import Derived.Deep.RegionHeld3
import Derived.StillTailTactics
/- What a whole record tells. -/
set_option maxRecDepth 100000
namespace Go.Proofs.YtefddiikdamnbaaGreatDoor
open Go.RowKit

def rPts : Nat → List UInt8 × Bool → List Pt × (List UInt8 × Bool)
  | 0, x => ([], x)
  | f + 1, x => if x.1 = [] then ([], x) else (⟨(rPt x).1.1, (rPt x).1.2.1, ⟨(rPt x).1.2.2.toArray⟩⟩ :: (rPts f (rPt x).2).1, (rPts f (rPt x).2).2)

theorem rTk_le (l : List UInt8) (sh : Bool) (n : Nat) : (rTk l sh n).2.1.length ≤ l.length := by
  unfold rTk
  split
  · simp
  · simp
theorem rTk_lt (l : List UInt8) (sh : Bool) (n : Nat) (hn : 0 < n) (hl : l ≠ []) : (rTk l sh n).2.1.length < l.length := by
  have h0 : 0 < l.length := List.length_pos_iff.2 hl
  unfold rTk
  split
  · simpa using h0
  · simp only [List.length_drop]; omega
theorem rPt_lt (x : List UInt8 × Bool) (hl : x.1 ≠ []) : (rPt x).2.1.length < x.1.length := by
  have h1 := rTk_lt x.1 x.2 2 (by omega) hl
  have h2 := rTk_le (rNum x 2).2.1 (rNum x 2).2.2 2
  have h3 := rTk_le (rNum (rNum x 2).2 2).2.1 (rNum (rNum x 2).2 2).2.2 2
  have h4 := rTk_le (rNum (rNum (rNum x 2).2 2).2 2).2.1 (rNum (rNum (rNum x 2).2 2).2 2).2.2 (rNum (rNum (rNum x 2).2 2).2 2).1
  unfold rPt
  simp only [rNum] at *
  omega

theorem infoPt : (Tryz.prog.info? 226).map (fun i => (i.zero, i.size, i.bytes)) = some (some (.agg #[.int .i64 0, .int .i64 0, .string ⟨#[]⟩]), 3, 32) := by kernel_rfl

/-- How many bytes are left. -/
def restLen (w : World) (r : Nat) : Nat := match w.cell? ⟨r, 0, none⟩ with | some (.string s) => s.size | _ => 0
theorem RestP.len {w : World} {r : Nat} {x : List UInt8 × Bool} (h : RestP w r x) : restLen w r = x.1.length := by
  obtain ⟨s, h1, h2⟩ := h
  unfold restLen
  rw [h1.b, ← h2]; rfl

set_option maxHeartbeats 3200000 in
theorem actionOf_ok (s : ByteArray) (h : Hd) (x1 z : List UInt8 × Bool) (ps : List Pt) (w : World) (hh : rHd (s.data.toList, false) = (h, x1)) (hp : rPts x1.1.length x1 = (ps, z)) (hz : z.2 = false) (hps : ps.length ≤ 4194304) :
    Calls Tryz.prog 104 #[.string s] w fun e w' => ∃ v, e = .returned (.tuple #[.agg h.cells.toArray, v, .bool true]) ∧ PtsAt w.heap.size w' v ps ∧ Below w.heap.size w w' := by
  obtain ⟨ip, hip, q0, q1, q2⟩ := info_parts infoPt
  obtain ⟨Z, hZ⟩ : ∃ Z : Array Value, Z = Hd.zero.cells.toArray := ⟨_, rfl⟩
  have HEX : Hid (∀ (a : Act) (o : Oper) (_ : o.op = .alloc 37) (W : World), (execOp a.eval o).run Tryz.prog W = .ok (.value (.pointer (some ⟨W.heap.size, 0, none⟩))) (W.alloc (.cells Z 37))) := Lib.hid (by rw [hZ]; exact fun _ _ ho W => exec_alloc_head ho W)
  obtain ⟨w1, hw1⟩ : ∃ w1, w1 = (w.alloc (.cells Z 37)).alloc (.cells #[.string s, .bool false] 223) := ⟨_, rfl⟩
  have hs1 : w1.heap.size = w.heap.size + 2 := by rw [hw1]; simp
  have hb1 : Below w.heap.size w w1 := by rw [hw1]; exact ((Below.refl _ _).alloc (Nat.le_refl _) _).alloc (by simp) _
  have hg1 : w1.heap[w.heap.size + 1]? = some (.cells #[.string s, .bool false] 223 (0, 0)) := by rw [hw1]; exact heap_alloc2_new w _ _
  have hv1 : HvAt w1 w.heap.size Hd.zero := by rw [hw1, hZ]; exact (HvAt.new w Hd.zero).block (Below.heap_alloc _ _ _ (by simp))
  have hr1 : RestP w1 (w.heap.size + 1) (s.data.toList, false) := ⟨s, ⟨by rw [Lib.cell_of_heap hg1]; rfl, by rw [Lib.cell_of_heap hg1]; rfl, fun j => Lib.frozen_of_heap hg1 _⟩, rfl⟩
  have HRH := rhead_any (w.heap.size + 1) _ w1 hr1
  have hfl : h.Len := by have := rHd_len (s.data.toList, false); rw [hh] at this; exact this
  rw [hh] at HRH
  obtain ⟨F, hF⟩ : ∃ F : Array Value, F = h.cells.toArray := ⟨_, rfl⟩
  simp only at HRH
  rw [← hF, hw1] at HRH
  have HRHH := Lib.hid HRH
  clear HRH
  have HS2 : Hid ((Tryz.prog.info? 37).map (·.size) = some F.size) := Lib.hid (by rw [hF]; exact hfl.size)
  have HSL : Hid ((Tryz.prog.info? 37).map (·.size) = some F.toList.length) := Lib.hid (by rw [hF, List.toList_toArray]; exact hfl.size')
  have HA2 : Hid (F.all (·.oneCell') = true) := Lib.hid (by rw [hF]; exact Hd.all_one _)
  have HT2 : Hid (∀ W : World, (W.alloc (.cells Z 37)).there W.heap.size 0 F.size) := Lib.hid (fun W => by
    have := (HvAt.new W Hd.zero).there Hd.zero_len
    have e : F.size = 81 := by rw [hF, List.size_toArray, hfl.cells]
    rw [← hZ] at this
    rw [e]; exact this)
  have HP2 : Hid (∀ W : World, HvAt ((W.alloc (.cells Z 37)).setCells W.heap.size 0 F.toList) W.heap.size h ∧ Kept (fun j => j = W.heap.size) (W.alloc (.cells Z 37)) ((W.alloc (.cells Z 37)).setCells W.heap.size 0 F.toList)) := Lib.hid (fun W => by
    have := (HvAt.new W Hd.zero).put Hd.zero_len hfl
    rw [← hZ] at this
    rw [hF, List.toList_toArray]; exact this)
  have HW1 := Lib.hid hw1; have HB1 := Lib.hid hb1; have HV1 := Lib.hid hv1; have HS1 := Lib.hid hs1
  have HFL := Lib.hid hfl; have HF := Lib.hid hF; have HP := Lib.hid hp; have HZZ := Lib.hid hz; have HZ := Lib.hid hZ
  clear hh hp hz hZ hw1 hs1 hb1 hg1 hv1 hr1 hfl hF
  go_enter Tryz.func104, Tryz.ntmps104
  go_wp2_with (refine wpList_val rfl _ (HEX.out _ _ rfl _) ?_)
  refine HRHH.out.mono ?_
  rintro e w2 ⟨rfl, hr2, hk2⟩
  rw [← HW1.out] at hk2
  obtain ⟨b4, hb4⟩ : ∃ b4, b4 = w2.heap.size := ⟨_, rfl⟩
  obtain ⟨w3, hw3⟩ : ∃ w3, w3 = (w2.alloc (.cells Z 37)).setCells w2.heap.size 0 F.toList := ⟨_, rfl⟩
  obtain ⟨hv3, hk3⟩ := HP2.out w2
  rw [← hw3, ← hb4] at hv3
  have hk13 : Kept (fun j => j = w.heap.size + 1) w1 w3 := by
    rw [hw3]
    exact (hk2.trans (Kept.ofBelow (S := fun j => j = w.heap.size + 1) ((Below.refl _ w2).alloc (Nat.le_refl _) _)) (fun _ hi => .inl hi)).trans hk3 (fun i hi => .inr (by have := hk2.size; omega))
  have hs2' := hk2.size
  have hr3 : RestP w3 (w.heap.size + 1) x1 := by
    have h1 := hr2.block (Below.heap_alloc w2 (.cells Z 37) _ hr2.lt)
    rw [hw3]
    exact h1.block (hk3.block (w.heap.size + 1) (by have := hr2.lt; simp; omega) (by have := hr2.lt; omega))
  have HVR : Hid (HvAt w3 w.heap.size Hd.zero) := Lib.hid (HV1.out.kept hk13 (by omega))
  have hbw3 : Below w.heap.size w w3 := HB1.out.trans (hk13.toBelow (by have := HS1.out; omega) (fun i hi => by omega))
  have HW3 : Hid ((w2.alloc (.cells Z 37)).setCells w2.heap.size 0 F.toList = w3) := Lib.hid hw3.symm
  have HR3 := Lib.hid hr3; have HV3 := Lib.hid hv3; have HB3 := Lib.hid hbw3; have HB4 := Lib.hid hb4
  have hw3s : w.heap.size + 2 < w3.heap.size := by have := hv3.lt; have := HS1.out; omega
  have hlo : w.heap.size + 2 ≤ b4 := by have := HS1.out; omega
  have HLO := Lib.hid hlo
  have HBW : Hid (b4 < w3.heap.size) := Lib.hid hv3.lt
  clear hr2 hk2 hb4 hw3 hv3 hk3 hk13 hs2' hr3 hbw3 hlo
  go_wp2_with (first
    | (refine wpList_val rfl _ (HEX.out _ _ rfl _) ?_)
    | (refine wpList_store_mid rfl 37 _ _ rfl w2.heap.size 0 F (by rfl) (by rfl) (HT2.out w2) HS2.out HA2.out ?_; rw [HW3.out]))
  obtain ⟨B3, hB3⟩ : ∃ B3, B3 = w3.heap.size := ⟨_, rfl⟩
  have HBE := Lib.hid hB3
  rw [← hB3] at hw3s HBW
  clear hB3
  have hrB : w.heap.size + 1 < B3 := by omega
  go_loopw [7] (fun v wr => ∃ (x : List UInt8 × Bool) (f m c : Nat) (a : Option Addr) (acc : List Pt), v = .slice a m c ∧ Hid (m = acc.length ∧ x.1.length ≤ f ∧ acc ++ (rPts f x).1 = ps ∧ (rPts f x).2 = z) ∧ Hid (RestP wr (w.heap.size + 1) x) ∧ Hid (PtsAt B3 wr (.slice a m c) acc) ∧ Hid (Kept (fun j => j = w.heap.size + 1) w3 wr)) (fun _ wr => restLen wr (w.heap.size + 1))
  case atStart => exact ⟨x1, x1.1.length, 0, 0, none, [], rfl, Lib.hid ⟨rfl, Nat.le_refl _, by rw [HP.out]; rfl, by rw [HP.out]⟩, HR3, Lib.hid ⟨rfl, .inl ⟨rfl, rfl⟩⟩, Lib.hid (Kept.refl _ _)⟩
  case round =>
    obtain ⟨x, f, m, c, a, acc, rfl, hm, hr, ho, hk⟩ := hrel
    obtain ⟨s', hs', hsl'⟩ := hr.out
    have cs := hs'.b
    have csh := hs'.short
    by_cases hnil : x.1 = []
    · have hte : s'.toList.isEmpty = true := by rw [ByteArray.toList_eq, hsl', hnil]; rfl
      have hx : rPts f x = ([], x) := by cases f with
        | zero => rfl
        | succ f => unfold rPts; rw [if_pos hnil]
      have hxe := hm.out.2.2.2
      rw [hx] at hxe
      have hacc := hm.out.2.2.1
      rw [hx, List.append_nil] at hacc
      simp only at hxe hacc
      rw [hxe, HZZ.out] at csh
      have hvk : HvAt wr b4 h := HV3.out.kept hk.out (by have := HLO.out; omega)
      have hvr : HvAt wr w.heap.size Hd.zero := HVR.out.kept hk.out (by omega)
      obtain ⟨hv7, hk7⟩ := hvr.put Hd.zero_len HFL.out
      have HE : Hid (HdAt (wr.setCells w.heap.size 0 h.cells) w.heap.size 0 h ∧ PtsAt w.heap.size (wr.setCells w.heap.size 0 h.cells) (.slice a m c) ps ∧ Below w.heap.size w (wr.setCells w.heap.size 0 h.cells)) := Lib.hid ⟨hv7.1, by
        rw [← hacc]
        have h0 := ho.out
        have h1 : wr.ownsRow w.heap.size 226 3 (.slice a m c) acc.length (acc.flatMap Pt.cells) := ⟨h0.1, h0.2.imp id (fun ⟨g, cap, cur, hv, hb, r⟩ => ⟨g, cap, cur, hv, by omega, r⟩)⟩
        exact ownsRow_of_block h1 (fun k hk => hk7.block k (World.ownsRow.lt h0 k hk).2 (by have := (World.ownsRow.lt h0 k hk).1; omega)), (HB3.out.trans (hk.out.toBelow (by have := HBE.out; omega) (fun i hi => by omega))).trans (hk7.toBelow (by have := hk.out.size; have := HBE.out; omega) (fun i hi => by omega))⟩
      have HRG : Hid (wr.rangeAt w2.heap.size 0 F.toList) := Lib.hid (by rw [← HB4.out, HF.out, List.toList_toArray]; exact hvk.1)
      have HTH : Hid (wr.there w.heap.size 0 F.toList.toArray.size) := Lib.hid (by
        have e : F.toList.toArray.size = 81 := by rw [HF.out]; simp [HFL.out.cells]
        rw [e]; exact hvr.there Hd.zero_len)
      have HS4 : Hid ((Tryz.prog.info? 37).map (·.size) = some F.toList.toArray.size) := Lib.hid (by rw [List.size_toArray]; exact HSL.out)
      have HA4 : Hid (F.toList.toArray.all (·.oneCell') = true) := Lib.hid HA2.out
      have HFT : Hid (F.toList = h.cells) := Lib.hid (by rw [HF.out, List.toList_toArray])
      clear hs' hsl' hnil hx hxe hacc hvk hvr hv7 hk7
      go_wp2_with (first
        | (refine wpList_load_mid rfl 37 _ rfl w2.heap.size 0 (by rfl) F.toList _ HRG.out Tryz.underlying37 rfl HSL.out ?_)
        | (refine wpList_store_mid rfl 37 _ _ rfl w.heap.size 0 F.toList.toArray (by rfl) (by rfl) HTH.out HS4.out HA4.out ?_; rw [List.toList_toArray, HFT.out]))
      exact bodyPost_ret (v := .tuple #[.agg h.cells.toArray, .slice a m c, .bool true]) (results_head3 Tryz.results104 _ _ w.heap.size h HFL.out _ _ (by rfl) (by rfl) (by rfl) HE.out.1) rfl ⟨_, rfl, HE.out.2⟩
    · have hte : s'.toList.isEmpty = false := by
        rw [ByteArray.toList_eq, hsl']
        cases e : x.1 with
        | nil => exact absurd e hnil
        | cons c r => rfl
      obtain ⟨f', rfl⟩ : ∃ f', f = f' + 1 := ⟨f - 1, by have h1 := hm.out.2.1; have h2 : 0 < x.1.length := List.length_pos_iff.2 hnil; omega⟩
      have hpa := rpatch_any (w.heap.size + 1) x wr hr.out
      obtain ⟨pg, hpg⟩ : ∃ n, n = (rPt x).1.1 := ⟨_, rfl⟩
      obtain ⟨pa, hpae⟩ : ∃ n, n = (rPt x).1.2.1 := ⟨_, rfl⟩
      obtain ⟨y, hy⟩ : ∃ y, y = (rPt x).2 := ⟨_, rfl⟩
      have hlt := rPt_lt x hnil
      have hstep : rPts (f' + 1) x = (⟨pg, pa, ⟨(rPt x).1.2.2.toArray⟩⟩ :: (rPts f' y).1, (rPts f' y).2) := by
        rw [hpg, hpae, hy]
        conv => lhs; unfold rPts
        rw [if_neg hnil]
      rw [← hpg, ← hpae, ← hy] at hpa
      rw [← hy] at hlt
      have hm' := hm.out
      rw [hstep] at hm'
      have hlen := hr.out.len
      have HPA := Lib.hid hpa; have HM := Lib.hid hm'; have HLT := Lib.hid hlt; have HLEN := Lib.hid hlen
      have hm0 : m < 4194304 := by
        have h1 := hm'.1
        have h2 := congrArg List.length hm'.2.2.1
        simp at h2
        omega
      clear hpa hpg hpae hy hlt hstep hm' hlen hm hs' hsl' hnil csh
      go_wp2_with fail
      refine HPA.out.mono ?_
      rintro e w5 ⟨t, rfl, ht, hr5, hk5⟩
      have hk35 := hk.out.trans hk5 (fun _ hi => .inl hi)
      have ho5 : w5.ownsRow B3 226 3 (.slice a m c) m (acc.flatMap Pt.cells) := by
        have h0 := ho.out
        unfold PtsAt at h0
        rw [← HM.out.1] at h0
        exact ownsRow_of_block h0 (fun k hkk => hk5.block k (World.ownsRow.lt h0 k hkk).2 (by have := (World.ownsRow.lt h0 k hkk).1; omega))
      have HO5 := Lib.hid ho5; have HK5 := Lib.hid hk35; have HR5 := Lib.hid hr5
      have HTT : Hid (t = ⟨(rPt x).1.2.2.toArray⟩) := Lib.hid (by rw [← ht])
      have hB5 : B3 ≤ w5.heap.size := by have := hk35.size; have := HBE.out; omega
      clear ho5 hk35 hr5 hk5 ht
      go_wp2_with (at_builtin; refine wpList_append_own _ rfl _ _ 127 rfl B3 226 ip (.agg #[.int .i64 0, .int .i64 0, .string ⟨#[]⟩]) 3 32 Tryz.underlying127 hip q0 q1 q2 rfl (by decide) _ _ _ rfl (HO5.out.alloc _) ⟨w5.heap.size, 0, none⟩ 1 1 [.int .i64 pg, .int .i64 pa, .string t] rfl rfl ?c1 ?c2 ?c3 ?c4 ?c5 ?_)
      case c1 =>
        intro q u hu
        have hq : q = 0 ∨ q = 1 ∨ q = 2 := by
          have := (List.getElem?_eq_some_iff.1 hu).1
          simp at this
          omega
        have hg := heap_alloc_new w5 (.cells #[.int .i64 pg, .int .i64 pa, .string t] 226)
        rw [add_lit', Nat.zero_add, Lib.cell_of_heap hg]
        rcases hq with rfl | rfl | rfl <;> exact hu
      case c2 =>
        intro u hu
        simp only [List.mem_cons, List.not_mem_nil, or_false] at hu
        rcases hu with rfl | rfl | rfl <;> rfl
      case c3 => unfold maxLen; omega
      case c4 => omega
      case c5 => simp; omega
      intro v6 w6 hown6 hgrow6 _
      obtain ⟨a6, c6, rfl⟩ : ∃ a c, v6 = .slice a (m + 1) c := by
        rcases hown6.2 with ⟨_, h0⟩ | ⟨g', cap', cur, hv, _⟩
        · omega
        · exact ⟨_, cap', hv⟩
      have hlt5 := fun k hk => World.ownsRow.lt HO5.out k hk
      have hk6 : Kept (fun j => j = w.heap.size + 1) w3 w6 := (HK5.out.trans (Kept.ofBelow (S := fun j => j = w.heap.size + 1) ((Below.refl _ w5).alloc (Nat.le_refl _) _)) (fun _ hi => .inl hi)).trans (Kept.ofGrown (S := fun j => B3 ≤ j) hgrow6 (fun k hk => (hlt5 k hk).1)) (fun i hi => .inr (by have := HBE.out; omega))
      have hr6 : RestP w6 (w.heap.size + 1) y := (HR5.out.block (Below.heap_alloc _ _ _ HR5.out.lt)).block (hgrow6.block _ (by have := HR5.out.lt; simp; omega) (fun e => by have := (hlt5 _ e.symm).1; omega))
      have HO6 : Hid (PtsAt B3 w6 (.slice a6 (m + 1) c6) (acc ++ [⟨pg, pa, t⟩])) := Lib.hid (by
        unfold PtsAt
        rw [List.length_append, List.flatMap_append, ← HM.out.1]
        exact hown6)
      have HM6 : Hid (m + 1 = (acc ++ [(⟨pg, pa, t⟩ : Pt)]).length ∧ y.1.length ≤ f' ∧ (acc ++ [(⟨pg, pa, t⟩ : Pt)]) ++ (rPts f' y).1 = ps ∧ (rPts f' y).2 = z) := Lib.hid ⟨by rw [List.length_append, ← HM.out.1]; rfl, by have h1 := HLT.out; have h2 := HM.out.2.1; omega, by
        have h1 := HM.out.2.2.1
        rw [← HTT.out] at h1
        rw [List.append_assoc]; exact h1, HM.out.2.2.2⟩
      have HR6 := Lib.hid hr6; have HK6 := Lib.hid hk6
      have hmeas : restLen w6 (w.heap.size + 1) < restLen wr (w.heap.size + 1) := by rw [hr6.len, HLEN.out]; exact HLT.out
      have HME := Lib.hid hmeas
      clear hown6 hgrow6 hlt5 hk6 hr6 hmeas
      go_wp2
      go_roundw
      case rel => exact ⟨y, f', m + 1, c6, a6, _, rfl, HM6, HR6, HO6, HK6⟩
      case measure => exact HME.out
end Go.Proofs.YtefddiikdamnbaaGreatDoor

/- What more of the library's own contracts says at this program: each is one application. -/
namespace Go.Proofs
open Go.Shelf
def Tryz.lays105_ren : Go.Shelf.Ren := ⟨fun | 105 => 216 | 212 => 236 | 99 => 154 | 165 => 237 | 166 => 238 | 170 => 239 | 169 => 202 | 263 => 243 | 264 => 244 | 206 => 203 | 240 => 231 | 241 => 245 | 276 => 241 | 277 => 246 | n => n, fun | 9 => 9 | 3 => 3 | 4 => 4 | 20 => 20 | 0 => 0 | 46 => 194 | 109 => 293 | 5 => 5 | 72 => 263 | 76 => 295 | 51 => 255 | 146 => 302 | 53 => 33 | 148 => 304 | 70 => 261 | 37 => 113 | 75 => 265 | 127 => 290 | 164 => 299 | 80 => 132 | n => n, fun | n => n⟩
theorem Tryz.lays105 : Go.Proofs.Lays.n105 Tryz.prog Tryz.lays105_ren := {
  mixed := by kernel_rfl
  f99 := Tryz.func154.trans (congrArg some (by kernel_rfl))
  f105 := Tryz.func216.trans (congrArg some (by kernel_rfl))
  f165 := Tryz.func237.trans (congrArg some (by kernel_rfl))
  f166 := Tryz.func238.trans (congrArg some (by kernel_rfl))
  f169 := Tryz.func202.trans (congrArg some (by kernel_rfl))
  f170 := Tryz.func239.trans (congrArg some (by kernel_rfl))
  f206 := Tryz.func203.trans (congrArg some (by kernel_rfl))
  f212 := Tryz.func236.trans (congrArg some (by kernel_rfl))
  f240 := Tryz.func231.trans (congrArg some (by kernel_rfl))
  f241 := Tryz.func245.trans (congrArg some (by kernel_rfl))
  f263 := Tryz.func243.trans (congrArg some (by kernel_rfl))
  f264 := Tryz.func244.trans (congrArg some (by kernel_rfl))
  f276 := Tryz.func241.trans (congrArg some (by kernel_rfl))
  f277 := Tryz.func246.trans (congrArg some (by kernel_rfl))
  t0 := Tryz.underlying0
  a0 := Tryz.isAgg0
  z0 := Tryz.sizeOf0
  v0 := Tryz.zeroValue0
  t3 := Tryz.underlying3
  a3 := Tryz.isAgg3
  z3 := Tryz.sizeOf3
  v3 := Tryz.zeroValue3
  t4 := Tryz.underlying4
  a4 := Tryz.isAgg4
  z4 := Tryz.sizeOf4
  v4 := Tryz.zeroValue4
  t5 := Tryz.underlying5
  a5 := Tryz.isAgg5
  z5 := Tryz.sizeOf5
  v5 := Tryz.zeroValue5
  t9 := Tryz.underlying9
  a9 := Tryz.isAgg9
  z9 := Tryz.sizeOf9
  v9 := Tryz.zeroValue9
  t20 := Tryz.underlying20
  a20 := Tryz.isAgg20
  z20 := Tryz.sizeOf20
  v20 := Tryz.zeroValue20
  t37 := Tryz.underlying113
  a37 := Tryz.isAgg113
  z37 := Tryz.sizeOf113
  v37 := Tryz.zeroValue113
  t46 := Tryz.underlying194
  a46 := Tryz.isAgg194
  z46 := Tryz.sizeOf194
  v46 := Tryz.zeroValue194
  t51 := Tryz.underlying255
  a51 := Tryz.isAgg255
  z51 := Tryz.sizeOf255
  v51 := Tryz.zeroValue255
  t53 := Tryz.underlying33
  a53 := Tryz.isAgg33
  z53 := Tryz.sizeOf33
  v53 := Tryz.zeroValue33
  t70 := Tryz.underlying261
  a70 := Tryz.isAgg261
  z70 := Tryz.sizeOf261
  v70 := Tryz.zeroValue261
  t72 := Tryz.underlying263
  a72 := Tryz.isAgg263
  z72 := Tryz.sizeOf263
  v72 := Tryz.zeroValue263
  t75 := Tryz.underlying265
  a75 := Tryz.isAgg265
  z75 := Tryz.sizeOf265
  v75 := Tryz.zeroValue265
  t76 := Tryz.underlying295
  a76 := Tryz.isAgg295
  z76 := Tryz.sizeOf295
  v76 := Tryz.zeroValue295
  t109 := Tryz.underlying293
  a109 := Tryz.isAgg293
  z109 := Tryz.sizeOf293
  v109 := Tryz.zeroValue293
  t127 := Tryz.underlying290
  a127 := Tryz.isAgg290
  z127 := Tryz.sizeOf290
  v127 := Tryz.zeroValue290
  t146 := Tryz.underlying302
  a146 := Tryz.isAgg302
  z146 := Tryz.sizeOf302
  v146 := Tryz.zeroValue302
  t148 := Tryz.underlying304
  a148 := Tryz.isAgg304
  z148 := Tryz.sizeOf304
  v148 := Tryz.zeroValue304
  t164 := Tryz.underlying299
  a164 := Tryz.isAgg299
  z164 := Tryz.sizeOf299
  v164 := Tryz.zeroValue299 }
theorem Tryz.Builder_Extra_105 : Builder.Extra Tryz.prog Tryz.lays105_ren := {
  sizeBuilder := by kernel_rfl
  liesBuilder := by kernel_rfl
  t5 := Tryz.underlying5
  a5 := Tryz.isAgg5
  z5 := Tryz.sizeOf5
  v5 := Tryz.zeroValue5
  infoByte := by kernel_rfl
  cellsByte := by kernel_rfl
  sizeByte := by kernel_rfl
  neB5 := by decide }
open Go.RowKit Go.Lib in
/-- **strings.Repeat: count ≥ 0, the result within one allocation: count copies of s.** (LAID: no walk: one application.) -/
theorem Tryz.strings_Repeat (s : ByteArray) (c : Nat) (w : World) (hc : c ≤ 9223372036854775807) (hlen : s.size * c ≤ 140737488355328) :
    Calls Tryz.prog 216 #[.string s, .int .i64 c] w fun e w' => e = .returned (.string ⟨(Lib.repeatL s.data.toList c).toArray⟩) ∧ Below w.heap.size w w' := Any.strings_Repeat Tryz.lays105 Tryz.Builder_Extra_105 s c w hc hlen
end Go.Proofs

/- A patch's bytes as they are laid in; what patches make of pages. -/
set_option maxRecDepth 100000
namespace Go.Proofs.YtefddiikdamnbaaGreatDoor
open Go.RowKit

/-- What is laid in. -/
def Pt.bytes (p : Pt) : List UInt8 := if p.s.size = 0 then noughts else p.s.data.toList
def appP (C : Nat → List UInt8) (p : Pt) : Nat → List UInt8 := upd C p.page (splice (C p.page) p.at_ p.bytes)
def appC (C : Nat → List UInt8) (ps : List Pt) : Nat → List UInt8 := ps.foldl appP C
theorem appC_snoc (C : Nat → List UInt8) (ps : List Pt) (p : Pt) : appC C (ps ++ [p]) = appP (appC C ps) p := by simp [appC]
/-- A patch that fits. -/
def Pt.Fits (p : Pt) : Prop := p.page < 4096 ∧ p.at_ + p.bytes.length ≤ 512

def nul : ByteArray := ⟨#[0]⟩
theorem repeat_nul : Lib.repeatL nul.data.toList 512 = noughts := by decide +kernel

set_option maxHeartbeats 800000 in
theorem pbytes_any (p : Pt) (w : World) :
    Calls Tryz.prog 162 #[.agg #[.int .i64 p.page, .int .i64 p.at_, .string p.s]] w fun e w' => ∃ t : ByteArray, e = .returned (.string t) ∧ t.data.toList = p.bytes ∧ Below w.heap.size w w' := by
  obtain ⟨pg, pa, s⟩ := p
  simp only
  by_cases h0 : s.size = 0
  · have hnil : s.data.toList = [] := List.eq_nil_of_length_eq_zero (show s.data.toList.length = 0 from h0)
    have hte : s.toList.isEmpty = true := by rw [ByteArray.toList_eq, hnil]; rfl
    have hb : Pt.bytes ⟨pg, pa, s⟩ = noughts := by unfold Pt.bytes; rw [if_pos h0]
    rw [hb]
    have hrep := Tryz.strings_Repeat nul 512 (w.alloc (.cells #[.int .i64 pg, .int .i64 pa, .string s] 226)) (by omega) (by decide)
    rw [repeat_nul] at hrep
    obtain ⟨t, ht⟩ : ∃ t : ByteArray, t = ⟨noughts.toArray⟩ := ⟨_, rfl⟩
    have htl : t.data.toList = noughts := by rw [ht]
    rw [← ht] at hrep
    have HRP := Lib.hid hrep; have HTL := Lib.hid htl
    clear h0 hnil hb hrep ht htl
    go_enter Tryz.func162, Tryz.ntmps162
    go_wp2_with fail
    refine HRP.out.mono ?_
    rintro e w' ⟨rfl, hb⟩
    have HB := Lib.hid (((Below.refl _ w).alloc (Nat.le_refl _) (.cells #[.int .i64 pg, .int .i64 pa, .string s] 226)).trans (hb.mono (by simp)))
    clear hb
    go_wp2
    go_ret
    exact ⟨t, rfl, HTL.out, HB.out⟩
  · have hte : s.toList.isEmpty = false := by
      rw [ByteArray.toList_eq]
      cases e : s.data.toList with
      | nil => exact absurd (show s.size = 0 from by have : s.data.toList.length = s.size := rfl; rw [e] at this; exact this.symm) h0
      | cons c r => rfl
    have hb : Pt.bytes ⟨pg, pa, s⟩ = s.data.toList := by unfold Pt.bytes; rw [if_neg h0]
    rw [hb]
    clear hb h0
    go_enter Tryz.func162, Tryz.ntmps162
    go_wp2
    go_ret
    exact ⟨s, rfl, rfl, (Below.refl _ w).alloc (Nat.le_refl _) _⟩
end Go.Proofs.YtefddiikdamnbaaGreatDoor

/- store.apply: patches laid into pages, and the head. -/
set_option maxRecDepth 100000
namespace Go.Proofs.YtefddiikdamnbaaGreatDoor
open Go.RowKit

theorem Turn.not {S S' : Nat → Prop} {w w' : World} (h : Turn S w S' w') {k : Nat} (hk : k < w.heap.size) (hn : ¬ S k) : ¬ S' k := fun h' => hn (h.2 k hk h')
theorem Turn.ofBelow {S : Nat → Prop} {w w' : World} (h : Below w.heap.size w w') : Turn S w S w' := ⟨Kept.ofBelow h, fun _ _ h => h⟩
theorem upd_back (P : Nat → Nat) (q : Nat) : upd (upd P q (P q + 1)) q (upd P q (P q + 1) q - 1) = P := by
  funext k
  by_cases hk : k = q
  · subst hk; rw [upd_same, upd_same]; omega
  · rw [upd_other _ _ hk, upd_other _ _ hk]
section
variable {w : World} {s d l p : Nat} {h h' : Hd} {cur : Option Nat}
theorem SpaceAt.there (x : SpaceAt w s d l p h cur) (k : h.Len) : w.there s 4 81 := fun j hj => ⟨by rw [x.hd j _ (List.getElem?_eq_getElem (by rw [k.cells]; exact hj))]; rfl, x.froz _⟩
theorem SpaceAt.setLast (x : SpaceAt w s d l p h cur) (k : h.Len) (k' : h'.Len) : SpaceAt (w.setCells s 4 h'.cells) s d l p h' cur := by
  obtain ⟨h1, ht, _⟩ := there_setCells_hd (x.there k) h' k'
  exact ⟨(ht.out 0 (by omega)).trans x.self, (ht.out 1 (by omega)).trans x.dk, (ht.out 2 (by omega)).trans x.lg, (ht.out 3 (by omega)).trans x.pl, h1, (ht.out 85 (by omega)).trans x.cur_, fun j => (ht.froz j).trans (x.froz j)⟩
end

def ApplyPost (J : List RawOp → Prop) (B : Nat) (S : Nat → Prop) (s d l p n : Nat) (C : Nat → List UInt8) (P : Nat → Nat) (N : Nat) (h' : Hd) (cur : Option Nat) (ps : List Pt) (w : World) (e : Ending) (w' : World) : Prop :=
  e = .returned (.tuple #[]) ∧ ∃ S', Kept (fun k => S k ∨ k = s) w w' ∧ (∀ k, k < w.heap.size → S' k → S k) ∧ PoolJ J B S' p d n (appC C ps) P (N + 3 * ps.length) w' ∧ SpaceAt w' s d l p h' cur

set_option maxHeartbeats 3200000 in
theorem apply_any (J : List RawOp → Prop) (B : Nat) (S : Nat → Prop) (s d l p n : Nat) (C : Nat → List UInt8) (P : Nat → Nat) (N : Nat) (h h' : Hd) (cur : Option Nat) (v : Value) (ps : List Pt) (Bp : Nat) (w : World)
    (x : SpaceAt w s d l p h cur) (k : h.Len) (k' : h'.Len) (hs : ¬ S s) (g : PoolJ J B S p d n C P N w) (hl : PtsAt Bp w v ps) (hlS : ∀ b, v.ownBlock = some b → ¬ S b) (hf : ∀ p ∈ ps, p.Fits) (hP : pinnedN P ≠ n) (hN : N + 3 * ps.length ≤ 4398046511104)
    (hcl : ∀ ops q bs, J ops → J (ops ++ [.put 1 (q * 512) bs])) :
    Calls Tryz.prog 105 #[.pointer (some ⟨s, 1, none⟩), .agg h'.cells.toArray, v] w (ApplyPost J B S s d l p n C P N h' cur ps w) := by
  obtain ⟨va, vc, rfl⟩ := hl.shape
  obtain ⟨X, hX⟩ : ∃ X, X = h'.cells.toArray := ⟨_, rfl⟩
  rw [← hX]
  obtain ⟨wb, hwb⟩ : ∃ wb, wb = w.alloc (.cells X 37) := ⟨_, rfl⟩
  have hbb : Below w.heap.size w wb := by rw [hwb]; exact (Below.refl _ _).alloc (Nat.le_refl _) _
  have hvb : HvAt wb w.heap.size h' := by rw [hwb, hX]; exact HvAt.new w h'
  have hsl := x.lt
  have hXB : Hid (¬ S w.heap.size) := Lib.hid (fun hh => by have := (g.low _ hh).2; omega)
  have HWB := Lib.hid hwb
  have HG := Lib.hid (g.below hbb)
  have HX := Lib.hid (x.below hbb)
  have HL := Lib.hid (hl.below hbb)
  have HBB := Lib.hid hbb; have HVB := Lib.hid hvb; have HLS := Lib.hid hlS; have HF := Lib.hid hf; have HP := Lib.hid hP; have HCL := Lib.hid hcl; have HK := Lib.hid k; have HK' := Lib.hid k'; have HS := Lib.hid hs; have HXX := Lib.hid hX
  have HSL := Lib.hid hsl
  obtain ⟨m, hm⟩ : ∃ m, m = ps.length := ⟨_, rfl⟩
  have hn63 : m ≤ 9223372036854775807 := by
    rcases hl.2 with ⟨_, h0⟩ | ⟨g, cap, cur, hv, _, _, h1, h2, _⟩
    · omega
    · unfold maxLen at h2; omega
  have HM := Lib.hid hm
  have HN := Lib.hid hN
  rw [← hm]
  clear hwb hbb hvb hX g x hl hlS hf hP hcl k k' hs hm hN
  go_enter Tryz.func105, Tryz.ntmps105
  go_wp2
  rw [HWB.out.symm]
  have HT0 : Hid (∃ S', Turn S wb S' wb ∧ PoolJ J B S' p d n (appC C (ps.take 0)) P (N + 3 * 0) wb) := Lib.hid ⟨S, Turn.refl _ _, HG.out⟩
  go_loopw [10] (fun i wr => ∃ q : Nat, q ≤ m ∧ i = .int .i64 q ∧ Hid (∃ S', Turn S wb S' wr ∧ PoolJ J B S' p d n (appC C (ps.take q)) P (N + 3 * q) wr)) (fun i _ => m - (intOf i).toNat)
  case atStart => exact ⟨0, by omega, rfl, HT0⟩
  case round =>
    obtain ⟨q, hq, rfl, hinv⟩ := hrel
    obtain ⟨S1, hT1, hJ1⟩ := hinv.out
    clear hinv
    have hsb : s < wb.heap.size := by have := HBB.out.size; have := HSL.out; omega
    have hxr : SpaceAt wr s d l p h cur := HX.out.kept hT1.1 HS.out
    have hsr : s < wr.heap.size := hxr.lt
    have hs1 : ¬ S1 s := hT1.not hsb HS.out
    by_cases hlt : q < m
    · have hlt' : q < ps.length := by rw [← HM.out]; exact hlt
      have hqn : (q : Int) < m := by omega
      obtain ⟨g, rfl, hBg, hgl, e0, e1, e2⟩ := HL.out.at hlt'
      obtain ⟨pt, hpe⟩ : ∃ pt, pt = ps[q] := ⟨_, rfl⟩
      have hmem : pt ∈ ps := by rw [hpe]; exact List.getElem_mem hlt'
      rw [← hpe] at e0 e1 e2
      have hgb : wr.heap[g]? = wb.heap[g]? := hT1.1.block g hgl (HLS.out g rfl)
      replace e0 := (World.cell?_of_block hgb).trans e0
      replace e1 := (World.cell?_of_block hgb).trans e1
      replace e2 := (World.cell?_of_block hgb).trans e2
      have HFT := Lib.hid (HF.out pt hmem)
      have HTK : Hid (appC C (ps.take (q + 1)) = appP (appC C (ps.take q)) pt) := Lib.hid (by rw [List.take_succ_eq_append_getElem hlt', appC_snoc, hpe])
      have hNq : N + 3 * q + 3 ≤ 4398046511104 := by have := HN.out; omega
      obtain ⟨C1, hC1⟩ : ∃ C1, C1 = appC C (ps.take q) := ⟨_, rfl⟩
      rw [← hC1] at hJ1 HTK
      obtain ⟨M, hM⟩ : ∃ M, M = N + 3 * q := ⟨_, rfl⟩
      rw [← hM] at hJ1 hNq
      have HM3 := Lib.hid hM
      clear hmem hpe hlt' hgb hC1 hM
      obtain ⟨pg, pa, str⟩ := pt
      simp only at e0 e1 e2
      obtain ⟨W0, hW0⟩ : ∃ W0, W0 = wr.alloc (.cells #[.int .i64 pg, .int .i64 pa, .string str] 226) := ⟨_, rfl⟩
      have hb0 : Below wr.heap.size wr W0 := by rw [hW0]; exact (Below.refl _ _).alloc (Nat.le_refl _) _
      have hg0 : W0.heap[wr.heap.size]? = some (.cells #[.int .i64 pg, .int .i64 pa, .string str] 226 (0, 0)) := by rw [hW0]; exact heap_alloc_new wr _
      have hz0 : W0.heap.size = wr.heap.size + 1 := by rw [hW0]; simp
      have hJ0 := hJ1.below hb0
      have hc1 : ¬ S1 wr.heap.size := fun hh => by have := (hJ1.low _ hh).2; omega
      have hT0 : Turn S wb S1 W0 := hT1.trans (Turn.ofBelow hb0)
      have hx0 := hxr.below hb0
      obtain ⟨T, hT⟩ : ∃ T : ByteArray, T = ⟨(Pt.bytes ⟨pg, pa, str⟩).toArray⟩ := ⟨_, rfl⟩
      have hTl : T.data.toList = Pt.bytes ⟨pg, pa, str⟩ := by rw [hT]
      have hpg : pg < 4096 := HFT.out.1
      have hTs : pa + T.size ≤ 512 := by
        have h1 := HFT.out.2
        have h2 : T.data.toList.length = T.size := rfl
        rw [← h2, hTl]; exact h1
      -- what stays: the pool's pointer, the patch's own copy
      have HKP : Hid (∀ W : World, W.heap[s]? = W0.heap[s]? → W.heap[wr.heap.size]? = W0.heap[wr.heap.size]? → W.cell? ⟨s, 3, none⟩ = some (.pointer (some ⟨p, 0, none⟩)) ∧ W.cell? ⟨wr.heap.size, 0, none⟩ = some (.int .i64 pg) ∧ W.cell? ⟨wr.heap.size, 1, none⟩ = some (.int .i64 pa) ∧ W.cell? ⟨wr.heap.size, 2, none⟩ = some (.string str)) := Lib.hid (fun W h1 h2 => by
        have h3 := h2.trans hg0
        refine ⟨(World.cell?_of_block h1).trans hx0.pl, ?_, ?_, ?_⟩ <;> rw [Lib.cell_of_heap h3] <;> rfl)
      have HPI : Hid (∀ W, Below W0.heap.size W0 W → Calls Tryz.prog 107 #[.pointer (some ⟨p, 0, none⟩), .int .i64 pg] W fun e w' => e = .returned (.int .i64 0) ∧ W0.heap.size ≤ w'.heap.size ∧ w'.heap[s]? = W0.heap[s]? ∧ w'.heap[wr.heap.size]? = W0.heap[wr.heap.size]? ∧ Hid (∃ S2, Turn S wb S2 w' ∧ (¬ S2 s ∧ ¬ S2 wr.heap.size) ∧ PoolJ J B S2 p d n C1 (upd P pg (P pg + 1)) (M + 1) w')) := Lib.hid (fun W hb => by
        refine (pin_j J B S1 p d n C1 P M pg W (hJ0.below hb) (by omega) hpg (fun ops q => HCL.out ops q _)).mono ?_
        rintro e w' ⟨S2, hT2, ⟨_, _, h2, _⟩ | ⟨rfl, _, h3⟩⟩
        · exact absurd h2 HP.out
        · have hT3 : Turn S1 W0 S2 w' := (Turn.ofBelow hb).trans hT2
          exact ⟨rfl, hT3.1.size, hT3.1.block s (by omega) hs1, hT3.1.block wr.heap.size (by omega) hc1, Lib.hid ⟨S2, hT0.trans hT3, ⟨hT3.not (by omega) hs1, hT3.not (by omega) hc1⟩, h3⟩⟩)
      have hbd0 : Below W0.heap.size W0 W0.drew := (Below.refl _ _).drew
      obtain ⟨cn, hcn⟩ : ∃ cn, cn = wr.heap.size := ⟨_, rfl⟩
      rw [← hcn] at HKP HPI
      obtain ⟨k0, k1, k2, k3⟩ := HKP.out W0 rfl rfl
      have hpl := hxr.pl
      have HW0 := Lib.hid hW0; have HZ0 := Lib.hid hz0; have HTL := Lib.hid hTl
      have HBD := Lib.hid hbd0
      have HCN := Lib.hid hcn
      clear hb0 hg0 hz0 hJ0 hJ1 hc1 hT0 hx0 hT hTl hxr hs1 hT1 hbd0 hW0 hgl hBg hsb hcn
      go_wp2
      rw [← HW0.out, ← HCN.out]
      clear e0 e1 e2 hpl
      go_still_tail 6, (by kernel_rfl)
      go_wp2_with fail
      refine (HPI.out _ HBD.out).mono ?_
      rintro e w1 ⟨rfl, hz1, hb1, hc1, hpost1⟩
      obtain ⟨S2, hT2, ⟨hn1, hn2⟩, hJ2⟩ := hpost1.out
      clear k0 k1 k2 k3 hpost1
      obtain ⟨k0, k1, k2, k3⟩ := HKP.out w1 hb1 hc1
      have hz01 : s < W0.heap.size ∧ cn < W0.heap.size := by have := HZ0.out; rw [HCN.out]; omega
      have hsz1 : s < w1.heap.size ∧ cn < w1.heap.size := by omega
      have HKC : Hid (∀ W, Below w1.heap.size w1 W → W.cell? ⟨s, 3, none⟩ = some (.pointer (some ⟨p, 0, none⟩)) ∧ W.cell? ⟨cn, 0, none⟩ = some (.int .i64 pg) ∧ W.cell? ⟨cn, 1, none⟩ = some (.int .i64 pa) ∧ W.cell? ⟨cn, 2, none⟩ = some (.string str)) := Lib.hid (fun W hb => HKP.out W ((hb.block s hsz1.1).trans hb1) ((hb.block cn hsz1.2).trans hc1))
      have HBY : Hid (∀ W, Below w1.heap.size w1 W → Calls Tryz.prog 162 #[.agg #[.int .i64 pg, .int .i64 pa, .string str]] W fun e w' => e = .returned (.string T) ∧ Below w1.heap.size w1 w') := Lib.hid (fun W hb => (pbytes_any ⟨pg, pa, str⟩ W).mono fun e w' ⟨t, h1, h2, h3⟩ => by
        have h4 := h2.trans HTL.out.symm
        have h5 : t = T := by cases t; cases T; simp only [ByteArray.mk.injEq]; exact Array.toList_inj.1 h4
        exact ⟨by rw [h1, h5], hb.trans (h3.mono hb.size)⟩)
      have HWR : Hid (∀ W, Below w1.heap.size w1 W → Calls Tryz.prog 161 #[.pointer (some ⟨p, 0, none⟩), .int .i64 pg, .int .i64 pa, .string T] W fun e w' => e = .returned (.int .i64 0) ∧ (w'.cell? ⟨s, 3, none⟩ = some (.pointer (some ⟨p, 0, none⟩)) ∧ w'.cell? ⟨cn, 0, none⟩ = some (.int .i64 pg) ∧ w'.cell? ⟨cn, 1, none⟩ = some (.int .i64 pa) ∧ w'.cell? ⟨cn, 2, none⟩ = some (.string str)) ∧ Hid (w1.heap.size ≤ w'.heap.size ∧ w'.heap[s]? = W0.heap[s]? ∧ w'.heap[cn]? = W0.heap[cn]? ∧ ∃ S3, Turn S wb S3 w' ∧ (¬ S3 s ∧ ¬ S3 cn) ∧ PoolJ J B S3 p d n (upd C1 pg (splice (C1 pg) pa T.data.toList)) (upd P pg (P pg + 1)) (M + 1 + 1) w')) := Lib.hid (fun W hb => by
        refine (write_j (hJ2.below hb) pg pa T (by rw [upd_same]; omega) hTs).mono ?_
        rintro e w' ⟨rfl, S3, hT3, h3⟩
        have hT4 : Turn S2 w1 S3 w' := (Turn.ofBelow hb).trans hT3
        have b1 := hT4.1.block s hsz1.1 hn1
        have b2 := hT4.1.block cn hsz1.2 hn2
        exact ⟨rfl, HKP.out w' (b1.trans hb1) (b2.trans hc1), Lib.hid ⟨hT4.1.size, b1.trans hb1, b2.trans hc1, S3, hT2.trans hT4, ⟨hT4.not hsz1.1 hn1, hT4.not hsz1.2 hn2⟩, h3⟩⟩)
      have hbd1 := (Below.refl w1.heap.size w1).drew
      clear hT2 hn1 hn2 hJ2 hb1 hc1 hz01 hz1 hTs
      go_wp2_with fail
      go_region_held3 (fun w' => w'.cell? ⟨s, 3, none⟩ = some (.pointer (some ⟨p, 0, none⟩)) ∧ w'.cell? ⟨cn, 0, none⟩ = some (.int .i64 pg) ∧ w'.cell? ⟨cn, 1, none⟩ = some (.int .i64 pa) ∧ w'.cell? ⟨cn, 2, none⟩ = some (.string str)) (first | assumption | exact HKC.out _ (by assumption))
        (first
          | (go_at_call 162; refine (HBY.out _ (by assumption)).mono ?_; rintro e w' ⟨rfl, hb'⟩)
          | (go_at_call 161; refine (HWR.out _ (by assumption)).mono ?_; rintro e w2 ⟨rfl, hcl, hpost2⟩))
      obtain ⟨hz2, hb2, hc2, S3, hT3, ⟨hn3, hn4⟩, hJ3⟩ := hpost2.out
      have HUN : Hid (∀ W, Below w2.heap.size w2 W → Calls Tryz.prog 109 #[.pointer (some ⟨p, 0, none⟩), .int .i64 pg] W fun e w' => e = .returned (.int .i64 0) ∧ Hid (∃ S', Turn S wb S' w' ∧ PoolJ J B S' p d n (appC C (ps.take (q + 1))) P (N + 3 * (q + 1)) w')) := Lib.hid (fun W hb => by
        refine (unpin_j (hJ3.below hb) pg (by rw [upd_same]; omega) (by omega)).mono ?_
        rintro e w' ⟨rfl, S4, hT4, h4⟩
        rw [upd_back, HTL.out] at h4
        refine ⟨rfl, Lib.hid ⟨S4, (hT3.trans (Turn.ofBelow hb)).trans hT4, ?_⟩⟩
        rw [HTK.out, show N + 3 * (q + 1) = M + 1 + 1 + 1 by have := HM3.out; omega]
        exact h4)
      obtain ⟨g0, g1, g2, g3⟩ := HKP.out w2 hb2 hc2
      have HBD2 := Lib.hid ((Below.refl w2.heap.size w2).drew)
      clear hz2 hb2 hc2 hT3 hn3 hn4 hJ3 hpost2 k0 k1 k2 k3 hbd1 hsz1
      go_wp2
      go_still_tail 6, (by kernel_rfl)
      go_wp2_with fail
      refine (HUN.out _ HBD2.out).mono ?_
      rintro e w3 ⟨rfl, hend⟩
      go_wp2
      go_roundw
      case rel => exact ⟨q + 1, by omega, by go_num, hend⟩
      case measure => simp [intOf]; omega
    · obtain rfl : q = m := by omega
      have hvr : HvAt wr w.heap.size h' := HVB.out.kept hT1.1 hXB.out
      obtain ⟨fc, hfc⟩ : ∃ fc, fc = h'.cells := ⟨_, rfl⟩
      have hk' := HK'.out
      have hk := HK.out
      have h81 : fc.toArray.size = 81 := by rw [hfc, List.size_toArray, hk'.cells]
      have HTH : Hid (wr.there s 4 fc.toArray.size) := Lib.hid (by rw [h81]; exact hxr.there hk)
      have HRG : Hid (wr.rangeAt w.heap.size 0 fc) := Lib.hid (by rw [hfc]; exact hvr.1)
      have HS1 : Hid ((Tryz.prog.info? 37).map (·.size) = some fc.length) := Lib.hid (by rw [hfc]; exact hk'.size')
      have HS2 : Hid ((Tryz.prog.info? 37).map (·.size) = some fc.toArray.size) := Lib.hid (by rw [hfc]; exact hk'.size)
      have HA1 : Hid (fc.toArray.all (·.oneCell') = true) := Lib.hid (by rw [hfc]; exact Hd.all_one h')
      obtain ⟨_, _, hk3⟩ := there_setCells_hd (hxr.there hk) h' hk'
      have HE : Hid (ApplyPost J B S s d l p n C P N h' cur ps w (.returned (.tuple #[])) (wr.setCells s 4 fc)) := Lib.hid (by
        rw [hfc]
        refine ⟨rfl, S1, ((Kept.ofBelow (S := fun k => S k ∨ k = s) HBB.out).trans hT1.1 (fun i hi => .inl (.inl hi))).trans hk3 (fun i hi => .inl (.inr hi)), fun k hk hs => hT1.2 k (Nat.lt_of_lt_of_le hk HBB.out.size) hs, ?_, hxr.setLast hk hk'⟩
        have h1 := hJ1.kept hk3 (fun k _ hs e => hs1 (e ▸ hs))
        rw [HM.out, List.take_length] at h1
        exact h1)
      clear hvr hfc hk' hk h81 hk3 hxr hs1 hT1 hJ1
      go_wp2_with (first
        | (refine wpList_load_mid rfl 37 _ rfl w.heap.size 0 (by rfl) fc _ HRG.out Tryz.underlying37 rfl HS1.out ?_)
        | (refine wpList_store_mid rfl 37 _ _ rfl s 4 fc.toArray (by rfl) (by rfl) HTH.out HS2.out HA1.out ?_; rw [List.toList_toArray]))
      go_end0
      exact HE.out
end Go.Proofs.YtefddiikdamnbaaGreatDoor

/- store.read; Action.Read: of what is no page, of a page without a draft. -/
set_option maxRecDepth 100000
namespace Go.Proofs.YtefddiikdamnbaaGreatDoor
open Go.RowKit

section
variable {J : List RawOp → Prop} {B s d l p n N a db m : Nat} {S : Nat → Prop} {C : Nat → List UInt8} {P : Nat → Nat} {last h : Hd} {cur : Option Nat} {D : Nat → Option Dr} {w : World}

def ReadPost (J : List RawOp → Prop) (B : Nat) (S : Nat → Prop) (p d n : Nat) (C : Nat → List UInt8) (P : Nat → Nat) (N : Nat) (w w' : World) : Prop :=
  ∃ S', Turn S w S' w' ∧ PoolJ J B S' p d n C P (N + 2) w'

set_option maxHeartbeats 800000 in
theorem aread_none (q : Int) (x : ActSt w a s d l p db m last h D) (hq : ¬ (1 ≤ q ∧ h.has q.toNat)) :
    Calls Tryz.prog 14 #[.pointer (some ⟨a, 0, none⟩), .int .i64 q] w fun e w' => e = .returned (.tuple #[.string ⟨#[]⟩, .int .i64 3]) ∧ w' = w := by
  have h1 := refusesPage_live q x
  rw [if_neg hq] at h1
  have HP := Lib.hid h1; clear h1 x hq
  go_enter Tryz.func14, Tryz.ntmps14
  go_wp2_with fail
  refine HP.out.mono ?_
  rintro e w' ⟨rfl, hw⟩
  subst w'
  go_wp2
  go_ret2
  exact ⟨rfl, rfl⟩

end
end Go.Proofs.YtefddiikdamnbaaGreatDoor

/- Action.Write on a page that has a draft. -/
set_option maxRecDepth 100000
namespace Go.Proofs.YtefddiikdamnbaaGreatDoor
open Go.RowKit

section
variable {w w' : World} {a s d l p db m : Nat} {last h : Hd} {D : Nat → Option Dr}

theorem Dr.there_ {y : Dr} (hr : w.rangeAt y.blk 0 y.cells) (hf : ∀ j, w.frozen? ⟨y.blk, j, none⟩ = false) (h1 : y.was.length = 512) (h2 : y.now.length = 512) : w.there y.blk 0 1025 := fun j hj =>
  ⟨by rw [hr j _ (List.getElem?_eq_getElem (by rw [y.cells_length h1 h2]; exact hj))]; rfl, hf _⟩
theorem Dr.range_now {y : Dr} (hr : w.rangeAt y.blk 0 y.cells) (h1 : y.was.length = 512) : w.rangeAt y.blk 513 (Lib.byteCells y.now) := fun j v hv => by
  have := hr (513 + j) v (by rw [Dr.cells, show 513 + j = (512 + j) + 1 by omega, List.getElem?_cons_succ, List.getElem?_append_right (by rw [Lib.byteCells_length, h1]; omega), Lib.byteCells_length, h1, show 512 + j - 512 = j by omega]; exact hv)
  rwa [Nat.zero_add] at this

/-- A draft with bytes laid into what it is now. -/
def Dr.put (y : Dr) (at_ : Nat) (bs : List UInt8) : Dr := { y with now := splice y.now at_ bs }
theorem Dr.put_nil (y : Dr) (at_ : Nat) : y.put at_ [] = y := by unfold Dr.put; rw [splice_nil]

theorem DraftsAt.turn (x : DraftsAt w db m D) {q : Nat} {y : Dr} (hq : D q = some y) {at_ : Nat} {bs : List UInt8} (hle : at_ + bs.length ≤ 512) :
    DraftsAt (w.setCells y.blk (513 + at_) (Lib.byteCells bs)) db m (upd D q (some (y.put at_ bs))) ∧ Kept (fun k => k = y.blk) w (w.setCells y.blk (513 + at_) (Lib.byteCells bs)) := by
  obtain ⟨w', hw⟩ : ∃ w', w' = w.setCells y.blk (513 + at_) (Lib.byteCells bs) := ⟨_, rfl⟩
  have hk : Kept (fun k => k = y.blk) w w' := by rw [hw]; exact Kept.setCells (fun k => k = y.blk) w (fb := y.blk) rfl _
  rw [← hw]
  refine ⟨?_, hk⟩
  obtain ⟨F, hF, h4, h5⟩ := x.map
  obtain ⟨g1, g2, g3, g4, g5, g6, g7⟩ := x.at_ q y hq
  have hth := Dr.there_ g2 g3 g4 g5
  refine ⟨⟨F, hF.block (hk.block db x.ltM (fun e => g6 e.symm)), fun j z hj => ?_, fun j v hj => ?_⟩, fun j z hj => ?_, fun j j' z z' hj hj' e => ?_⟩
  · by_cases hjq : j = q
    · subst hjq; rw [upd_same] at hj; cases hj; exact h4 j y hq
    · rw [upd_other _ _ hjq] at hj; exact h4 j z hj
  · obtain ⟨n, z, e1, e2, e3⟩ := h5 j v hj
    by_cases hnq : n = q
    · subst hnq
      rw [hq] at e2; cases e2
      exact ⟨n, _, e1, upd_same _ _ _, e3⟩
    · exact ⟨n, z, e1, by rw [upd_other _ _ hnq]; exact e2, e3⟩
  · by_cases hjq : j = q
    · subst hjq; rw [upd_same] at hj; cases hj
      refine ⟨g1, fun i v hv => ?_, fun i => by show w'.frozen? ⟨y.blk, i, none⟩ = false; rw [hw, World.frozen?_setCells]; exact g3 i, g4, ?_, g6, by show y.blk < w'.heap.size; exact Nat.lt_of_lt_of_le g7 hk.size⟩
      · show w'.cell? ⟨y.blk, 0 + i, none⟩ = some v
        by_cases hi : i < 513
        · rw [hw, World.cell?_setCells_out y.blk _ (513 + at_) w _ (fun _ _ => .inl (by show 0 + i < 513 + at_; omega))]
          refine g2 i v ?_
          cases i with
          | zero => exact hv
          | succ i =>
            rw [Dr.cells, List.getElem?_cons_succ, List.getElem?_append_left (by rw [Lib.byteCells_length]; show i < y.was.length; omega)] at hv
            rw [Dr.cells, List.getElem?_cons_succ, List.getElem?_append_left (by rw [Lib.byteCells_length]; omega)]
            exact hv
        · have hsp := rangeAt_splice (Dr.range_now g2 g4) at_ bs (by omega) (there_part hth (by omega) (by omega)) (i - 513) v (by
            rw [Dr.cells, show i = (i - 1) + 1 by omega, List.getElem?_cons_succ, List.getElem?_append_right (by rw [Lib.byteCells_length]; show y.was.length ≤ i - 1; omega), Lib.byteCells_length] at hv
            rw [show i - 513 = i - 1 - (y.put at_ bs).was.length by show _ = i - 1 - y.was.length; omega]
            exact hv)
          rw [hw, show 0 + i = 513 + (i - 513) by omega]
          exact hsp
      · show (splice y.now at_ bs).length = 512
        rw [length_splice _ _ _ (by omega)]; exact g5
    · rw [upd_other _ _ hjq] at hj
      obtain ⟨k1, k2, k3, k4, k5, k6, k7⟩ := x.at_ j z hj
      have hb := hk.block z.blk k7 (fun e => hjq (x.one j q z y hj hq e))
      exact ⟨k1, fun i v hv => (World.cell?_of_block hb).trans (k2 i v hv), fun i => (World.frozen?_of_block hb).trans (k3 i), k4, k5, k6, Nat.lt_of_lt_of_le k7 hk.size⟩
  · by_cases hjq : j = q <;> by_cases hjq' : j' = q
    · omega
    · subst hjq; rw [upd_same] at hj; rw [upd_other _ _ hjq'] at hj'; cases hj; exact x.one j j' y z' hq hj' e
    · subst hjq'; rw [upd_same] at hj'; rw [upd_other _ _ hjq] at hj; cases hj'; exact x.one j j' z y hj hq e
    · rw [upd_other _ _ hjq] at hj; rw [upd_other _ _ hjq'] at hj'; exact x.one j j' z z' hj hj' e

theorem ActSt.turnDr (x : ActSt w a s d l p db m last h D) {q : Nat} {y : Dr} (hq : D q = some y) {at_ : Nat} {bs : List UInt8} (hle : at_ + bs.length ≤ 512) :
    ActSt (w.setCells y.blk (513 + at_) (Lib.byteCells bs)) a s d l p db m last h (upd D q (some (y.put at_ bs))) ∧ Kept (fun k => k = y.blk) w (w.setCells y.blk (513 + at_) (Lib.byteCells bs)) := by
  obtain ⟨h1, hk⟩ := x.dr.turn hq hle
  have hb := x.blk q y hq
  refine ⟨⟨x.sp.kept hk (fun e => hb.2 e.symm), x.ac.kept hk (fun e => hb.1 e.symm), h1, x.okl, x.ok, fun j z hj => ?_, x.ne, fun j z hj => ?_⟩, hk⟩
  · by_cases hjq : j = q
    · subst hjq; exact x.has j y hq
    · rw [upd_other _ _ hjq] at hj; exact x.has j z hj
  · by_cases hjq : j = q
    · subst hjq; rw [upd_same] at hj; cases hj; exact hb
    · rw [upd_other _ _ hjq] at hj; exact x.blk j z hj

set_option maxHeartbeats 1600000 in
theorem awrite_draft (q at_ : Nat) (y : Dr) (t : ByteArray) (x : ActSt w a s d l p db m last h D) (hq : D q = some y) (hle : at_ + t.size ≤ 512) :
    Calls Tryz.prog 17 #[.pointer (some ⟨a, 0, none⟩), .int .i64 q, .int .i64 at_, .string t] w fun e w' => e = .returned (.int .i64 0) ∧ ActSt w' a s d l p db m last h (upd D q (some (y.put at_ t.data.toList))) ∧ Kept (fun k => k = y.blk) w w' := by
  have h1 := refusesPage_live q x
  have hhas := x.has q y hq
  rw [if_pos (by rw [Int.toNat_natCast]; exact ⟨by have := hhas.1; omega, hhas⟩)] at h1
  have HP := Lib.hid h1
  have hlk := x.dr.look hq
  unfold Dr.ptr at hlk
  have c83 := x.ac.dr
  obtain ⟨g1, g2, g3, g4, g5, g6, g7⟩ := x.dr.at_ q y hq
  have hth := Dr.there_ g2 g3 g4 g5
  have he : t.data.toList.length = t.size := rfl
  obtain ⟨hX, hk⟩ := x.turnDr hq (at_ := at_) (bs := t.data.toList) (by rw [he]; exact hle)
  have ha5 : at_ ≤ 512 := by omega
  have hlt : ¬ ((512 : Int) - t.size < at_) := by omega
  have hs1 : (512 : Int) - t.size ≤ 512 := by omega
  have hsl := fun W => run_sliceArr W ⟨y.blk, 513, none⟩ at_ ha5
  obtain ⟨yb, hyb⟩ : ∃ yb, yb = y.blk := ⟨_, rfl⟩
  rw [← hyb] at hlk hsl g7
  by_cases h0 : t.size = 0
  · have hnil : t.data.toList = [] := List.eq_nil_of_length_eq_zero (by rw [he, h0])
    obtain ⟨ax, hax⟩ : ∃ ax, (if 512 = at_ then (⟨yb, 513, none⟩ : Addr) else (⟨yb, 513, none⟩ : Addr).add at_) = ax := ⟨_, rfl⟩
    rw [hax] at hsl
    clear hax
    have hcp := fun (ax : Option Addr) (x y : Nat) => Lib.run_copy_empty_string (P := Tryz.prog) w 113 9 3 5 ax x y t Tryz.underlying113 (by kernel_rfl) h0
    have HE : Hid (ActSt w a s d l p db m last h (upd D q (some (y.put at_ t.data.toList))) ∧ Kept (fun k => k = y.blk) w w) := Lib.hid (by
      rw [hnil, Dr.put_nil, show upd D q (some y) = D by rw [← hq]; exact upd_self _ _]
      exact ⟨x, Kept.refl _ _⟩)
    have hs0 : (t.size : Int) ≤ 0 := by omega
    have HZ := Lib.hid h0
    clear h1 x hq hle hhas g1 g2 g3 g4 g5 g6 hth hX hk hnil h0 he hyb
    go_enter Tryz.func17, Tryz.ntmps17
    go_wp2_with fail
    refine HP.out.mono ?_
    rintro e w' ⟨rfl, hw⟩
    subst w'
    go_wp2
    go_ret
    exact ⟨rfl, HE.out⟩
  · rw [if_neg (show ¬ 512 = at_ by omega), add_lit'] at hsl
    have hcp := run_copy_string_mid w 113 9 3 5 yb (513 + at_) (512 - at_) (512 - at_) t Tryz.underlying113 (by kernel_rfl) (by rw [hyb]; exact there_part hth (by omega) (by omega)) (by omega)
    have HE := Lib.hid (And.intro hX hk)
    rw [← hyb] at HE
    have hb1 : (at_ : Int) < 512 := by omega
    have hca : ¬ 512 = at_ := by omega
    have hs0 : (0 : Int) < t.size := by omega
    have HYB := Lib.hid hyb
    clear h1 x hq hle hhas g1 g2 g3 g4 g5 g6 hth hX hk h0 he hyb
    go_enter Tryz.func17, Tryz.ntmps17
    go_wp2_with fail
    refine HP.out.mono ?_
    rintro e w' ⟨rfl, hw⟩
    subst w'
    go_wp2
    go_ret
    rw [← HYB.out]
    exact ⟨rfl, HE.out⟩
end
end Go.Proofs.YtefddiikdamnbaaGreatDoor

/- store.restore, on a disk that has no head. -/
set_option maxRecDepth 100000
namespace Go.Proofs.YtefddiikdamnbaaGreatDoor
open Go.RowKit

/-- What a record tells: a head, and patches that fit. -/
def Tells (r : ByteArray) (x : Hd × List Pt) : Prop := ∃ x1 z, rHd (r.data.toList, false) = (x.1, x1) ∧ rPts x1.1.length x1 = (x.2, z) ∧ z.2 = false ∧ x.2.length ≤ 4194304 ∧ ∀ p ∈ x.2, p.Fits
def resC (C : Nat → List UInt8) (xs : List (Hd × List Pt)) : Nat → List UInt8 := xs.foldl (fun C x => appC C x.2) C
def resH (h : Hd) (xs : List (Hd × List Pt)) : Hd := xs.foldl (fun _ x => x.1) h
def resN (N : Nat) (xs : List (Hd × List Pt)) : Nat := xs.foldl (fun N x => N + 3 * x.2.length) N
theorem resN_mono (N : Nat) (xs ys : List (Hd × List Pt)) : resN N xs ≤ resN N (xs ++ ys) := by
  have : ∀ (ys : List (Hd × List Pt)) M, M ≤ resN M ys := fun ys => by
    induction ys with
    | nil => intro M; exact Nat.le_refl _
    | cons y r ih => intro M; exact Nat.le_trans (by omega) (ih (M + 3 * y.2.length))
  unfold resN
  rw [List.foldl_append]
  exact this ys _

theorem Strs.at {B : Nat} {w : World} {a : Option Addr} {n c : Nat} {rs : List ByteArray} (h : Strs B w (.slice a n c) rs) {k : Nat} (hk : k < rs.length) :
    ∃ g, a = some ⟨g, 0, none⟩ ∧ B ≤ g ∧ g < w.heap.size ∧ w.cell? ⟨g, k, none⟩ = some (.string rs[k]) := by
  rcases h.2 with ⟨_, h0⟩ | ⟨g, cap, cur, hv, hB, hg, _⟩
  · omega
  · injection hv with hv _ _
    subst hv
    have := World.ownsRow.cells h (g := g) rfl k (.string rs[k]) (by simp [hk])
    rw [add_lit', Nat.zero_add] at this
    exact ⟨g, rfl, hB, (Array.getElem?_eq_some_iff.1 hg).1, this⟩

def ResPost (J : List RawOp → Prop) (B : Nat) (S : Nat → Prop) (s d l p n : Nat) (C : Nat → List UInt8) (P : Nat → Nat) (N : Nat) (last : Hd) (cur : Option Nat) (xs : List (Hd × List Pt)) (w w' : World) : Prop :=
  ∃ S', Kept (fun k => S k ∨ k = s) w w' ∧ (∀ k, k < w.heap.size → S' k → S k) ∧ PoolJ J B S' p d n (resC C xs) P (resN N xs) w' ∧ SpaceAt w' s d l p (resH last xs) cur

set_option maxHeartbeats 3200000 in
theorem restore_any (J : List RawOp → Prop) (B : Nat) (S : Nat → Prop) (s d l p n : Nat) (C : Nat → List UInt8) (P : Nat → Nat) (N : Nat) (last : Hd) (cur : Option Nat) (v : Value) (rs : List ByteArray) (xs : List (Hd × List Pt)) (Bp : Nat) (w : World)
    (x : SpaceAt w s d l p last cur) (k : last.Len) (hs : ¬ S s) (g : PoolJ J B S p d n C P N w) (hl : Strs Bp w v rs) (hlS : ∀ b, v.ownBlock = some b → ¬ S b ∧ b ≠ s) (hlen : rs.length = xs.length) (hx : ∀ i (h1 : i < rs.length) (h2 : i < xs.length), Tells rs[i] xs[i]) (hP : pinnedN P ≠ n) (hN : resN N xs ≤ 4398046511104)
    (hcl : ∀ ops q bs, J ops → J (ops ++ [.put 1 (q * 512) bs])) (hJ2 : ∀ ops, J ops → (rHd (play ops 2, false)).2.2 = true) :
    Calls Tryz.prog 50 #[.pointer (some ⟨s, 1, none⟩), v] w fun e w' => e = .returned (.tuple #[]) ∧ ResPost J B S s d l p n C P N last cur xs w w' := by
  obtain ⟨va, vc, rfl⟩ := hl.shape
  obtain ⟨Sd, ops, hJ, hD, _⟩ := g.disk
  have hsh := hJ2 ops hJ
  have hL : (play ops 2).length ≤ 4194304 := play_length hD.1 2
  obtain ⟨t, ht⟩ : ∃ t : ByteArray, t = ⟨(play ops 2).toArray⟩ := ⟨_, rfl⟩
  have htl : t.data.toList = play ops 2 := by rw [ht]
  have htz : t.size = (play ops 2).length := by rw [← htl]; rfl
  rw [← htl] at hsh
  have HSZ : Hid (∀ n, Calls Tryz.prog 101 #[.pointer (some ⟨d, 0, none⟩), .int .i64 2] (w.drewN n) fun e w' => e = .returned (.int .i64 t.size) ∧ w' = w.drewN n) := Lib.hid (fun n => (size_ok 2 Sd d ops _ (hD.below (below_drewN w n)) (by omega)).mono fun e w' ⟨h1, h2⟩ => ⟨by rw [h1, htz], h2⟩)
  have HRD : Hid (∀ n, Calls Tryz.prog 100 #[.pointer (some ⟨d, 0, none⟩), .int .i64 2, .int .i64 0, .int .i64 t.size] (w.drewN n) fun e w' => e = .returned (.tuple #[.string t, .int .i64 0]) ∧ w' = w.drewN n) := Lib.hid (fun n => (read_ok 2 0 t.size Sd d ops _ (hD.below (below_drewN w n)) (by omega) (by omega)).mono fun e w' ⟨h1, h2⟩ => ⟨by rw [h1, List.drop_zero, List.take_of_length_le (by omega), ← ht], h2⟩)
  obtain ⟨Z, hZ⟩ : ∃ Z : Array Value, Z = Hd.zero.cells.toArray := ⟨_, rfl⟩
  have HHO : Hid (∀ W, Calls Tryz.prog 103 #[.string t] W fun e w' => e = .returned (.tuple #[.agg Z, .bool false]) ∧ Below W.heap.size W w') := Lib.hid (fun W => by rw [hZ]; exact headOf_short t W hsh)
  have HEX : Hid (∀ (a : Act) (o : Oper) (_ : o.op = .alloc 37) (W : World), (execOp a.eval o).run Tryz.prog W = .ok (.value (.pointer (some ⟨W.heap.size, 0, none⟩))) (W.alloc (.cells Z 37))) := Lib.hid (by rw [hZ]; exact fun _ _ ho W => exec_alloc_head ho W)
  have HZ2 : Hid ((Tryz.prog.info? 37).map (·.size) = some Z.size) := Lib.hid (by rw [hZ]; exact Hd.zero_len.size)
  have HZA : Hid (Z.all (·.oneCell') = true) := Lib.hid (by rw [hZ]; exact Hd.all_one _)
  have HZT : Hid (∀ W : World, (W.alloc (.cells Z 37)).there W.heap.size 0 Z.size) := Lib.hid (fun W => by
    have := (HvAt.new W Hd.zero).there Hd.zero_len
    have e : Z.size = 81 := by rw [hZ, List.size_toArray, Hd.zero_len.cells]
    rw [← hZ] at this
    rw [e]; exact this)
  have hpd := x.dk
  have HX := Lib.hid x; have HG := Lib.hid g; have HL := Lib.hid hl; have HS := Lib.hid hs; have HLS := Lib.hid hlS; have HK := Lib.hid k
  have HLEN := Lib.hid hlen; have HT := Lib.hid hx; have HP := Lib.hid hP; have HN := Lib.hid hN; have HCL := Lib.hid hcl; have HZ := Lib.hid hZ
  obtain ⟨m, hm⟩ : ∃ m, m = rs.length := ⟨_, rfl⟩
  have hn63 : m ≤ 9223372036854775807 := by
    rcases hl.2 with ⟨_, h0⟩ | ⟨g, cap, cur, hv, _, _, h1, h2, _⟩
    · omega
    · unfold maxLen at h2; omega
  have HM := Lib.hid hm
  rw [← hm]
  clear hJ hD hsh hL ht htl htz hZ x g hl hs hlS k hlen hx hP hN hcl hJ2 hm
  go_enter Tryz.func50, Tryz.ntmps50
  go_wp2_with fail
  go_quiet ((first | (go_at_call 101; exact Calls.quiet_of_same (HSZ.out _)) | (go_at_call 100; exact Calls.quiet_of_same (HRD.out _))))
  go_wp2_with fail
  refine (HHO.out _).mono ?_
  rintro e w2 ⟨rfl, hb2⟩
  have HB2 := Lib.hid ((below_drewN w nq).trans hb2)
  clear hb2
  obtain ⟨w3, hw3⟩ : ∃ w3, w3 = (w2.alloc (.cells Z 37)).setCells w2.heap.size 0 Z.toList := ⟨_, rfl⟩
  have HW3 := Lib.hid hw3.symm
  have hb3 : Below w.heap.size w w3 := by
    rw [hw3]
    exact (HB2.out.trans ((Below.refl _ _).alloc HB2.out.size _)).trans ((Kept.setCells (fun j => j = w2.heap.size) _ (fb := w2.heap.size) rfl _).toBelow (by simp; have := HB2.out.size; omega) (fun i hi => by have := HB2.out.size; omega))
  have HB3 := Lib.hid hb3
  clear hw3 hb3
  go_wp2_with (first
    | (refine wpList_val rfl _ (HEX.out _ _ rfl _) ?_)
    | (refine wpList_store_mid rfl 37 _ _ rfl w2.heap.size 0 Z (by rfl) (by rfl) (HZT.out w2) HZ2.out HZA.out ?_; rw [HW3.out]))
  have HI0 : Hid (∃ S', Kept (fun k => S k ∨ k = s) w3 w3 ∧ (∀ k, k < w3.heap.size → S' k → S k) ∧ PoolJ J B S' p d n (resC C (xs.take 0)) P (resN N (xs.take 0)) w3 ∧ SpaceAt w3 s d l p (resH last (xs.take 0)) cur ∧ (resH last (xs.take 0)).Len) := Lib.hid ⟨S, Kept.refl _ _, fun _ _ h => h, HG.out.below HB3.out, HX.out.below HB3.out, HK.out⟩
  go_loopw [38] (fun i wr => ∃ q : Nat, q ≤ m ∧ i = .int .i64 q ∧ Hid (∃ S', Kept (fun k => S k ∨ k = s) w3 wr ∧ (∀ k, k < w3.heap.size → S' k → S k) ∧ PoolJ J B S' p d n (resC C (xs.take q)) P (resN N (xs.take q)) wr ∧ SpaceAt wr s d l p (resH last (xs.take q)) cur ∧ (resH last (xs.take q)).Len)) (fun i _ => m - (intOf i).toNat)
  case atStart => exact ⟨0, by omega, rfl, HI0⟩
  case round =>
    obtain ⟨q, hq, rfl, hinv⟩ := hrel
    obtain ⟨S1, hk1, hs1, hJ1, hx1, hln1⟩ := hinv.out
    clear hinv
    have hs3 : s < w3.heap.size := Nat.lt_of_lt_of_le HX.out.lt HB3.out.size
    have hS1 : ¬ S1 s := fun hh => HS.out (hs1 s hs3 hh)
    by_cases hlt : q < m
    · have hlt1 : q < rs.length := by rw [← HM.out]; exact hlt
      have hlt2 : q < xs.length := by rw [← HLEN.out]; exact hlt1
      have hqn : (q : Int) < m := by omega
      obtain ⟨g, rfl, hBg, hgl, e0⟩ := (HL.out.below HB3.out).at hlt1
      replace e0 := (World.cell?_of_block (hk1.block g hgl (fun hh => hh.elim (HLS.out g rfl).1 (HLS.out g rfl).2))).trans e0
      obtain ⟨x1, z, t1, t2, t3, t4, t5⟩ := HT.out q hlt1 hlt2
      obtain ⟨r, hr⟩ : ∃ r, r = rs[q] := ⟨_, rfl⟩
      obtain ⟨y, hy⟩ : ∃ y, y = xs[q] := ⟨_, rfl⟩
      rw [← hr] at e0 t1
      rw [← hy] at t1 t2 t4 t5
      have htk : xs.take (q + 1) = xs.take q ++ [y] := by rw [List.take_succ_eq_append_getElem hlt2, hy]
      have hC2 : resC C (xs.take (q + 1)) = appC (resC C (xs.take q)) y.2 := by rw [htk]; simp [resC]
      have hN2 : resN N (xs.take (q + 1)) = resN N (xs.take q) + 3 * y.2.length := by rw [htk]; simp [resN]
      have hH2 : resH last (xs.take (q + 1)) = y.1 := by rw [htk]; simp [resH]
      have hNN : resN N (xs.take q) + 3 * y.2.length ≤ 4398046511104 := by
        have h1 := resN_mono N (xs.take (q + 1)) (xs.drop (q + 1))
        rw [List.take_append_drop, hN2] at h1
        exact Nat.le_trans h1 HN.out
      have HNX := Lib.hid (And.intro hC2 (And.intro hN2 hH2))
      have HA := Lib.hid (actionOf_ok r y.1 x1 z y.2 wr t1 t2 t3 t4)
      have hfl : y.1.Len := by have := rHd_len (r.data.toList, false); rw [t1] at this; exact this
      obtain ⟨fl, hfe⟩ : ∃ fl, fl = y.1.cells := ⟨_, rfl⟩
      rw [← hfe] at HA
      have HS1 : Hid ((Tryz.prog.info? 37).map (·.size) = some fl.length) := Lib.hid (by rw [hfe]; exact hfl.size')
      have HS2 : Hid ((Tryz.prog.info? 37).map (·.size) = some fl.toArray.size) := Lib.hid (by rw [hfe]; exact hfl.size)
      have HA2 : Hid (fl.toArray.all (·.oneCell') = true) := Lib.hid (by rw [hfe]; exact Hd.all_one _)
      have HT2 : Hid (∀ W : World, (W.alloc (.cells Z 37)).there W.heap.size 0 fl.toArray.size) := Lib.hid (fun W => by
        have := HZT.out W
        have e : fl.toArray.size = Z.size := by rw [HZ.out, hfe, List.size_toArray, List.size_toArray, hfl.cells, Hd.zero_len.cells]
        rw [e]; exact this)
      have HP2 : Hid (∀ W : World, HvAt ((W.alloc (.cells Z 37)).setCells W.heap.size 0 fl) W.heap.size y.1 ∧ Kept (fun j => j = W.heap.size) (W.alloc (.cells Z 37)) ((W.alloc (.cells Z 37)).setCells W.heap.size 0 fl)) := Lib.hid (fun W => by
        have := (HvAt.new W Hd.zero).put Hd.zero_len hfl
        rw [← HZ.out] at this
        rw [hfe]; exact this)
      have HAP : Hid (∀ (w5 : World) (v' : Value), Below wr.heap.size wr w5 → PtsAt wr.heap.size w5 v' y.2 → Calls Tryz.prog 105 #[.pointer (some ⟨s, 1, none⟩), .agg fl.toArray, v'] w5 (ApplyPost J B S1 s d l p n (resC C (xs.take q)) P (resN N (xs.take q)) y.1 cur y.2 w5)) := Lib.hid (fun w5 v' hb5 hp5 => by
        rw [hfe]
        refine apply_any J B S1 s d l p n _ P _ _ y.1 cur v' y.2 wr.heap.size w5 (hx1.below hb5) hln1 hfl hS1 (hJ1.below hb5) hp5 (fun b hb hh => ?_) t5 HP.out hNN HCL.out
        have h1 := (World.ownsRow.lt hp5 b hb).1
        have h2 := (hJ1.low b hh).2
        omega)
      have HFL := Lib.hid hfl
      have HK1 := Lib.hid (And.intro hk1 hs1)
      clear hr hy htk hC2 hN2 hH2 hNN t1 t2 t3 t4 t5 hfl hfe hk1 hs1 hJ1 hx1 hln1 hBg hgl hlt1 hlt2
      go_wp2_with fail
      refine HA.out.mono ?_
      rintro e w4 ⟨v', rfl, hp4, hb4⟩
      obtain ⟨w5, hw5⟩ : ∃ w5, w5 = (w4.alloc (.cells Z 37)).setCells w4.heap.size 0 fl := ⟨_, rfl⟩
      have HW5 := Lib.hid hw5.symm
      obtain ⟨hv5, hk5⟩ := HP2.out w4
      rw [← hw5] at hv5 hk5
      have hb45 : Below w4.heap.size w4 w5 := ((Below.refl _ w4).alloc (Nat.le_refl _) _).trans (hk5.toBelow (by simp) (fun i hi => by omega))
      have hb5 : Below wr.heap.size wr w5 := hb4.trans (hb45.mono hb4.size)
      have HAQ := Lib.hid (HAP.out w5 v' hb5 (hp4.below hb45))
      have HRG : Hid (w5.rangeAt w4.heap.size 0 fl) := Lib.hid (by
        rw [hw5]
        exact World.rangeAt_setCells_same _ _ _ _ (by have := HT2.out w4; rw [List.size_toArray] at this; exact this))
      have HB5 := Lib.hid hb5
      clear hp4 hb4 hw5 hv5 hk5 hb45 hb5
      go_wp2_with (first
        | (refine wpList_val rfl _ (HEX.out _ _ rfl _) ?_)
        | (refine wpList_store_mid rfl 37 _ _ rfl w4.heap.size 0 fl.toArray (by rfl) (by rfl) (HT2.out w4) HS2.out HA2.out ?_; rw [List.toList_toArray, HW5.out])
        | (refine wpList_load_mid rfl 37 _ rfl w4.heap.size 0 (by rfl) fl _ HRG.out Tryz.underlying37 rfl HS1.out ?_))
      refine HAQ.out.mono ?_
      rintro e w6 ⟨rfl, S6, hk6, hs6, hJ6, hx6⟩
      have HEND : Hid (∃ S', Kept (fun k => S k ∨ k = s) w3 w6 ∧ (∀ k, k < w3.heap.size → S' k → S k) ∧ PoolJ J B S' p d n (resC C (xs.take (q + 1))) P (resN N (xs.take (q + 1))) w6 ∧ SpaceAt w6 s d l p (resH last (xs.take (q + 1))) cur ∧ (resH last (xs.take (q + 1))).Len) := Lib.hid (by
        rw [HNX.out.1, HNX.out.2.1, HNX.out.2.2]
        have hk35 := HK1.out.1.trans (Kept.ofBelow (S := fun k => S1 k ∨ k = s) HB5.out) (fun i hi => by
          by_cases hi3 : i < w3.heap.size
          · exact .inl (hi.imp (HK1.out.2 i hi3) id)
          · exact .inr (by omega))
        refine ⟨S6, hk35.trans hk6 (fun i hi => ?_), fun k hk hh => HK1.out.2 k hk (hs6 k (Nat.lt_of_lt_of_le hk hk35.size) hh), hJ6, hx6, HFL.out⟩
        by_cases hi3 : i < w3.heap.size
        · exact .inl (hi.imp (HK1.out.2 i hi3) id)
        · exact .inr (by omega))
      clear hk6 hs6 hJ6 hx6
      go_wp2
      go_roundw
      case rel => exact ⟨q + 1, by omega, by go_num, HEND⟩
      case measure => simp [intOf]; omega
    · obtain rfl : q = m := by omega
      have HE : Hid (ResPost J B S s d l p n C P N last cur xs w wr) := Lib.hid (by
        have e : xs.take q = xs := by rw [HM.out, HLEN.out, List.take_length]
        rw [e] at hJ1 hx1
        exact ⟨S1, (Kept.ofBelow (S := fun k => S k ∨ k = s) HB3.out).trans hk1 (fun _ hi => .inl hi), fun k hk hh => hs1 k (Nat.lt_of_lt_of_le hk HB3.out.size) hh, hJ1, hx1⟩)
      clear hk1 hs1 hJ1 hx1 hln1
      go_wp2
      go_end0
      exact ⟨rfl, HE.out⟩
end Go.Proofs.YtefddiikdamnbaaGreatDoor

/- Open, on a disk that has no head. -/
set_option maxRecDepth 100000
namespace Go.Proofs.YtefddiikdamnbaaGreatDoor
open Go.RowKit

def stCells (d l p : Nat) : List Value := [.pointer (some ⟨d, 0, none⟩), .pointer (some ⟨l, 0, none⟩), .pointer (some ⟨p, 0, none⟩)] ++ Hd.zero.cells ++ [.pointer none]
theorem built_store (d l p : Nat) : Tryz.prog.built 53 [(0, .pointer (some ⟨d, 0, none⟩)), (1, .pointer (some ⟨l, 0, none⟩)), (2, .pointer (some ⟨p, 0, none⟩))] = some (stCells d l p).toArray := by kernel_rfl
theorem built_space (d l p : Nat) : Tryz.prog.built 55 [(1, .agg (stCells d l p).toArray)] = some (Value.pointer none :: stCells d l p).toArray := by kernel_rfl

theorem space_new (W : World) (d l p : Nat) : SpaceAt (W.alloc (.cells (Value.pointer (some ⟨W.heap.size, 0, none⟩) :: stCells d l p).toArray 55)) W.heap.size d l p Hd.zero none := by
  have hg := heap_alloc_new W (.cells (Value.pointer (some ⟨W.heap.size, 0, none⟩) :: stCells d l p).toArray 55)
  have hc : ∀ i v, (Value.pointer (some ⟨W.heap.size, 0, none⟩) :: stCells d l p)[i]? = some v → (W.alloc (.cells (Value.pointer (some ⟨W.heap.size, 0, none⟩) :: stCells d l p).toArray 55)).cell? ⟨W.heap.size, i, none⟩ = some v := fun i v hi => by
    rw [Lib.cell_of_heap hg, List.getElem?_toArray]; exact hi
  refine ⟨hc 0 _ rfl, hc 1 _ rfl, hc 2 _ rfl, hc 3 _ rfl, fun j v hj => ?_, hc 85 _ rfl, fun j => Lib.frozen_of_heap hg _⟩
  refine hc (4 + j) v ?_
  have hjl := (List.getElem?_eq_some_iff.1 hj).1
  rw [show 4 + j = (3 + j) + 1 by omega, List.getElem?_cons_succ, stCells, List.append_assoc, List.getElem?_append_right (by simp), List.getElem?_append_left (by simp; omega)]
  simpa using hj

def OpenPost (J : List RawOp → Prop) (B : Nat) (S : Nat → Prop) (d n : Nat) (C : Nat → List UInt8) (N : Nat) (xs : List (Hd × List Pt)) (w : World) (e : Ending) (w' : World) : Prop :=
  ∃ s l p S', e = .returned (.tuple #[.pointer (some ⟨s, 0, none⟩), .int .i64 0]) ∧ (w.heap.size ≤ s ∧ w.heap.size ≤ l ∧ l ≠ s ∧ ¬ S' s ∧ ¬ S' l) ∧ LogOn l d w' ∧ SpaceAt w' s d l p (resH Hd.zero xs) none ∧ PoolJ J B S' p d n (resC C xs) (fun _ => 0) (resN N xs) w' ∧ Kept S w w' ∧ ∀ k, k < w.heap.size → S' k → S k

set_option maxHeartbeats 3200000 in
theorem sopen_ok (J : List RawOp → Prop) (B d n N : Nat) (S : Nat → Prop) (ops : List RawOp) (rs : List ByteArray) (xs : List (Hd × List Pt)) (w : World) (h : DiskAt S d ops w) (hS : ∀ k, S k → B ≤ k ∧ k < w.heap.size) (hp : play ops 0 = logB rs) (hrs : Recs rs) (h1 : 4 ≤ n) (h2 : n ≤ 1024) (hNo : ops.length ≤ N) (hJ : J ops)
    (hlen : rs.length = xs.length) (hx : ∀ i (h1 : i < rs.length) (h2 : i < xs.length), Tells rs[i] xs[i]) (hN : resN N xs ≤ 4398046511104)
    (hcl : ∀ ops q bs, J ops → J (ops ++ [.put 1 (q * 512) bs])) (hJ2 : ∀ ops, J ops → (rHd (play ops 2, false)).2.2 = true) :
    Calls Tryz.prog 10 #[.pointer (some ⟨d, 0, none⟩), .int .i64 n] w (OpenPost J B S d n (fun q => pageOf (play ops 1) q) N xs w) := by
  have HO := Lib.hid (open_ok S d ops rs w h hp hrs)
  have HPN : Hid (∀ w1, Below w.heap.size w w1 → Calls Tryz.prog 49 #[.pointer (some ⟨d, 0, none⟩), .int .i64 n] w1 fun e w' => ∃ p S', e = .returned (.tuple #[.pointer (some ⟨p, 0, none⟩), .int .i64 0]) ∧ PoolJ J B S' p d n (fun q => pageOf (play ops 1) q) (fun _ => 0) N w' ∧ Below w1.heap.size w1 w' ∧ S' p ∧ (∀ k, S k → S' k) ∧ ∀ k, k < w1.heap.size → S' k → S k) := Lib.hid (fun w1 hb => pnew_j J B d n N S ops w1 (h.below hb) (fun k hk => ⟨(hS k hk).1, Nat.lt_of_lt_of_le (hS k hk).2 hb.size⟩) (by omega) h2 hNo hJ)
  have HRS : Hid (∀ (S1 : Nat → Prop) (s l p : Nat) (v : Value) (W : World), SpaceAt W s d l p Hd.zero none → ¬ S1 s → PoolJ J B S1 p d n (fun q => pageOf (play ops 1) q) (fun _ => 0) N W → Strs w.heap.size W v rs → (∀ b, v.ownBlock = some b → ¬ S1 b ∧ b ≠ s) → Calls Tryz.prog 50 #[.pointer (some ⟨s, 1, none⟩), v] W fun e w' => e = .returned (.tuple #[]) ∧ ResPost J B S1 s d l p n (fun q => pageOf (play ops 1) q) (fun _ => 0) N Hd.zero none xs W w') := Lib.hid (fun S1 s l p v W g1 g2 g3 g4 g5 =>
    restore_any J B S1 s d l p n _ _ N Hd.zero none v rs xs w.heap.size W g1 Hd.zero_len g2 g3 g4 g5 hlen hx (by rw [pinnedN_zero (fun _ => rfl)]; omega) hN hcl hJ2)
  have hSl : Hid (∀ k, S k → k < w.heap.size) := Lib.hid (fun k hk => (hS k hk).2)
  have hn4 : ¬ ((n : Int) < 4) := by omega
  clear h hS hp hrs h1 h2 hNo hJ hlen hx hN hcl hJ2
  go_enter Tryz.func10, Tryz.ntmps10
  go_wp2_with fail
  refine HO.out.mono ?_
  rintro e w1 ⟨v, rfl, hlog, hst, hb1⟩
  have HP1 := Lib.hid (HPN.out w1 hb1)
  have HLG := Lib.hid hlog; have HST := Lib.hid hst; have HB1 := Lib.hid hb1
  clear hlog hst hb1
  go_wp2_with fail
  refine HP1.out.mono ?_
  rintro e w2 ⟨p, S1, rfl, hJ2, hb2, hSp, hS1, hS2⟩
  obtain ⟨X, hX⟩ : ∃ X : Array Value, X = (stCells d w.heap.size p).toArray := ⟨_, rfl⟩
  obtain ⟨Y, hY⟩ : ∃ Y : Array Value, Y = (Value.pointer none :: stCells d w.heap.size p).toArray := ⟨_, rfl⟩
  have hbX := built_store d w.heap.size p
  have hbY := built_space d w.heap.size p
  have hsp := space_new w2 d w.heap.size p
  rw [← hX] at hbX hbY
  rw [← hY] at hbY
  have hY0 : Y[0]? = some (.pointer none) := by rw [hY]; rfl
  have hYY : Y.setIfInBounds 0 (.pointer (some ⟨w2.heap.size, 0, none⟩)) = (Value.pointer (some ⟨w2.heap.size, 0, none⟩) :: stCells d w.heap.size p).toArray := by rw [hY]; simp
  rw [← hYY] at hsp
  obtain ⟨w4, hw4⟩ : ∃ w4, w4 = w2.alloc (.cells (Y.setIfInBounds 0 (.pointer (some ⟨w2.heap.size, 0, none⟩))) 55) := ⟨_, rfl⟩
  rw [← hw4] at hsp
  have hb4 : Below w2.heap.size w2 w4 := by rw [hw4]; exact (Below.refl _ w2).alloc (Nat.le_refl _) _
  have hlt1 : w.heap.size < w1.heap.size := HLG.out.lt
  have hRR := HRS.out S1 w2.heap.size w.heap.size p v w4 hsp (fun hh => by have := (hJ2.low _ hh).2; omega) (hJ2.below hb4) ((HST.out.below hb2).below hb4) (fun b hb => by
    have h1 := World.ownsRow.lt HST.out b hb
    have h2 := hb2.size
    exact ⟨fun hh => by have := hSl.out b (hS2 b h1.2 hh); omega, by omega⟩)
  have HRR := Lib.hid hRR
  have HBX := Lib.hid hbX; have HBY := Lib.hid hbY; have HW4 := Lib.hid hw4.symm
  have HIN : Hid (Below w1.heap.size w1 w2 ∧ Below w2.heap.size w2 w4 ∧ (∀ k, k < w1.heap.size → S1 k → S k) ∧ (∀ k, S1 k → k < w2.heap.size)) := Lib.hid ⟨hb2, hb4, hS2, fun k hk => (hJ2.low k hk).2⟩
  clear hJ2 hb2 hSp hS1 hS2 hX hY hYY hbX hbY hsp hw4 hb4 hRR
  go_wp2_with (first
    | (refine wpList_val rfl (.agg X) (exec_build rfl _ (by simp [go_sem]) X HBX.out _) ?_)
    | (refine wpList_val rfl (.agg Y) (exec_build rfl _ (by simp [go_sem]) Y HBY.out _) ?_))
  rw [HW4.out]
  refine HRR.out.mono ?_
  rintro e w5 ⟨rfl, S5, hk5, hs5, hJ5, hx5⟩
  have HE : Hid (OpenPost J B S d n (fun q => pageOf (play ops 1) q) N xs w (.returned (.tuple #[.pointer (some ⟨w2.heap.size, 0, none⟩), .int .i64 0])) w5) := Lib.hid (by
    obtain ⟨i1, i2, i3, i4⟩ := HIN.out
    have z1 := HB1.out.size
    have z2 := i1.size
    have z4 := i2.size
    have hz4 : w2.heap.size < w4.heap.size := by have := hx5.lt; have := hk5.size; rw [← HW4.out]; simp
    have hnl : ¬ S1 w.heap.size := fun hh => by have := hSl.out _ (i3 _ hlt1 hh); omega
    refine ⟨w2.heap.size, w.heap.size, p, S5, rfl, ⟨by omega, Nat.le_refl _, by omega, fun hh => ?_, fun hh => hnl (hs5 _ (by omega) hh)⟩, (((HLG.out.below i1).below i2).kept hk5 (fun hh => hh.elim hnl (by omega))), hx5, hJ5, ?_, fun k hk hh => i3 k (by omega) (hs5 k (by omega) hh)⟩
    · have := i4 _ (hs5 _ hz4 hh)
      omega
    · refine (((Kept.ofBelow (S := S) HB1.out).trans (Kept.ofBelow (S := S) i1) (fun _ hi => .inl hi)).trans (Kept.ofBelow (S := S) i2) (fun _ hi => .inl hi)).trans hk5 (fun i hi => ?_)
      rcases hi with hi | hi
      · by_cases hi1 : i < w1.heap.size
        · exact .inl (i3 i hi1 hi)
        · exact .inr (by omega)
      · exact .inr (by omega))
  clear hk5 hs5 hJ5 hx5
  go_wp2
  go_ret2
  exact HE.out
end Go.Proofs.YtefddiikdamnbaaGreatDoor
