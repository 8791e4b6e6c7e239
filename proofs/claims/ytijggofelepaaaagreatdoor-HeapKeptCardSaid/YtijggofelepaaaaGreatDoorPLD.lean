/- Texts of the same proof, one behind the other: IQ, IR. -/
import Derived.Test.YtijggofelepaaaaGreatDoorPLB
import Derived.Test.YtijggofelepaaaaGreatDoorPLC
import Derived.BigQuiet
/- Contract: does a heap hold the rows of a list? -/
set_option maxRecDepth 100000
namespace Go.Proofs.YtijggofelepaaaaGreatDoor
open Go Go.RowKit

section
variable {J : List RawOp → Prop} {B : Nat} {S S' : Nat → Prop} {c : Ac} {w w' : World} {hb r : Nat} {v : Value} {l : List Rw} {m : Nat}
theorem hl_pages (x : HpL J B c hb r S l m w) (hr : r < 16) : Calls Tryz.prog 69 #[.pointer (some ⟨hb, 0, none⟩)] w fun e w' => ∃ S' P a cc, e = .returned (.slice a P.length cc) ∧ Turn S w S' w' ∧ HpL J B c hb r S' l m w' ∧ NumsI w' (.slice a P.length cc) P ∧ (∀ g, (Value.slice a P.length cc).ownBlock = some g → ¬ S' g ∧ w.heap.size ≤ g) ∧ P.Pairwise (fun a b => a < b) ∧ (∀ y ∈ l, y.tid / 64 ∈ P) ∧ P.length ≤ 4096 := by
  obtain ⟨L, ⟨h, G, hA, ht, hS, hs⟩, y⟩ := x
  refine (pages_raw hA ht hS hr hs).mono ?_
  rintro e w' ⟨S', P, u, he, hT, hA', hN, hg, hp, hP⟩
  obtain ⟨a, cc, rfl⟩ := hN.shape
  refine ⟨S', P, a, cc, he, hT, ⟨L, HpV.turn ht hS hs hT hA', y⟩, hN, hg, hp, fun z hz => (hP _).2 ?_, ?_⟩
  · obtain ⟨h1, h2⟩ := y.plOf hz
    have hq : L (z.tid / 64) ≠ [] := fun e => by
      unfold plAt at h1
      rw [e] at h1
      exact h2 (congrArg Pl.row h1).symm
    exact (hs.on.sheet _ hq).1
  · have hnd : P.Nodup := hp.imp (fun h => by omega)
    have := List.Nodup.length_le_of_subset (l₁ := P) (l₂ := List.range 4096) hnd (fun q hq => List.mem_range.2 (hA.has_lt ((hP q).1 hq)).2)
    simpa using this
/-- What stands behind Pages. -/
def ToldI (J : List RawOp → Prop) (B : Nat) (c : Ac) (hb r : Nat) (S : Nat → Prop) (v : Value) (l : List Rw) (m : Nat) (w : World) (pv : Value) (P : List Nat) (wr : World) : Prop :=
  ∃ S', DoSt J B c hb r S' v l m wr ∧ Turn S w S' wr ∧ NumsI wr pv P ∧ ∀ g, pv.ownBlock = some g → ¬ S' g
variable {pv : Value} {P : List Nat} {wr : World}
theorem ToldI.below (x : ToldI J B c hb r S v l m w pv P wr) (hbw : Below wr.heap.size wr w') : ToldI J B c hb r S v l m w pv P w' := by
  obtain ⟨S', h1, h2, h3, h4⟩ := x
  exact ⟨S', h1.below hbw, h2.trans (Turn.ofBelow hbw), h3.below hbw, h4⟩
theorem ToldI.get (x : ToldI J B c hb r S v l m w pv P wr) (hr : r < 16) {y : Rw} (hy : y ∈ l) :
    Calls Tryz.prog 26 #[.pointer (some ⟨hb, 0, none⟩), .int .i64 y.tid] wr fun e w' => e = .returned (.tuple #[.string ⟨y.row.toArray⟩, .bool y.lives, .int .i64 0]) ∧ Hid (ToldI J B c hb r S v l m w pv P w') := by
  obtain ⟨S', h1, h2, h3, h4⟩ := x
  refine (hl_get h1.heap hr hy).mono ?_
  rintro e w' ⟨he, S2, hT, hv⟩
  exact ⟨he, Lib.hid ⟨S2, h1.turn hT hv (Nat.le_refl _), h2.trans hT, h3.kept hT.1 h4, fun g hg => by
    obtain ⟨cur, hc⟩ := h3.block g hg
    exact hT.keeps (Array.getElem?_eq_some_iff.1 hc).1 (h4 g hg)⟩⟩
theorem ToldI.row (x : ToldI J B c hb r S v l m w pv P wr) {A : Option Addr} {n cc : Nat} (hv : v = .slice A n cc) {j : Nat} (hj : j < n) : ∃ g, ∃ y : Rw, A = some ⟨g, 0, none⟩ ∧ l[j]? = some y ∧ y ∈ l ∧ wr.cell? ⟨g, j * 3, none⟩ = some (.int .i64 (y.tid : Int)) ∧ wr.cell? ⟨g, j * 3 + 1, none⟩ = some (.string ⟨y.row.toArray⟩) ∧ wr.cell? ⟨g, j * 3 + 2, none⟩ = some (.bool y.lives) := by
  obtain ⟨S', h1, h2, h3, h4⟩ := x
  obtain ⟨g, y, a1, a2, a3, a4, a5, a6, _⟩ := h1.rows.all hv j hj
  exact ⟨g, y, a1, a2, a3, a4, a5, a6⟩
theorem ToldI.page (x : ToldI J B c hb r S v l m w pv P wr) {A : Option Addr} {n cc : Nat} (hv : pv = .slice A n cc) {j : Nat} (hj : j < n) : ∃ g, ∃ q : Nat, A = some ⟨g, 0, none⟩ ∧ P[j]? = some q ∧ wr.cell? ⟨g, j, none⟩ = some (.int .i64 (q : Int)) := by
  obtain ⟨S', h1, h2, h3, h4⟩ := x
  exact (h3.all hv).2 j hj
theorem told_lists (x : DoSt J B c hb r S v l m w) (hr : r < 16) (hm : m ≤ 1000) : Calls Tryz.prog 58 #[.pointer (some ⟨hb, 0, none⟩)] w fun e w1 => ∃ v1, e = .returned v1 ∧
    Hid (Calls Tryz.prog 68 #[v, .bool false] w1 fun e w2 => ∃ v2, e = .returned v2 ∧ Hid (Calls Tryz.prog 67 #[v1, v2] w2 fun e w3 => e = .returned (.bool true) ∧
    Hid (Calls Tryz.prog 59 #[.pointer (some ⟨hb, 0, none⟩)] w3 fun e w4 => ∃ v4, e = .returned v4 ∧
    Hid (Calls Tryz.prog 68 #[v, .bool true] w4 fun e w5 => ∃ v5, e = .returned v5 ∧ Hid (Calls Tryz.prog 67 #[v4, v5] w5 fun e w6 => e = .returned (.bool true) ∧ 
    Hid (Calls Tryz.prog 69 #[.pointer (some ⟨hb, 0, none⟩)] w6 fun e w7 => ∃ P a cc, e = .returned (.slice a P.length cc) ∧ Hid (ToldI J B c hb r S v l m w (.slice a P.length cc) P w7) ∧ Hid (P.Pairwise (fun a b => a < b)) ∧ Hid (∀ y ∈ l, y.tid / 64 ∈ P) ∧ P.length ≤ 4096)))))) := by
  have hf := x.few
  have e0 : tidsD false l = l.map (·.tid) := by
    have h : l.filter (fun x : Rw => !false || !x.lives) = l := List.filter_eq_self.2 (fun _ _ => rfl)
    unfold tidsD; rw [h]
  have e1 : tidsD true l = (l.filter fun z => !z.lives).map (·.tid) := by simp [tidsD]
  refine (hl_tids x.heap hr).mono ?_
  rintro e w1 ⟨S1, v1, rfl, hT1, hv1, hn1, _⟩
  have x1 := x.turn hT1 hv1 (Nat.le_refl _)
  refine ⟨v1, rfl, Lib.hid ?_⟩
  refine (tids7 x1.rows (by omega) false).mono ?_
  rintro e w2 ⟨v2, rfl, hn2, hb2⟩
  rw [e0] at hn2
  refine ⟨v2, rfl, Lib.hid ?_⟩
  refine (ints7 (hn1.below hb2) hn2.is (by simp; omega)).mono ?_
  rintro e w3 ⟨rfl, hb3⟩
  have x3 := (x1.below hb2).below hb3
  refine ⟨rfl, Lib.hid ?_⟩
  refine (hl_dead x3.heap hr).mono ?_
  rintro e w4 ⟨S4, v4, rfl, hT4, hv4, hn4, _⟩
  have x4 := x3.turn hT4 hv4 (Nat.le_refl _)
  refine ⟨v4, rfl, Lib.hid ?_⟩
  refine (tids7 x4.rows (by omega) true).mono ?_
  rintro e w5 ⟨v5, rfl, hn5, hb5⟩
  rw [e1] at hn5
  refine ⟨v5, rfl, Lib.hid ?_⟩
  refine (ints7 (hn4.below hb5) hn5.is (by rw [List.length_map]; have := List.length_filter_le (fun z : Rw => !z.lives) l; omega)).mono ?_
  rintro e w6 ⟨rfl, hb6⟩
  have x6 := (x4.below hb5).below hb6
  refine ⟨rfl, Lib.hid ?_⟩
  refine (hl_pages x6.heap hr).mono ?_
  rintro e w7 ⟨S7, P, a, cc, rfl, hT7, hv7, hn7, hg7, hp, hP, hlen⟩
  have hT06 : Turn S w S4 w6 := ((((hT1.trans (Turn.ofBelow hb2)).trans (Turn.ofBelow hb3)).trans hT4).trans (Turn.ofBelow hb5)).trans (Turn.ofBelow hb6)
  exact ⟨P, a, cc, rfl, Lib.hid ⟨S7, x6.turn hT7 hv7 (Nat.le_refl _), hT06.trans hT7, hn7, fun g hg => (hg7 g hg).1⟩, Lib.hid hp, Lib.hid hP, hlen⟩
end
end Go.Proofs.YtijggofelepaaaaGreatDoor

/- Contracts: a step of the laws' scripts, whatever it is; a heap holds the rows of its list. -/
set_option maxRecDepth 100000
namespace Go.Proofs.YtijggofelepaaaaGreatDoor
open Go Go.RowKit

section
variable {J : List RawOp → Prop} {B : Nat} {S S' : Nat → Prop} {c : Ac} {w w' : World} {hb r : Nat} {v : Value} {l : List Rw} {m : Nat}
theorem does_any (x : DoSt J B c hb r S v l m w) (hr : r < 16) (hm : m + 1 ≤ 1000) (kd at_ : Int) (ha : at_ < 9223372036854775808) (row : ByteArray) :
    Calls Tryz.prog 25 #[.pointer (some ⟨hb, 0, none⟩), v, .agg #[.int .i64 kd, .int .i64 at_, .string row]] w (DoPost J B c hb r S m w) := by
  by_cases h1 : kd = 1
  · subst h1
    by_cases hrow : 1 ≤ row.size ∧ row.size ≤ 400
    · exact does_ins x hr hm at_ row hrow
    · exact does_bad x hr (by omega) at_ row (by omega)
  · by_cases h2 : kd = 2
    · subst h2; exact does_kill x hr (by omega) at_ ha row
    · by_cases h3 : kd = 3
      · subst h3; exact does_free x hr (by omega) at_ ha row
      · by_cases h4 : kd = 4
        · subst h4; exact does_get x hr (by omega) at_ ha row
        · exact does_other x (by omega) kd at_ row h1 h2 h3 h4
set_option maxHeartbeats 3200000 in
theorem told_any (x : DoSt J B c hb r S v l m w) (hr : r < 16) (hm : m ≤ 1000) :
    Calls Tryz.prog 27 #[.pointer (some ⟨hb, 0, none⟩), v] w fun e w' => e = .returned (.bool true) ∧ ∃ S', Turn S w S' w' := by
  have hf := x.few
  obtain ⟨A, cc, hv0, _⟩ := x.rows.slice
  have HTL := Lib.hid (told_lists x hr hm)
  have HLT : Hid (∀ y ∈ l, y.tid < 262144) := Lib.hid fun y hy => tid_lt x.heap hy
  obtain ⟨n, hn⟩ : ∃ n, n = l.length := ⟨_, rfl⟩
  rw [← hn] at hv0 hf
  have hn1 : n ≤ 1000 := by omega
  have HN := Lib.hid hn
  have HV := Lib.hid hv0
  clear x hf hn hv0
  go_enter Tryz.func27, Tryz.ntmps27
  go_wp2_with fail
  refine HTL.out.mono ?_
  rintro e w1 ⟨v1, rfl, HQ1⟩
  clear HTL
  go_wp2_with fail
  refine HQ1.out.mono ?_
  rintro e w2 ⟨v2, rfl, HQ2⟩
  clear HQ1
  go_wp2_with fail
  refine HQ2.out.mono ?_
  rintro e w3 ⟨rfl, HQ3⟩
  clear HQ2
  go_wp2_with fail
  refine HQ3.out.mono ?_
  rintro e w4 ⟨v4, rfl, HQ4⟩
  clear HQ3
  go_wp2_with fail
  refine HQ4.out.mono ?_
  rintro e w5 ⟨v5, rfl, HQ5⟩
  clear HQ4
  go_wp2_with fail
  refine HQ5.out.mono ?_
  rintro e w6 ⟨rfl, HQ6⟩
  clear HQ5
  go_wp2_with fail
  refine HQ6.out.mono ?_
  rintro e w7 ⟨P, a7, c7, rfl, HI, HPS, HPM, hpl⟩
  clear HQ6
  have HPA : Hid (∀ j x y, P[j]? = some x → P[j + 1]? = some y → x < y) := Lib.hid fun j x y hx hy => by
    obtain ⟨h1, e1⟩ := List.getElem?_eq_some_iff.1 hx
    obtain ⟨h2, e2⟩ := List.getElem?_eq_some_iff.1 hy
    have := List.pairwise_iff_getElem.1 HPS.out j (j + 1) h1 h2 (by omega)
    rw [e1, e2] at this; exact this
  obtain ⟨N, hN⟩ : ∃ N, N = P.length := ⟨_, rfl⟩
  rw [← hN] at HI hpl ⊢
  have HNP := Lib.hid hN
  have hv' : v = .slice A n cc := HV.out
  subst hv'
  clear hN HPS HV
  go_wp2
  go_loopw [6] (fun i wr => ∃ j : Nat, i = .int .i64 j ∧ 1 ≤ j ∧ j ≤ N + 1 ∧ Hid (ToldI J B c hb r S (.slice A n cc) l m w (.slice a7 N c7) P wr)) (fun i _ => N + 1 - (intOf i).toNat)
  case atStart => exact ⟨1, rfl, by omega, by omega, HI⟩
  case round =>
    obtain ⟨j, rfl, hj1, hj2, HI2⟩ := hrel
    clear HI
    by_cases hjN : j < N
    · obtain ⟨k, hk⟩ : ∃ k : Nat, j = k + 1 := ⟨j - 1, by omega⟩
      obtain ⟨g, x, rfl, hx, c1⟩ := ToldI.page HI2.out rfl (show k < N by omega)
      obtain ⟨g', y, hg', hy, c2⟩ := ToldI.page HI2.out rfl hjN
      cases hg'
      have hxy := HPA.out k x y hx (by rw [← hk]; exact hy)
      have e1 : IntKind.i64.wrap ((j : Int) - 1) = (k : Int) := by rw [IntWalk.i64_in _ (by omega)]; omega
      have f1 : decide ((y : Int) ≤ (x : Int)) = false := decide_eq_false (by omega)
      have f2 : ¬ (y : Int) ≤ (x : Int) := by omega
      have f3 : (j : Int) < (N : Int) := by omega
      have kN : (k : Int) < (N : Int) := by omega
      clear hk hx hy hxy HPA HPM
      go_upto_region 7 with fail
      go_quiet (fail)
      obtain ⟨W4, hW4, hb4⟩ := drawn7 wr nq
      rw [← hW4]
      have HI3 := Lib.hid (HI2.out.below hb4)
      clear hW4 hb4 HI2 c1 c2
      go_wp2
      go_roundw
      case rel => exact ⟨j + 1, by go_num, by omega, by omega, HI3⟩
      case measure => simp [intOf]; omega
    · have f3 : ¬ (j : Int) < (N : Int) := by omega
      clear HPA
      go_wp2
      go_loopw [7] (fun i wr => ∃ p : Nat, i = .int .i64 p ∧ p ≤ n ∧ Hid (ToldI J B c hb r S (.slice A n cc) l m w (.slice a7 N c7) P wr)) (fun i _ => n - (intOf i).toNat)
      case atStart => exact ⟨0, rfl, by omega, HI2⟩
      case round =>
        obtain ⟨p, rfl, hp, HP⟩ := hrel
        clear HI2
        by_cases hpn : p < n
        · obtain ⟨g, y, rfl, hy, hyl, d1, _, _⟩ := ToldI.row HP.out rfl hpn
          have f4 : (p : Int) < (n : Int) := by omega
          have HGT := Lib.hid (ToldI.get HP.out hr hyl)
          obtain ⟨q, hq⟩ : ∃ q, q = y.tid / 64 := ⟨_, rfl⟩
          have HPG : Hid (∀ W, Calls Tryz.prog 33 #[.int .i64 y.tid] W fun e w' => e = .returned (.int .i64 q) ∧ w' = W) := Lib.hid fun W => by
            rw [hq]; exact page_any y.tid W (by have := HLT.out y hyl; omega)
          have HQP : Hid (q ∈ P) := Lib.hid (by rw [hq]; exact HPM.out y hyl)
          have HRW : Hid (∀ wq, ToldI J B c hb r S (.slice (some ⟨g, 0, none⟩) n cc) l m w (.slice a7 N c7) P wq → wq.cell? ⟨g, p * 3, none⟩ = some (.int .i64 (y.tid : Int)) ∧ wq.cell? ⟨g, p * 3 + 1, none⟩ = some (.string ⟨y.row.toArray⟩) ∧ wq.cell? ⟨g, p * 3 + 2, none⟩ = some (.bool y.lives)) := Lib.hid fun wq hx => by
            obtain ⟨g', y', hg', hy', _, b1, b2, b3⟩ := ToldI.row hx rfl hpn
            cases hg'
            rw [hy] at hy'
            cases hy'
            exact ⟨b1, b2, b3⟩
          obtain ⟨s, hs⟩ : ∃ s : ByteArray, s = ⟨y.row.toArray⟩ := ⟨_, rfl⟩
          obtain ⟨lv, hlv⟩ : ∃ lv, lv = y.lives := ⟨_, rfl⟩
          obtain ⟨T, hT⟩ : ∃ T : Int, T = (y.tid : Int) := ⟨_, rfl⟩
          rw [← hs, ← hlv, ← hT] at HGT HRW
          rw [← hT] at HPG d1
          clear hs hlv hT hq hy hyl HP HPM HLT
          go_wp2_with fail
          refine HGT.out.mono ?_
          rintro e w8 ⟨rfl, HP2⟩
          clear HGT d1
          go_wp2
          go_loopw [11, 12] (fun tv kv wq => ∃ (k : Nat) (bt : Bool), kv = .int .i64 k ∧ tv = .bool bt ∧ k ≤ N ∧ Hid (bt = decide (q ∈ P.take k)) ∧ Hid (ToldI J B c hb r S (.slice (some ⟨g, 0, none⟩) n cc) l m w (.slice a7 N c7) P wq)) (fun _ kv _ => N - (intOf kv).toNat)
          case atStart => exact ⟨0, false, rfl, rfl, by omega, Lib.hid (by simp), HP2⟩
          case round =>
            obtain ⟨k, bt, rfl, rfl, hk, HBT, HQ⟩ := hrel
            clear HP2
            by_cases hkN : k < N
            · obtain ⟨gp, x, rfl, hx, c1⟩ := ToldI.page HQ.out rfl hkN
              obtain ⟨b1, b2, b3⟩ := HRW.out wr HQ.out
              have HX : Hid (∀ b, b = (bt || decide (x = q)) → b = decide (q ∈ P.take (k + 1))) := Lib.hid fun b hb => by
                rw [hb, HBT.out, List.take_add_one, hx, Bool.eq_iff_iff, Bool.or_eq_true, decide_eq_true_iff, decide_eq_true_iff, decide_eq_true_iff, List.mem_append]
                refine or_congr Iff.rfl ⟨fun e => ?_, fun e => ?_⟩
                · rw [e]; exact List.mem_singleton.2 rfl
                · exact (List.mem_singleton.1 e).symm
              clear hx
              cases bt with
              | true =>
                have HX1 := Lib.hid (HX.out true (by simp))
                clear HX
                go_upto_region 17 with fail
                go_quiet (fail)
                obtain ⟨W4, hW4, hb4⟩ := drawn7 wr nq
                rw [← hW4]
                have HQ2 := Lib.hid (HQ.out.below hb4)
                clear hW4 hb4 HQ c1 b1 b2 b3
                go_wp2
                go_roundw
                case rel => exact ⟨k + 1, true, by go_num, rfl, by omega, HX1, HQ2⟩
                case measure => simp [intOf]; omega
              | false =>
                by_cases hxq : x = q
                · have HX1 := Lib.hid (HX.out true (by simp [hxq]))
                  subst hxq
                  clear HX
                  go_upto_region 17 with fail
                  go_quiet ((go_at_call 33; exact Calls.quiet_of_same (HPG.out _)))
                  obtain ⟨W4, hW4, hb4⟩ := drawn7 wr nq
                  rw [← hW4]
                  have HQ2 := Lib.hid (HQ.out.below hb4)
                  clear hW4 hb4 HQ c1 b1 b2 b3
                  go_wp2
                  go_roundw
                  case rel => exact ⟨k + 1, true, by go_num, rfl, by omega, HX1, HQ2⟩
                  case measure => simp [intOf]; omega
                · have HX1 := Lib.hid (HX.out false (by simp [hxq]))
                  have x1 : ((x : Int) == (q : Int)) = false := by simpa using (by omega : ¬ (x : Int) = (q : Int))
                  have x2 : ¬ (x : Int) = (q : Int) := by omega
                  clear HX
                  go_upto_region 17 with fail
                  go_quiet ((go_at_call 33; exact Calls.quiet_of_same (HPG.out _)))
                  obtain ⟨W4, hW4, hb4⟩ := drawn7 wr nq
                  rw [← hW4]
                  have HQ2 := Lib.hid (HQ.out.below hb4)
                  clear hW4 hb4 HQ c1 b1 b2 b3
                  go_wp2
                  go_roundw
                  case rel => exact ⟨k + 1, false, by go_num, rfl, by omega, HX1, HQ2⟩
                  case measure => simp [intOf]; omega
            · have hkN' : k = N := by omega
              obtain rfl : bt = true := by
                rw [HBT.out, List.take_of_length_le (by rw [hkN', HNP.out]; exact Nat.le_refl _)]
                exact decide_eq_true HQP.out
              have f5 : ¬ (k : Int) < (N : Int) := by omega
              obtain ⟨b1, b2, b3⟩ := HRW.out wr HQ.out
              clear HPG HQP
              go_wp2
              go_roundw
              case rel => exact ⟨p + 1, by go_num, by omega, HQ⟩
              case measure => simp [intOf]; omega
        · have f4 : ¬ (p : Int) < (n : Int) := by omega
          clear HLT HPM
          go_wp2
          go_ret
          obtain ⟨S', _, h2, _⟩ := HP.out
          exact ⟨rfl, S', h2⟩
end
end Go.Proofs.YtijggofelepaaaaGreatDoor
