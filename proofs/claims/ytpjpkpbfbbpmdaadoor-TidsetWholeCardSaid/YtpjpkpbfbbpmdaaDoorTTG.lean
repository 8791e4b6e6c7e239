/- TidsetWhole's walk. -/
import Derived.Test.YtpjpkpbfbbpmdaaDoorTTE
import Derived.Deep.CutRange
set_option maxRecDepth 100000
namespace Go.Proofs.YtpjpkpbfbbpmdaaDoor.Ts
open Go Go.RowKit

/-- A set that holds none exactly. -/
def zero (Q : List Nat) : Tset := ⟨0, [], Q⟩
def stepP (x : Int) (Q : List Nat) : List Nat := if Adr x then ins (x.toNat / 64) Q else Q
theorem one_full (t : Nat) : IsFull [t] (t / 64) := by
  have h1 : cnt (t / 64) [t] = 1 := by simp [cnt, onp]
  refine ⟨by omega, fun q => ?_⟩
  have h2 := cnt_le q [t]
  refine ⟨by simpa [h1] using h2, fun e => ?_⟩
  obtain ⟨x, hx, hq⟩ := cnt_pos.1 (show 0 < cnt q [t] by omega)
  rw [List.mem_singleton] at hx; subst hx; omega
theorem zero_step {Q : List Nat} {x : Int} {s : Tset} (hQ : Srt Q) (h : AStep (zero Q) x s) : s = zero (stepP x Q) := by
  refine h.unique ?_
  unfold stepP
  split
  · rename_i hx
    refine .inr ⟨hx, rfl, ?_⟩
    by_cases hq : x.toNat / 64 ∈ Q
    · exact .inl ⟨hq, by rw [ins_there hQ hq]⟩
    · refine .inr ⟨hq, ?_⟩
      show Deg 0 [x.toNat] Q [] (ins (x.toNat / 64) Q)
      refine .step (by simp) (one_full _) ?_
      exact (Deg.done (by simp : ([] : List Nat).length ≤ 0)).ext (by simp [off]) rfl
  · rename_i hx; exact .inl ⟨hx, rfl⟩
theorem srt_stepP {x : Int} {Q : List Nat} (h : Srt Q) : Srt (stepP x Q) := by
  unfold stepP; split
  · exact srt_ins h
  · exact h
/-- The pages that the law itself gathers. -/
def SamePgs (P Q : List Nat) : Prop := P.length = Q.length ∧ ∀ p, p ∈ P ↔ p ∈ Q
theorem SamePgs.none {x : Int} {P Q : List Nat} (h : SamePgs P Q) (hx : ¬ Adr x) : SamePgs P (stepP x Q) := by unfold stepP; rw [if_neg hx]; exact h
theorem SamePgs.there {x : Int} {P Q : List Nat} (h : SamePgs P Q) (hQ : Srt Q) (hx : Adr x) (hp : x.toNat / 64 ∈ P) : SamePgs P (stepP x Q) := by
  unfold stepP; rw [if_pos hx, ins_there hQ ((h.2 _).1 hp)]; exact h
theorem SamePgs.add {x : Int} {P Q : List Nat} (h : SamePgs P Q) (hx : Adr x) (hp : x.toNat / 64 ∉ P) : SamePgs (P ++ [x.toNat / 64]) (stepP x Q) :=
  ⟨by rw [stepP, if_pos hx, length_ins (fun e => hp ((h.2 _).2 e))]; simp [h.1], fun p => by
    rw [stepP, if_pos hx, mem_ins, List.mem_append, List.mem_singleton, h.2]; exact or_comm⟩
theorem whole_has {P Q : List Nat} (h : SamePgs P Q) (hQ : ∀ p ∈ Q, p < 262144) {p : Nat} (hp : p ∈ P) : hasB (zero Q) ((64 * p : Nat) : Int) = true := by
  have h1 := hQ p ((h.2 p).1 hp)
  rw [hasB_iff]
  refine ⟨⟨by omega, by omega⟩, .inr ?_⟩
  show _ ∈ Q
  rw [Int.toNat_natCast, show 64 * p / 64 = p by omega]
  exact (h.2 p).1 hp

/-- Either no set, or one that may hold so many. -/
def PB (L B : Nat) (w : World) (pb : Option Addr) (most : Int) : Prop := pb = none ∨ ∃ b be bw s, pb = some ⟨b, 0, none⟩ ∧ StAt w b be bw s ∧ (s.most : Int) = most ∧ (L ≤ b ∧ b < B) ∧ (L ≤ be ∧ be < B) ∧ (L ≤ bw ∧ bw < B)
theorem PB.below {L B : Nat} {w w' : World} {pb : Option Addr} {most : Int} (h : PB L B w pb most) (hb : Below w.heap.size w w') : PB L B w' pb most := h.imp id fun ⟨b, be, bw, s, e1, e2, e3, e4⟩ => ⟨b, be, bw, s, e1, e2.below hb, e3, e4⟩
/-- What made leaves, with the set or without. -/
def MadeUn (most : Int) (w : World) (e : Ending) (w' : World) : Prop :=
  ∃ (pb : Option Addr) (k : Nat) (a1 : Option Addr) (n1 c1 : Nat) (a2 : Option Addr) (n2 c2 : Nat), e = .returned (.tuple #[.pointer pb, .agg #[.int .i64 (k : Int), .slice a1 n1 c1, .slice a2 n2 c2], .bool true]) ∧
    Hid (PB w.heap.size w'.heap.size w' pb most) ∧ Below w.heap.size w w'
theorem made_un (most : Int) (a : Option Addr) (xs : List Int) (n c : Nat) (w : World) (hn : n = xs.length) (hx : ZV w a xs) (hbig : n ≤ 9223372036854775807) (hT : Tab w) : Calls Tryd.prog 9 #[.int .i64 most, .slice a n c] w (MadeUn most w) := by
  by_cases hm : 0 ≤ most ∧ most ≤ 64
  · obtain ⟨k, rfl⟩ : ∃ k : Nat, most = k := ⟨most.toNat, by omega⟩
    refine (made_ok k a xs n c w (by omega) hn hx hbig hT).mono ?_
    rintro e w' ⟨b, be, bw, s, v, rfl, h1, h2, h3, h4, h5, g1, g2, g3⟩
    obtain ⟨a1, n1, c1, a2, n2, c2, rfl, _⟩ := h3
    have hl := h2.lts
    exact ⟨_, s.most, a1, n1, c1, a2, n2, c2, rfl, Lib.hid (.inr ⟨b, be, bw, s, rfl, h2, by rw [h4.most]; show (((k : Int).toNat : Nat) : Int) = k; omega, ⟨g1, hl.1⟩, ⟨g2, hl.2.1⟩, g3, hl.2.2⟩), h5⟩
  · refine (made_no most a n c w hm).mono ?_
    rintro e w' ⟨rfl, h1, h2⟩
    exact ⟨_, 0, none, 0, 0, none, 0, 0, rfl, Lib.hid (.inl rfl), h2⟩

/-- What stands while the pages are gathered. -/
structure WSt (w W : World) (L B ab ae aw : Nat) (v : Value) (P Q : List Nat) (pb : Option Addr) (most : Int) : Prop where
  row : NRow B W v P
  set : StAt W ab ae aw (zero Q)
  pbs : PB L B W pb most
  bel : Below w.heap.size w W
  le : B ≤ W.heap.size
  pgs : SamePgs P Q
theorem WSt.below {w W W' : World} {L B ab ae aw : Nat} {v : Value} {P Q : List Nat} {pb : Option Addr} {most : Int} (h : WSt w W L B ab ae aw v P Q pb most) (hb : Below W.heap.size W W') : WSt w W' L B ab ae aw v P Q pb most :=
  ⟨h.row.below hb, h.set.below hb, h.pbs.below hb, bel3 h.bel hb, Nat.le_trans h.le hb.size, h.pgs⟩
/-- What stands but for the pages' equality. -/
theorem add_w {w W : World} {L B ab ae aw : Nat} {v : Value} {P Q : List Nat} {pb : Option Addr} {most : Int} (h : WSt w W L B ab ae aw v P Q pb most) (ho : ∀ k, Own ab ae aw k → w.heap.size ≤ k ∧ k < L) (hLB : L ≤ B) (x : Int) :
    Calls Tryd.prog 21 #[.pointer (some ⟨ab, 0, none⟩), .int .i64 x] W fun e w' => e = .returned (.int .i64 (if Adr x then 0 else 1)) ∧ (∀ q u, q.block < w.heap.size → W.cell? q = some u → w'.cell? q = some u) ∧
      Hid (NRow B w' v P ∧ StAt w' ab ae aw (zero (stepP x Q)) ∧ PB L B w' pb most ∧ Below w.heap.size w w' ∧ B ≤ w'.heap.size) := by
  refine (add_z h.set x).mono ?_
  rintro e w' ⟨h1, s', h2, h3, hk⟩
  have hz := hk.size
  have hbz := h.bel.size
  obtain rfl := zero_step h.set.ok.raw.sp h2
  refine ⟨h1, fun q u hq hc => (World.cell?_of_block (hk.block q.block (by omega) (fun e => by have := (ho _ e).1; omega))).trans hc, Lib.hid ⟨?_, h3, ?_, ?_, by have := h.le; omega⟩⟩
  · exact ownsRow_of_block h.row fun k e => hk.block k (h.row.lt k e).2 (fun e2 => by have := (ho _ e2).2; have := (h.row.lt k e).1; omega)
  · refine h.pbs.imp id fun ⟨b, be, bw, s, e1, e2, e3, e4, e5, e6⟩ => ⟨b, be, bw, s, e1, e2.kept hk (fun e => ?_) (fun e => ?_) (fun e => ?_), e3, e4, e5, e6⟩
    · have := (ho _ e).2; omega
    · have := (ho _ e).2; omega
    · have := (ho _ e).2; omega
  · exact h.bel.trans (hk.toBelow hbz (fun k e => (ho k e).1))
theorem put_w {w W W' : World} {L B ab ae aw : Nat} {s : Tset} {pb : Option Addr} {most : Int} (h1 : StAt W ab ae aw s) (h2 : PB L B W pb most) (h3 : Below w.heap.size w W) (ho : ∀ k, Own ab ae aw k → w.heap.size ≤ k ∧ k < L) (hLB : L ≤ B) (hwB : w.heap.size ≤ B) (hb : Below B W W') :
    StAt W' ab ae aw s ∧ PB L B W' pb most ∧ Below w.heap.size w W' := by
  refine ⟨h1.blocks (hb.block _ ?_) (hb.block _ ?_) (hb.block _ ?_), h2.imp id fun ⟨b, be, bw, s, e1, e2, e3, e4, e5, e6⟩ => ⟨b, be, bw, s, e1, e2.blocks (hb.block _ e4.2) (hb.block _ e5.2) (hb.block _ e6.2), e3, e4, e5, e6⟩, h3.trans (hb.mono hwB)⟩
  · have := (ho ab (.inl rfl)).2; omega
  · have := (ho ae (.inr (.inl rfl))).2; omega
  · have := (ho aw (.inr (.inr rfl))).2; omega

set_option maxHeartbeats 6400000 in
theorem whole14_walk (most : Int) (a : Option Addr) (xs : List Int) (c : Nat) (w : World) (hT : Tab w) (hx : ZV w a xs) (hn : xs.length ≤ 9223372036854775807) :
    Calls Tryd.prog 8 #[.int .i64 most, .slice a xs.length c] w fun e w' => e = .returned (.bool true) ∧ Below w.heap.size w w' := by
  have HT := Lib.hid hT
  have h1 := hT.1
  obtain ⟨n, hne⟩ : ∃ n, n = xs.length := ⟨_, rfl⟩
  rw [← hne] at hn ⊢
  have HNE := Lib.hid hne
  have HX := Lib.hid hx
  have HNW : Hid (Calls Tryd.prog 20 #[.int .i64 0] w (NewPost 0 w)) := Lib.hid (new_st 0 w (by omega))
  have HMD : Hid (∀ W, Below w.heap.size w W → Calls Tryd.prog 9 #[.int .i64 most, .slice a n c] W (MadeUn most W)) := Lib.hid fun W hW => made_un most a xs n c W hne (hx.below hW) hn (hT.below hW h1)
  clear hT hx hne
  go_enter Tryd.func8, Tryd.ntmps8
  go_wp2_with fail
  refine HNW.out.mono ?_
  rintro e w1 ⟨ab, ae, aw, rfl, hs1, hb1, g1, g2, g3⟩
  have HM1 := Lib.hid (HMD.out _ hb1)
  have HS1 := Lib.hid hs1
  have HB1 := Lib.hid hb1
  have hAl := hs1.lts
  clear HMD HNW hs1
  go_wp2_with fail
  refine HM1.out.mono ?_
  rintro e w2 ⟨pb, k, a1, n1, c1, a2, n2, c2, rfl, HPB, hb2⟩
  obtain ⟨W3, hW3⟩ : ∃ W3, W3 = w2.alloc (.cells #[.int .i64 (k : Int), .slice a1 n1 c1, .slice a2 n2 c2] 27) := ⟨_, rfl⟩
  have hb23 : Below w2.heap.size w2 W3 := by rw [hW3]; exact (Below.refl _ _).alloc (Nat.le_refl _) _
  have HB3 := Lib.hid (bel3 (bel3 HB1.out hb2) hb23)
  have HS3 := Lib.hid ((HS1.out.below hb2).below hb23)
  have HPB3 : Hid (PB w1.heap.size W3.heap.size W3 pb most) := Lib.hid ((HPB.out.below hb23).imp id fun ⟨b, be, bw, s, e1, e2, e3, e4, e5, e6⟩ => ⟨b, be, bw, s, e1, e2, e3, ⟨e4.1, by have := hb23.size; omega⟩, ⟨e5.1, by have := hb23.size; omega⟩, ⟨e6.1, by have := hb23.size; omega⟩⟩)
  have HW3 := Lib.hid hW3
  have hz1 := hb1.size
  have hz2 := hb2.size
  have hz3 := hb23.size
  clear hb1 hb2 hb23 hW3 HM1 HS1 HB1 HPB
  have HOW : Hid (∀ k, Own ab ae aw k → w.heap.size ≤ k ∧ k < w1.heap.size) := Lib.hid (by rintro k (rfl | rfl | rfl) <;> omega)
  have hLB : w1.heap.size ≤ W3.heap.size := by omega
  have HWS : Hid (WSt w W3 w1.heap.size W3.heap.size ab ae aw (.slice none 0 0) [] [] pb most) := Lib.hid ⟨World.ownsRow_nil _ _ _ _, HS3.out, HPB3.out, HB3.out, Nat.le_refl _, rfl, fun _ => Iff.rfl⟩
  obtain ⟨L, hL⟩ : ∃ L, L = w1.heap.size := ⟨_, rfl⟩
  obtain ⟨B, hB⟩ : ∃ B, B = W3.heap.size := ⟨_, rfl⟩
  rw [← hL] at HWS HOW hLB
  rw [← hB] at HWS hLB
  have hwB : w.heap.size ≤ B := by omega
  clear g1 g2 g3 hAl HS3 HPB3 HB3 hL hB
  go_wp2_with fail
  rw [← HW3.out]
  go_loopw [10, 11] (fun v10 v11 wr => ∃ (i pn pc : Nat) (pa : Option Addr) (P Q : List Nat), i ≤ n ∧ v10 = .slice pa pn pc ∧ v11 = .int .i64 i ∧ pn ≤ 262144 ∧ Hid (pn = P.length) ∧ Hid (WSt w wr L B ab ae aw (.slice pa pn pc) P Q pb most)) (fun _ v11 _ => n - (intOf v11).toNat)
  case atStart => exact ⟨0, 0, 0, none, [], [], by omega, rfl, rfl, by omega, Lib.hid rfl, HWS⟩
  case round =>
    obtain ⟨i, pn, pc, pa, P, Q, hi, rfl, rfl, hpn, HPN, HS⟩ := hrel
    clear HWS
    by_cases hlt : i < n
    · have hlt' : i < xs.length := by rw [← HNE.out]; exact hlt
      obtain ⟨xb, xo, rfl, hxl, cx0⟩ := HX.out.at hlt'
      obtain ⟨x, hxe⟩ : ∃ x, x = xs[i] := ⟨_, rfl⟩
      rw [← hxe] at cx0
      have cx := (HS.out.bel.cell (p := ⟨xb, xo + i, none⟩) hxl).trans cx0
      have hii : (i : Int) < (n : Int) := by omega
      clear hxe cx0
      obtain ⟨W, hW⟩ : ∃ W, W = wr := ⟨_, rfl⟩
      rw [← hW] at HS cx
      have HWE := Lib.hid hW
      have HC : Hid (∀ V, Below W.heap.size W V → V.cell? ⟨xb, xo + i, none⟩ = some (.int .i64 x)) := Lib.hid fun V hV => (hV.cell (p := ⟨xb, xo + i, none⟩) (Nat.lt_of_lt_of_le hxl HS.out.bel.size)).trans cx
      have HADD : Hid (∀ V, Below W.heap.size W V → Calls Tryd.prog 21 #[.pointer (some ⟨ab, 0, none⟩), .int .i64 x] V fun e w' => e = .returned (.int .i64 (if Adr x then 0 else 1)) ∧ w'.cell? ⟨xb, xo + i, none⟩ = some (.int .i64 x) ∧
          Hid (NRow B w' (.slice pa pn pc) P ∧ StAt w' ab ae aw (zero (stepP x Q)) ∧ PB L B w' pb most ∧ Below w.heap.size w w' ∧ B ≤ w'.heap.size)) := Lib.hid fun V hV => (add_w (HS.out.below hV) HOW.out hLB x).mono fun e w' ⟨k1, k2, k3⟩ => ⟨k1, k2 _ _ hxl (HC.out V hV), k3⟩
      clear hW
      rcases (by omega : x < 0 ∨ 16777216 ≤ x ∨ (0 ≤ x ∧ x < 16777216)) with hneg | hbig | ⟨h0, hM⟩
      · have hna : ¬ Adr x := fun h => by have := h.1; omega
        rw [if_neg hna] at HADD
        have HNA : Hid (SamePgs P (stepP x Q)) := Lib.hid (HS.out.pgs.none hna)
        have hd0 : decide (0 ≤ x) = false := decide_eq_false (by omega)
        have hd2 : decide (x < 0) = true := decide_eq_true hneg
        clear hna
        go_upto_region 9 with fail
        go_cut [4, 62] from 43 to 61 (fun _ v62 wy => v62 = .bool false ∧ Hid (NRow B wy (.slice pa pn pc) P ∧ StAt wy ab ae aw (zero (stepP x Q)) ∧ PB L B wy pb most ∧ Below w.heap.size w wy ∧ B ≤ wy.heap.size) ∧ wy.cell? ⟨xb, xo + i, none⟩ = some (.int .i64 x))
        case first =>
          clear HPN HNE
          go_wp2_with fail
          rw [← HWE.out]
          first
          | (go_region_with (go_at_call 21; refine (HADD.out _ ?_).mono ?_; (first | exact (Below.refl _ _).drew | exact Below.refl _ _); rintro e w5 ⟨rfl, hc5, HP5⟩))
          | fail
          all_goals
            go_wp2_with fail
            go_meet
            exact ⟨rfl, HP5, hc5⟩
        case rest =>
          obtain ⟨rfl, HP5, hc5⟩ := hcut
          have HW9 : Hid (WSt w wc L B ab ae aw (.slice pa pn pc) P (stepP x Q) pb most) := Lib.hid ⟨HP5.out.1, HP5.out.2.1, HP5.out.2.2.1, HP5.out.2.2.2.1, HP5.out.2.2.2.2, HNA.out⟩
          clear HADD HC cx HWE HP5
          go_wp2
          go_roundw
          case rel => exact ⟨i + 1, pn, pc, pa, P, stepP x Q, by omega, rfl, by go_num, hpn, HPN, HW9⟩
          case measure => simp [intOf]; omega
      · have hna : ¬ Adr x := fun h => by have := h.2; omega
        rw [if_neg hna] at HADD
        have HNA : Hid (SamePgs P (stepP x Q)) := Lib.hid (HS.out.pgs.none hna)
        have hd0 : decide (0 ≤ x) = true := decide_eq_true (by omega)
        have hd1 : decide (x < 16777216) = false := decide_eq_false (by omega)
        have hd2 : decide (x < 0) = false := decide_eq_false (by omega)
        have hd3 : decide (16777216 ≤ x) = true := decide_eq_true hbig
        clear hna
        go_upto_region 9 with fail
        go_cut [4, 62] from 43 to 61 (fun _ v62 wy => v62 = .bool false ∧ Hid (NRow B wy (.slice pa pn pc) P ∧ StAt wy ab ae aw (zero (stepP x Q)) ∧ PB L B wy pb most ∧ Below w.heap.size w wy ∧ B ≤ wy.heap.size) ∧ wy.cell? ⟨xb, xo + i, none⟩ = some (.int .i64 x))
        case first =>
          go_wp2_with fail
          rw [← HWE.out]
          first
          | (go_region_held3 (fun w' => w'.cell? ⟨xb, xo + i, none⟩ = some (.int .i64 x)) (first | assumption | exact HC.out _ (Below.refl _ _) | exact HC.out _ (Below.refl _ _).drew)
              ((go_at_call 21; refine (HADD.out _ (by first | exact (Below.refl _ _).drew | exact Below.refl _ _)).mono ?_; rintro e w5 ⟨rfl, hc5, HP5⟩)))
          | fail
          all_goals
            go_wp2_with fail
            go_meet
            exact ⟨rfl, HP5, hc5⟩
        case rest =>
          obtain ⟨rfl, HP5, hc5⟩ := hcut
          have HW9 : Hid (WSt w wc L B ab ae aw (.slice pa pn pc) P (stepP x Q) pb most) := Lib.hid ⟨HP5.out.1, HP5.out.2.1, HP5.out.2.2.1, HP5.out.2.2.2.1, HP5.out.2.2.2.2, HNA.out⟩
          clear HADD HC cx HWE HP5
          go_wp2
          go_roundw
          case rel => exact ⟨i + 1, pn, pc, pa, P, stepP x Q, by omega, rfl, by go_num, hpn, HPN, HW9⟩
          case measure => simp [intOf]; omega
      · have hna : Adr x := ⟨h0, hM⟩
        rw [if_pos hna] at HADD
        have hd0 : decide (0 ≤ x) = true := decide_eq_true h0
        have hd1 : decide (x < 16777216) = true := decide_eq_true hM
        have hd2 : decide (x < 0) = false := decide_eq_false (by omega)
        have hd3 : decide (16777216 ≤ x) = false := decide_eq_false (by omega)
        have HNT : Hid ((x.toNat / 64 ∈ P → SamePgs P (stepP x Q)) ∧ (x.toNat / 64 ∉ P → SamePgs (P ++ [x.toNat / 64]) (stepP x Q))) := Lib.hid ⟨HS.out.pgs.there HS.out.set.ok.raw.sp hna, HS.out.pgs.add hna⟩
        clear hna
        go_upto_region 9 with fail
        go_cut [4, 62] from 43 to 61 (fun _ v62 wy => v62 = .bool false ∧ Hid (NRow B wy (.slice pa pn pc) P ∧ StAt wy ab ae aw (zero (stepP x Q)) ∧ PB L B wy pb most ∧ Below w.heap.size w wy ∧ B ≤ wy.heap.size) ∧ wy.cell? ⟨xb, xo + i, none⟩ = some (.int .i64 x))
        case first =>
          go_wp2_with fail
          rw [← HWE.out]
          first
          | (go_region_held3 (fun w' => w'.cell? ⟨xb, xo + i, none⟩ = some (.int .i64 x)) (first | assumption | exact HC.out _ (Below.refl _ _) | exact HC.out _ (Below.refl _ _).drew)
              ((go_at_call 21; refine (HADD.out _ (by first | exact (Below.refl _ _).drew | exact Below.refl _ _)).mono ?_; rintro e w5 ⟨rfl, hc5, HP5⟩)))
          | fail
          all_goals
            go_wp2_with fail
            go_meet
            exact ⟨rfl, HP5, hc5⟩
        case rest =>
          obtain ⟨rfl, HP5, hc5⟩ := hcut
          clear HADD HC cx HWE
          obtain ⟨q, hq⟩ : ∃ q, q = x.toNat / 64 := ⟨_, rfl⟩
          rw [← hq] at HNT
          have hq1 : x.tdiv 64 = (q : Int) := by rw [Int.tdiv_eq_ediv_of_nonneg h0]; omega
          have hq3 : q < 262144 := by omega
          have hxc : xb < wc.heap.size := Nat.lt_of_lt_of_le hxl HP5.out.2.2.2.1.size
          clear hq
          go_wp2_with fail
          go_loopw [12, 13] (fun v12 v13 wr => ∃ (kk : Nat) (th : Bool), kk ≤ pn ∧ v12 = .bool th ∧ v13 = .int .i64 kk ∧ Hid (th = decide (q ∈ P.take kk)) ∧ Hid (Below wc.heap.size wc wr)) (fun _ v13 _ => pn - (intOf v13).toNat)
          case atStart => exact ⟨0, false, by omega, rfl, rfl, Lib.hid (by simp), Lib.hid (Below.refl _ _)⟩
          case round =>
            obtain ⟨kk, th, hkk, rfl, rfl, HTH, HBR⟩ := hrel
            have hcx := (HBR.out.cell (p := ⟨xb, xo + i, none⟩) hxc).trans hc5
            by_cases hk : kk < pn
            · have hk' : kk < P.length := by rw [← HPN.out]; exact hk
              obtain ⟨yb, yo, rfl, hpl, cp⟩ := (HP5.out.1.below HBR.out).nums.at hk'
              obtain ⟨y, hy⟩ : ∃ y, y = P[kk] := ⟨_, rfl⟩
              rw [← hy] at cp
              have hki : (kk : Int) < (pn : Int) := by omega
              cases th
              · have HT2 : Hid (decide ((y : Int) = (q : Int)) = decide (q ∈ P.take (kk + 1))) := Lib.hid (by
                  rw [List.take_succ_eq_append_getElem hk', ← hy]
                  have := of_decide_eq_false HTH.out.symm
                  apply decide_eq_decide.2
                  rw [List.mem_append, List.mem_singleton]
                  constructor
                  · intro e; exact .inr (by omega)
                  · rintro (e | e)
                    · exact absurd e this
                    · omega)
                clear HTH hy
                go_wp2_with fail
                go_quiet (fail)
                go_wp2
                go_roundw
                case rel => exact ⟨kk + 1, decide ((y : Int) = (q : Int)), by omega, by first | rfl | (simp; done), by go_num, HT2, Lib.hid (HBR.out.trans ((belowDrewN _ _).mono HBR.out.size))⟩
                case measure => simp [intOf]; omega
              · have HT2 : Hid (true = decide (q ∈ P.take (kk + 1))) := Lib.hid (by
                  rw [List.take_succ_eq_append_getElem hk', decide_eq_true]
                  exact List.mem_append.2 (.inl (of_decide_eq_true HTH.out.symm)))
                clear HTH hy
                go_wp2_with fail
                go_quiet (fail)
                go_wp2
                go_roundw
                case rel => exact ⟨kk + 1, true, by omega, rfl, by go_num, HT2, Lib.hid (HBR.out.trans ((belowDrewN _ _).mono HBR.out.size))⟩
                case measure => simp [intOf]; omega
            · have hend : P.take kk = P := List.take_of_length_le (by rw [← HPN.out]; omega)
              rw [hend] at HTH
              have HP6 := Lib.hid (And.intro (HP5.out.1.below HBR.out) (And.intro (HP5.out.2.1.below HBR.out) (And.intro (HP5.out.2.2.1.below HBR.out) (And.intro (bel3 HP5.out.2.2.2.1 HBR.out) (Nat.le_trans HP5.out.2.2.2.2 HBR.out.size)))))
              have hki : ¬ (kk : Int) < (pn : Int) := by omega
              clear HP5 HBR hc5 hend
              cases th
              · have hnot : q ∉ P := of_decide_eq_false HTH.out.symm
                obtain ⟨na, nc, w6, hr2, ho2, hb2⟩ := putN 22 HP6.out.1 q 3 (by rw [← HPN.out]; omega) HP6.out.2.2.2.2
                rw [← HPN.out] at hr2 ho2
                have hsp := HNT.out.2 hnot
                have hpw := put_w HP6.out.2.1 HP6.out.2.2.1 HP6.out.2.2.2.1 HOW.out hLB hwB hb2
                have HW9 : Hid (WSt w w6 L B ab ae aw (.slice na (pn + 1) nc) (P ++ [q]) (stepP x Q) pb most) := Lib.hid ⟨ho2, hpw.1, hpw.2.1, hpw.2.2, Nat.le_trans HP6.out.2.2.2.2 hb2.size, hsp⟩
                have HPL : Hid (pn + 1 = (P ++ [q]).length) := Lib.hid (by rw [List.length_append, List.length_singleton, ← HPN.out])
                have hpn2 : pn + 1 ≤ 262144 := by
                  rw [HPL.out, hsp.1]; exact raw_few hpw.1.ok.raw
                clear ho2 hb2 hsp hpw HP6 hnot HTH
                go_wp2_with (at_builtin; refine Lib.wpList_append_run _ rfl _ _ 22 22 rfl _ _ rfl rfl _ _ hr2 ?_)
                go_roundw
                case rel => exact ⟨i + 1, pn + 1, nc, na, P ++ [q], stepP x Q, by omega, rfl, by go_num, hpn2, HPL, HW9⟩
                case measure => simp [intOf]; omega
              · have HW9 : Hid (WSt w wr L B ab ae aw (.slice pa pn pc) P (stepP x Q) pb most) := Lib.hid ⟨HP6.out.1, HP6.out.2.1, HP6.out.2.2.1, HP6.out.2.2.2.1, HP6.out.2.2.2.2, HNT.out.1 (of_decide_eq_true HTH.out.symm)⟩
                clear HP6 hcx HTH
                go_wp2
                go_roundw
                case rel => exact ⟨i + 1, pn, pc, pa, P, stepP x Q, by omega, rfl, by go_num, hpn, HPN, HW9⟩
                case measure => simp [intOf]; omega
    · have hii : ¬ (i : Int) < (n : Int) := by omega
      obtain ⟨Z, rfl⟩ : ∃ Z, Z = wr := ⟨_, rfl⟩
      have HQN : Hid (Q.length = pn) := Lib.hid (by rw [HPN.out, HS.out.pgs.1])
      have HPG : Hid (Calls Tryd.prog 16 #[.pointer (some ⟨ab, 0, none⟩)] Z fun e w' => ∃ a c, e = .returned (.slice a pn c) ∧ Below Z.heap.size Z w') := Lib.hid (by
        rw [← HQN.out]; exact told_len (pages_any HS.out.set) (Below.refl _ _))
      have HTD : Hid (∀ V, Below Z.heap.size Z V → Calls Tryd.prog 18 #[.pointer (some ⟨ab, 0, none⟩)] V fun e w' => ∃ a c, e = .returned (.slice a 0 c) ∧ Below Z.heap.size Z w') := Lib.hid fun V hV => told_len (tids_any (HS.out.set.below hV) (HT.out.below (bel3 HS.out.bel hV) h1)) hV
      have HHS : Hid (∀ V y, y ∈ P → Below Z.heap.size Z V → Calls Tryd.prog 17 #[.pointer (some ⟨ab, 0, none⟩), .int .i64 (64 * (y : Int))] V fun e w' => e = .returned (.bool true) ∧ Below Z.heap.size Z w') := Lib.hid fun V y hy hV => by
        have := whole_has HS.out.pgs HS.out.set.ok.raw.pl hy
        rw [← this, show ((64 * y : Nat) : Int) = 64 * (y : Int) by omega]
        exact has_in HS.out.set _ V hV
      go_wp2_with fail
      refine HPG.out.mono ?_
      rintro e w5 ⟨a5, c5, rfl, hb5⟩
      have HT5 := Lib.hid (HTD.out _ hb5)
      clear HPG hb5
      go_wp2_with fail
      refine HT5.out.mono ?_
      rintro e w6 ⟨a6, c6, rfl, hb6⟩
      have HB6 := Lib.hid hb6
      clear HT5 hb6
      go_wp2_with fail
      go_loopw [15] (fun v15 wx => ∃ kk : Nat, kk ≤ pn ∧ v15 = .int .i64 kk ∧ Hid (Below Z.heap.size Z wx)) (fun v15 _ => pn - (intOf v15).toNat)
      case atStart => exact ⟨0, by omega, rfl, HB6⟩
      case round =>
        obtain ⟨kk, hkk, rfl, HBX⟩ := hrel
        clear HB6 HTD
        by_cases hk : kk < pn
        · have hk' : kk < P.length := by rw [← HPN.out]; exact hk
          obtain ⟨yb, yo, rfl, hpl, cp⟩ := (HS.out.row.below HBX.out).nums.at hk'
          have hy6 := HS.out.set.ok.raw.pl _ ((HS.out.pgs.2 _).1 (List.getElem_mem hk'))
          have HH := Lib.hid (HHS.out wr _ (List.getElem_mem hk') HBX.out)
          obtain ⟨y, hy⟩ : ∃ y, y = P[kk] := ⟨_, rfl⟩
          rw [← hy] at cp hy6 HH
          have hki : (kk : Int) < (pn : Int) := by omega
          have hy7 : y < 262144 := hy6
          clear hy hy6 HHS HS HPN
          go_wp2_with fail
          refine HH.out.mono ?_
          rintro e w7 ⟨rfl, hb7⟩
          go_wp2
          go_roundw
          case rel => exact ⟨kk + 1, by omega, by go_num, Lib.hid hb7⟩
          case measure => simp [intOf]; omega
        · have HBW := Lib.hid (bel3 HS.out.bel HBX.out)
          have HTW : Hid (∀ V, Below wr.heap.size wr V → Tab V) := Lib.hid fun V hV => HT.out.below (bel3 HBW.out hV) h1
          have hki : ¬ (kk : Int) < (pn : Int) := by omega
          have hpx := HS.out.pbs.below HBX.out
          clear HHS HPN
          rcases hpx with rfl | ⟨b, be, bw, s, rfl, hs, hm, -⟩
          · have HAW := Lib.hid (awake14 wr (HTW.out _ (Below.refl _ _)))
            go_wp2_with fail
            refine HAW.out.mono ?_
            rintro e w9 ⟨rfl, hb9⟩
            have HE := Lib.hid (bel3 HBW.out hb9)
            clear hb9
            go_wp2
            go_ret
            exact ⟨rfl, HE.out⟩
          · have HTB := Lib.hid (told_len (tids_any hs (HTW.out _ (Below.refl _ _))) (Below.refl wr.heap.size wr))
            have hle : ((s.T.length : Nat) : Int) ≤ most := by have := hs.ok.few; omega
            obtain ⟨m, hme⟩ : ∃ m, m = s.T.length := ⟨_, rfl⟩
            rw [← hme] at HTB hle
            clear hs hme hm HS
            go_wp2_with fail
            refine HTB.out.mono ?_
            rintro e w8 ⟨a8, c8, rfl, hb8⟩
            have HAW := Lib.hid (awake14 w8 (HTW.out _ hb8))
            have HB8 := Lib.hid (bel3 HBW.out hb8)
            clear hb8 HTB
            go_wp2_with fail
            refine HAW.out.mono ?_
            rintro e w9 ⟨rfl, hb9⟩
            have HE := Lib.hid (bel3 HB8.out hb9)
            clear hb9
            go_wp2
            go_ret
            exact ⟨rfl, HE.out⟩
end Go.Proofs.YtpjpkpbfbbpmdaaDoor.Ts
