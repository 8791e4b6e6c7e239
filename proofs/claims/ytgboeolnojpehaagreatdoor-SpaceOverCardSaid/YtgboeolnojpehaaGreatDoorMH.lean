/- Texts of the same proof, one behind the other: SZA, SZB, SZC, SZD, SZE, SZF, SZG, SZH, SZI, SZJ, SZK, SZL. -/
import Derived.Test.YtgboeolnojpehaaGreatDoorMG
import Derived.BigQuiet
import Derived.Deep.RegionHeld3
import Derived.Lib.SmallJoins
import Derived.Test.YtgboeolnojpehaaGreatDoorMD
import Derived.Shelf.SlIterI.Nil
/- store.read; Action.Read: of what is no page, of a page without a draft. -/
set_option maxRecDepth 100000
namespace Go.Proofs.YtgboeolnojpehaaGreatDoor
open Go.RowKit

section
variable {J : List RawOp → Prop} {B s d l p n N a db m : Nat} {S : Nat → Prop} {C : Nat → List UInt8} {P : Nat → Nat} {last h : Hd} {cur : Option Nat} {D : Nat → Option Dr} {w : World}

def ReadPost (J : List RawOp → Prop) (B : Nat) (S : Nat → Prop) (p d n : Nat) (C : Nat → List UInt8) (P : Nat → Nat) (N : Nat) (w w' : World) : Prop :=
  ∃ S', Turn S w S' w' ∧ PoolJ J B S' p d n C P (N + 2) w'

set_option maxHeartbeats 1600000 in
theorem sread_any (q : Nat) (x : SpaceAt w s d l p last cur) (hs : ¬ S s) (g : PoolJ J B S p d n C P N w) (hq : q < 4096) (hP : pinnedN P ≠ n) (hN : N + 2 ≤ 4398046511104) (hcl : ∀ ops q bs, J ops → J (ops ++ [.put 1 (q * 512) bs])) :
    Calls Tryz.prog 28 #[.pointer (some ⟨s, 1, none⟩), .int .i64 q] w fun e w' => e = .returned (.string ⟨(C q).toArray⟩) ∧ ReadPost J B S p d n C P N w w' := by
  have hsl := x.lt
  have hpl := x.pl
  have HPI : Hid (Calls Tryz.prog 49 #[.pointer (some ⟨p, 0, none⟩), .int .i64 q] w fun e w1 => e = .returned (.int .i64 0) ∧ w1.cell? ⟨s, 3, none⟩ = some (.pointer (some ⟨p, 0, none⟩)) ∧ s < w1.heap.size ∧ Hid (∃ S1, Turn S w S1 w1 ∧ ¬ S1 s ∧ PoolJ J B S1 p d n C (upd P q (P q + 1)) (N + 1) w1)) := Lib.hid (by
    refine (pin_j J B S p d n C P N q w g (by omega) hq (fun ops q => hcl ops q _)).mono ?_
    rintro e w1 ⟨S1, hT, ⟨_, _, h2, _⟩ | ⟨rfl, _, h3⟩⟩
    · exact absurd h2 hP
    · exact ⟨rfl, (World.cell?_of_block (hT.1.block s hsl hs)).trans hpl, Nat.lt_of_lt_of_le hsl hT.1.size, Lib.hid ⟨S1, hT, hT.not hsl hs, h3⟩⟩)
  have HN := Lib.hid hN
  clear x hs g hq hP hcl hN
  go_enter Tryz.func28, Tryz.ntmps28
  go_wp2_with fail
  refine HPI.out.mono ?_
  rintro e w1 ⟨rfl, hp1, hs1, hr⟩
  obtain ⟨S1, hT1, hn1, hJ1⟩ := hr.out
  have HRD : Hid (Calls Tryz.prog 50 #[.pointer (some ⟨p, 0, none⟩), .int .i64 q] w1 fun e w' => e = .returned (.tuple #[.string ⟨(C q).toArray⟩, .int .i64 0]) ∧ w' = w1) := Lib.hid (read_j hJ1 q (by rw [upd_same]; omega))
  have HUN : Hid (Calls Tryz.prog 51 #[.pointer (some ⟨p, 0, none⟩), .int .i64 q] w1 fun e w' => e = .returned (.int .i64 0) ∧ ReadPost J B S p d n C P N w w') := Lib.hid (by
    refine (unpin_j hJ1 q (by rw [upd_same]; omega) (by have := HN.out; omega)).mono ?_
    rintro e w' ⟨rfl, S2, hT2, h2⟩
    rw [upd_back] at h2
    exact ⟨rfl, S2, hT1.trans hT2, h2⟩)
  clear hr hT1 hn1 hJ1
  go_wp2_with fail
  refine HRD.out.mono ?_
  rintro e w' ⟨rfl, hw⟩
  subst w'
  go_wp2_with fail
  refine HUN.out.mono ?_
  rintro e w2 ⟨rfl, hend⟩
  have HE := Lib.hid hend
  clear hend
  go_wp2
  go_ret
  exact ⟨rfl, HE.out⟩

set_option maxHeartbeats 800000 in
theorem aread_none (q : Int) (x : ActSt w a s d l p db m last h D) (hq : ¬ (1 ≤ q ∧ h.has q.toNat)) :
    Calls Tryz.prog 9 #[.pointer (some ⟨a, 0, none⟩), .int .i64 q] w fun e w' => e = .returned (.tuple #[.string ⟨#[]⟩, .int .i64 3]) ∧ w' = w := by
  have h1 := refusesPage_live q x
  rw [if_neg hq] at h1
  have HP := Lib.hid h1; clear h1 x hq
  go_enter Tryz.func9, Tryz.ntmps9
  go_wp2_with fail
  refine HP.out.mono ?_
  rintro e w' ⟨rfl, hw⟩
  subst w'
  go_wp2
  go_ret2
  exact ⟨rfl, rfl⟩

set_option maxHeartbeats 1600000 in
theorem aread_page (q : Nat) (x : ActSt w a s d l p db m last h D) (hs : ¬ S s) (g : PoolJ J B S p d n C P N w) (hq : h.has q) (hD : D q = none) (hP : pinnedN P ≠ n) (hN : N + 2 ≤ 4398046511104) (hcl : ∀ ops q bs, J ops → J (ops ++ [.put 1 (q * 512) bs])) :
    Calls Tryz.prog 9 #[.pointer (some ⟨a, 0, none⟩), .int .i64 q] w fun e w' => e = .returned (.tuple #[.string ⟨(C q).toArray⟩, .int .i64 0]) ∧ ReadPost J B S p d n C P N w w' := by
  have h1 := refusesPage_live q x
  have hq4 : q < 4096 := by have := hq.2.1; have := x.ok.cnt; omega
  rw [if_pos (by rw [Int.toNat_natCast]; exact ⟨by have := hq.1; omega, hq⟩)] at h1
  have HP := Lib.hid h1
  have hlk := x.dr.look_none hq4 hD
  have HRD := Lib.hid (sread_any q x.sp hs g hq4 hP hN hcl)
  have c83 := x.ac.dr
  have c1 := x.ac.st
  clear h1 x hs g hq hD hP hN hcl
  go_enter Tryz.func9, Tryz.ntmps9
  go_wp2_with fail
  refine HP.out.mono ?_
  rintro e w' ⟨rfl, hw⟩
  subst w'
  go_wp2_with fail
  refine HRD.out.mono ?_
  rintro e w1 ⟨rfl, hend⟩
  have HE := Lib.hid hend
  clear hend
  go_wp2
  go_ret2
  exact ⟨rfl, HE.out⟩
end
end Go.Proofs.YtgboeolnojpehaaGreatDoor

/- Action.Write on a page that has a draft. -/
set_option maxRecDepth 100000
namespace Go.Proofs.YtgboeolnojpehaaGreatDoor
open Go.RowKit

section
variable {w w' : World} {a s d l p db m : Nat} {last h : Hd} {D : Nat → Option Dr}

theorem Dr.there_ {y : Dr} (hr : w.rangeAt y.blk 0 y.cells) (hf : ∀ j, w.frozen? ⟨y.blk, j, none⟩ = false) (h1 : y.was.length = 512) (h2 : y.now.length = 512) : w.there y.blk 0 1025 := fun j hj =>
  ⟨by rw [hr j _ (List.getElem?_eq_getElem (by rw [y.cells_length h1 h2]; exact hj))]; rfl, hf _⟩
theorem Dr.range_now {y : Dr} (hr : w.rangeAt y.blk 0 y.cells) (h1 : y.was.length = 512) : w.rangeAt y.blk 513 (Lib.byteCells y.now) := fun j v hv => by
  have := hr (513 + j) v (by rw [Dr.cells, show 513 + j = (512 + j) + 1 by omega, List.getElem?_cons_succ, List.getElem?_append_right (by rw [Lib.byteCells_length, h1]; omega), Lib.byteCells_length, h1, show 512 + j - 512 = j by omega]; exact hv)
  rwa [Nat.zero_add] at this

/-- A draft with bytes laid into what it is now. -/
def Dr.put (y : Dr) (at_ : Nat) (bs : List UInt8) : Dr := { y with now := splice y.now at_ bs }
theorem Dr.put_ptr (y : Dr) (at_ : Nat) (bs : List UInt8) : (y.put at_ bs).ptr = y.ptr := rfl
theorem Dr.put_nil (y : Dr) (at_ : Nat) : y.put at_ [] = y := by unfold Dr.put; rw [splice_nil]

theorem DraftsAt.turn (x : DraftsAt w db m D) {q : Nat} {y : Dr} (hq : D q = some y) {at_ : Nat} {bs : List UInt8} (hle : at_ + bs.length ≤ 512) :
    DraftsAt (w.setCells y.blk (513 + at_) (Lib.byteCells bs)) db m (upd D q (some (y.put at_ bs))) ∧ Kept (fun k => k = y.blk) w (w.setCells y.blk (513 + at_) (Lib.byteCells bs)) := by
  obtain ⟨w', hw⟩ : ∃ w', w' = w.setCells y.blk (513 + at_) (Lib.byteCells bs) := ⟨_, rfl⟩
  have hk : Kept (fun k => k = y.blk) w w' := by rw [hw]; exact Kept.setCells (fun k => k = y.blk) w (fb := y.blk) rfl _
  rw [← hw]
  refine ⟨?_, hk⟩
  obtain ⟨F, hF, h4, h5⟩ := x.map
  obtain ⟨g1, g2, g3, g4, g5, g6, g7⟩ := x.at_ q y hq
  have hth := Dr.there_ g2 g3 g4 g5
  refine ⟨⟨F, hF.block (hk.block db x.ltM (fun e => g6 e.symm)), fun j z hj => ?_, fun j v hj => ?_⟩, fun j z hj => ?_, fun j j' z z' hj hj' e => ?_⟩
  · by_cases hjq : j = q
    · subst hjq; rw [upd_same] at hj; cases hj; exact h4 j y hq
    · rw [upd_other _ _ hjq] at hj; exact h4 j z hj
  · obtain ⟨n, z, e1, e2, e3⟩ := h5 j v hj
    by_cases hnq : n = q
    · subst hnq
      rw [hq] at e2; cases e2
      exact ⟨n, _, e1, upd_same _ _ _, e3⟩
    · exact ⟨n, z, e1, by rw [upd_other _ _ hnq]; exact e2, e3⟩
  · by_cases hjq : j = q
    · subst hjq; rw [upd_same] at hj; cases hj
      refine ⟨g1, fun i v hv => ?_, fun i => by show w'.frozen? ⟨y.blk, i, none⟩ = false; rw [hw, World.frozen?_setCells]; exact g3 i, g4, ?_, g6, by show y.blk < w'.heap.size; exact Nat.lt_of_lt_of_le g7 hk.size⟩
      · show w'.cell? ⟨y.blk, 0 + i, none⟩ = some v
        by_cases hi : i < 513
        · rw [hw, World.cell?_setCells_out y.blk _ (513 + at_) w _ (fun _ _ => .inl (by show 0 + i < 513 + at_; omega))]
          refine g2 i v ?_
          cases i with
          | zero => exact hv
          | succ i =>
            rw [Dr.cells, List.getElem?_cons_succ, List.getElem?_append_left (by rw [Lib.byteCells_length]; show i < y.was.length; omega)] at hv
            rw [Dr.cells, List.getElem?_cons_succ, List.getElem?_append_left (by rw [Lib.byteCells_length]; omega)]
            exact hv
        · have hsp := rangeAt_splice (Dr.range_now g2 g4) at_ bs (by omega) (there_part hth (by omega) (by omega)) (i - 513) v (by
            rw [Dr.cells, show i = (i - 1) + 1 by omega, List.getElem?_cons_succ, List.getElem?_append_right (by rw [Lib.byteCells_length]; show y.was.length ≤ i - 1; omega), Lib.byteCells_length] at hv
            rw [show i - 513 = i - 1 - (y.put at_ bs).was.length by show _ = i - 1 - y.was.length; omega]
            exact hv)
          rw [hw, show 0 + i = 513 + (i - 513) by omega]
          exact hsp
      · show (splice y.now at_ bs).length = 512
        rw [length_splice _ _ _ (by omega)]; exact g5
    · rw [upd_other _ _ hjq] at hj
      obtain ⟨k1, k2, k3, k4, k5, k6, k7⟩ := x.at_ j z hj
      have hb := hk.block z.blk k7 (fun e => hjq (x.one j q z y hj hq e))
      exact ⟨k1, fun i v hv => (World.cell?_of_block hb).trans (k2 i v hv), fun i => (World.frozen?_of_block hb).trans (k3 i), k4, k5, k6, Nat.lt_of_lt_of_le k7 hk.size⟩
  · by_cases hjq : j = q <;> by_cases hjq' : j' = q
    · omega
    · subst hjq; rw [upd_same] at hj; rw [upd_other _ _ hjq'] at hj'; cases hj; exact x.one j j' y z' hq hj' e
    · subst hjq'; rw [upd_same] at hj'; rw [upd_other _ _ hjq] at hj; cases hj'; exact x.one j j' z y hj hq e
    · rw [upd_other _ _ hjq] at hj; rw [upd_other _ _ hjq'] at hj'; exact x.one j j' z z' hj hj' e

theorem ActSt.turnDr (x : ActSt w a s d l p db m last h D) {q : Nat} {y : Dr} (hq : D q = some y) {at_ : Nat} {bs : List UInt8} (hle : at_ + bs.length ≤ 512) :
    ActSt (w.setCells y.blk (513 + at_) (Lib.byteCells bs)) a s d l p db m last h (upd D q (some (y.put at_ bs))) ∧ Kept (fun k => k = y.blk) w (w.setCells y.blk (513 + at_) (Lib.byteCells bs)) := by
  obtain ⟨h1, hk⟩ := x.dr.turn hq hle
  have hb := x.blk q y hq
  refine ⟨⟨x.sp.kept hk (fun e => hb.2 e.symm), x.ac.kept hk (fun e => hb.1 e.symm), h1, x.okl, x.ok, fun j z hj => ?_, x.ne, fun j z hj => ?_⟩, hk⟩
  · by_cases hjq : j = q
    · subst hjq; exact x.has j y hq
    · rw [upd_other _ _ hjq] at hj; exact x.has j z hj
  · by_cases hjq : j = q
    · subst hjq; rw [upd_same] at hj; cases hj; exact hb
    · rw [upd_other _ _ hjq] at hj; exact x.blk j z hj

set_option maxHeartbeats 1600000 in
theorem awrite_draft (q at_ : Nat) (y : Dr) (t : ByteArray) (x : ActSt w a s d l p db m last h D) (hq : D q = some y) (hle : at_ + t.size ≤ 512) :
    Calls Tryz.prog 12 #[.pointer (some ⟨a, 0, none⟩), .int .i64 q, .int .i64 at_, .string t] w fun e w' => e = .returned (.int .i64 0) ∧ ActSt w' a s d l p db m last h (upd D q (some (y.put at_ t.data.toList))) ∧ Kept (fun k => k = y.blk) w w' := by
  have h1 := refusesPage_live q x
  have hhas := x.has q y hq
  rw [if_pos (by rw [Int.toNat_natCast]; exact ⟨by have := hhas.1; omega, hhas⟩)] at h1
  have HP := Lib.hid h1
  have hlk := x.dr.look hq
  unfold Dr.ptr at hlk
  have c83 := x.ac.dr
  obtain ⟨g1, g2, g3, g4, g5, g6, g7⟩ := x.dr.at_ q y hq
  have hth := Dr.there_ g2 g3 g4 g5
  have he : t.data.toList.length = t.size := rfl
  obtain ⟨hX, hk⟩ := x.turnDr hq (at_ := at_) (bs := t.data.toList) (by rw [he]; exact hle)
  have ha5 : at_ ≤ 512 := by omega
  have hlt : ¬ ((512 : Int) - t.size < at_) := by omega
  have hs1 : (512 : Int) - t.size ≤ 512 := by omega
  have hsl := fun W => run_sliceArr W ⟨y.blk, 513, none⟩ at_ ha5
  obtain ⟨yb, hyb⟩ : ∃ yb, yb = y.blk := ⟨_, rfl⟩
  rw [← hyb] at hlk hsl g7
  by_cases h0 : t.size = 0
  · have hnil : t.data.toList = [] := List.eq_nil_of_length_eq_zero (by rw [he, h0])
    obtain ⟨ax, hax⟩ : ∃ ax, (if 512 = at_ then (⟨yb, 513, none⟩ : Addr) else (⟨yb, 513, none⟩ : Addr).add at_) = ax := ⟨_, rfl⟩
    rw [hax] at hsl
    clear hax
    have hcp := fun (ax : Option Addr) (x y : Nat) => Lib.run_copy_empty_string (P := Tryz.prog) w 74 9 3 5 ax x y t Tryz.underlying74 (by kernel_rfl) h0
    have HE : Hid (ActSt w a s d l p db m last h (upd D q (some (y.put at_ t.data.toList))) ∧ Kept (fun k => k = y.blk) w w) := Lib.hid (by
      rw [hnil, Dr.put_nil, show upd D q (some y) = D by rw [← hq]; exact upd_self _ _]
      exact ⟨x, Kept.refl _ _⟩)
    have hs0 : (t.size : Int) ≤ 0 := by omega
    have HZ := Lib.hid h0
    clear h1 x hq hle hhas g1 g2 g3 g4 g5 g6 hth hX hk hnil h0 he hyb
    go_enter Tryz.func12, Tryz.ntmps12
    go_wp2_with fail
    refine HP.out.mono ?_
    rintro e w' ⟨rfl, hw⟩
    subst w'
    go_wp2
    go_ret
    exact ⟨rfl, HE.out⟩
  · rw [if_neg (show ¬ 512 = at_ by omega), add_lit'] at hsl
    have hcp := run_copy_string_mid w 74 9 3 5 yb (513 + at_) (512 - at_) (512 - at_) t Tryz.underlying74 (by kernel_rfl) (by rw [hyb]; exact there_part hth (by omega) (by omega)) (by omega)
    have HE := Lib.hid (And.intro hX hk)
    rw [← hyb] at HE
    have hb1 : (at_ : Int) < 512 := by omega
    have hca : ¬ 512 = at_ := by omega
    have hs0 : (0 : Int) < t.size := by omega
    have HYB := Lib.hid hyb
    clear h1 x hq hle hhas g1 g2 g3 g4 g5 g6 hth hX hk h0 he hyb
    go_enter Tryz.func12, Tryz.ntmps12
    go_wp2_with fail
    refine HP.out.mono ?_
    rintro e w' ⟨rfl, hw⟩
    subst w'
    go_wp2
    go_ret
    rw [← HYB.out]
    exact ⟨rfl, HE.out⟩
end
end Go.Proofs.YtgboeolnojpehaaGreatDoor

/- store.restore, on a disk that has no head. -/
set_option maxRecDepth 100000
namespace Go.Proofs.YtgboeolnojpehaaGreatDoor
open Go.RowKit

/-- What a record tells: a head, and patches that fit. -/
def Tells (r : ByteArray) (x : Hd × List Pt) : Prop := ∃ x1 z, rHd (r.data.toList, false) = (x.1, x1) ∧ rPts x1.1.length x1 = (x.2, z) ∧ z.2 = false ∧ x.2.length ≤ 4194304 ∧ ∀ p ∈ x.2, p.Fits
def resC (C : Nat → List UInt8) (xs : List (Hd × List Pt)) : Nat → List UInt8 := xs.foldl (fun C x => appC C x.2) C
def resH (h : Hd) (xs : List (Hd × List Pt)) : Hd := xs.foldl (fun _ x => x.1) h
def resN (N : Nat) (xs : List (Hd × List Pt)) : Nat := xs.foldl (fun N x => N + 3 * x.2.length) N
theorem resN_mono (N : Nat) (xs ys : List (Hd × List Pt)) : resN N xs ≤ resN N (xs ++ ys) := by
  have : ∀ (ys : List (Hd × List Pt)) M, M ≤ resN M ys := fun ys => by
    induction ys with
    | nil => intro M; exact Nat.le_refl _
    | cons y r ih => intro M; exact Nat.le_trans (by omega) (ih (M + 3 * y.2.length))
  unfold resN
  rw [List.foldl_append]
  exact this ys _

theorem Strs.at {B : Nat} {w : World} {a : Option Addr} {n c : Nat} {rs : List ByteArray} (h : Strs B w (.slice a n c) rs) {k : Nat} (hk : k < rs.length) :
    ∃ g, a = some ⟨g, 0, none⟩ ∧ B ≤ g ∧ g < w.heap.size ∧ w.cell? ⟨g, k, none⟩ = some (.string rs[k]) := by
  rcases h.2 with ⟨_, h0⟩ | ⟨g, cap, cur, hv, hB, hg, _⟩
  · omega
  · injection hv with hv _ _
    subst hv
    have := World.ownsRow.cells h (g := g) rfl k (.string rs[k]) (by simp [hk])
    rw [add_lit', Nat.zero_add] at this
    exact ⟨g, rfl, hB, (Array.getElem?_eq_some_iff.1 hg).1, this⟩

def ResPost (J : List RawOp → Prop) (B : Nat) (S : Nat → Prop) (s d l p n : Nat) (C : Nat → List UInt8) (P : Nat → Nat) (N : Nat) (last : Hd) (cur : Option Nat) (xs : List (Hd × List Pt)) (w w' : World) : Prop :=
  ∃ S', Kept (fun k => S k ∨ k = s) w w' ∧ (∀ k, k < w.heap.size → S' k → S k) ∧ PoolJ J B S' p d n (resC C xs) P (resN N xs) w' ∧ SpaceAt w' s d l p (resH last xs) cur

set_option maxHeartbeats 3200000 in
theorem restore_any (J : List RawOp → Prop) (B : Nat) (S : Nat → Prop) (s d l p n : Nat) (C : Nat → List UInt8) (P : Nat → Nat) (N : Nat) (last : Hd) (cur : Option Nat) (v : Value) (rs : List ByteArray) (xs : List (Hd × List Pt)) (Bp : Nat) (w : World)
    (x : SpaceAt w s d l p last cur) (k : last.Len) (hs : ¬ S s) (g : PoolJ J B S p d n C P N w) (hl : Strs Bp w v rs) (hlS : ∀ b, v.ownBlock = some b → ¬ S b ∧ b ≠ s) (hlen : rs.length = xs.length) (hx : ∀ i (h1 : i < rs.length) (h2 : i < xs.length), Tells rs[i] xs[i]) (hP : pinnedN P ≠ n) (hN : resN N xs ≤ 4398046511104)
    (hcl : ∀ ops q bs, J ops → J (ops ++ [.put 1 (q * 512) bs])) (hJ2 : ∀ ops, J ops → (rHd (play ops 2, false)).2.2 = true) :
    Calls Tryz.prog 23 #[.pointer (some ⟨s, 1, none⟩), v] w fun e w' => e = .returned (.tuple #[]) ∧ ResPost J B S s d l p n C P N last cur xs w w' := by
  obtain ⟨va, vc, rfl⟩ := hl.shape
  obtain ⟨Sd, ops, hJ, hD, _⟩ := g.disk
  have hsh := hJ2 ops hJ
  have hL : (play ops 2).length ≤ 4194304 := play_length hD.1 2
  obtain ⟨t, ht⟩ : ∃ t : ByteArray, t = ⟨(play ops 2).toArray⟩ := ⟨_, rfl⟩
  have htl : t.data.toList = play ops 2 := by rw [ht]
  have htz : t.size = (play ops 2).length := by rw [← htl]; rfl
  rw [← htl] at hsh
  have HSZ : Hid (∀ n, Calls Tryz.prog 43 #[.pointer (some ⟨d, 0, none⟩), .int .i64 2] (w.drewN n) fun e w' => e = .returned (.int .i64 t.size) ∧ w' = w.drewN n) := Lib.hid (fun n => (size_ok 2 Sd d ops _ (hD.below (below_drewN w n)) (by omega)).mono fun e w' ⟨h1, h2⟩ => ⟨by rw [h1, htz], h2⟩)
  have HRD : Hid (∀ n, Calls Tryz.prog 42 #[.pointer (some ⟨d, 0, none⟩), .int .i64 2, .int .i64 0, .int .i64 t.size] (w.drewN n) fun e w' => e = .returned (.tuple #[.string t, .int .i64 0]) ∧ w' = w.drewN n) := Lib.hid (fun n => (read_ok 2 0 t.size Sd d ops _ (hD.below (below_drewN w n)) (by omega) (by omega)).mono fun e w' ⟨h1, h2⟩ => ⟨by rw [h1, List.drop_zero, List.take_of_length_le (by omega), ← ht], h2⟩)
  obtain ⟨Z, hZ⟩ : ∃ Z : Array Value, Z = Hd.zero.cells.toArray := ⟨_, rfl⟩
  have HHO : Hid (∀ W, Calls Tryz.prog 45 #[.string t] W fun e w' => e = .returned (.tuple #[.agg Z, .bool false]) ∧ Below W.heap.size W w') := Lib.hid (fun W => by rw [hZ]; exact headOf_short t W hsh)
  have HEX : Hid (∀ (a : Act) (o : Oper) (_ : o.op = .alloc 37) (W : World), (execOp a.eval o).run Tryz.prog W = .ok (.value (.pointer (some ⟨W.heap.size, 0, none⟩))) (W.alloc (.cells Z 37))) := Lib.hid (by rw [hZ]; exact fun _ _ ho W => exec_alloc_head ho W)
  have HZ2 : Hid ((Tryz.prog.info? 37).map (·.size) = some Z.size) := Lib.hid (by rw [hZ]; exact Hd.zero_len.size)
  have HZA : Hid (Z.all (·.oneCell') = true) := Lib.hid (by rw [hZ]; exact Hd.all_one _)
  have HZT : Hid (∀ W : World, (W.alloc (.cells Z 37)).there W.heap.size 0 Z.size) := Lib.hid (fun W => by
    have := (HvAt.new W Hd.zero).there Hd.zero_len
    have e : Z.size = 81 := by rw [hZ, List.size_toArray, Hd.zero_len.cells]
    rw [← hZ] at this
    rw [e]; exact this)
  have hpd := x.dk
  have HX := Lib.hid x; have HG := Lib.hid g; have HL := Lib.hid hl; have HS := Lib.hid hs; have HLS := Lib.hid hlS; have HK := Lib.hid k
  have HLEN := Lib.hid hlen; have HT := Lib.hid hx; have HP := Lib.hid hP; have HN := Lib.hid hN; have HCL := Lib.hid hcl; have HZ := Lib.hid hZ
  obtain ⟨m, hm⟩ : ∃ m, m = rs.length := ⟨_, rfl⟩
  have hn63 : m ≤ 9223372036854775807 := by
    rcases hl.2 with ⟨_, h0⟩ | ⟨g, cap, cur, hv, _, _, h1, h2, _⟩
    · omega
    · unfold maxLen at h2; omega
  have HM := Lib.hid hm
  rw [← hm]
  clear hJ hD hsh hL ht htl htz hZ x g hl hs hlS k hlen hx hP hN hcl hJ2 hm
  go_enter Tryz.func23, Tryz.ntmps23
  go_wp2_with fail
  go_quiet ((first | (go_at_call 43; exact Calls.quiet_of_same (HSZ.out _)) | (go_at_call 42; exact Calls.quiet_of_same (HRD.out _))))
  go_wp2_with fail
  refine (HHO.out _).mono ?_
  rintro e w2 ⟨rfl, hb2⟩
  have HB2 := Lib.hid ((below_drewN w nq).trans hb2)
  clear hb2
  obtain ⟨w3, hw3⟩ : ∃ w3, w3 = (w2.alloc (.cells Z 37)).setCells w2.heap.size 0 Z.toList := ⟨_, rfl⟩
  have HW3 := Lib.hid hw3.symm
  have hb3 : Below w.heap.size w w3 := by
    rw [hw3]
    exact (HB2.out.trans ((Below.refl _ _).alloc HB2.out.size _)).trans ((Kept.setCells (fun j => j = w2.heap.size) _ (fb := w2.heap.size) rfl _).toBelow (by simp; have := HB2.out.size; omega) (fun i hi => by have := HB2.out.size; omega))
  have HB3 := Lib.hid hb3
  clear hw3 hb3
  go_wp2_with (first
    | (refine wpList_val rfl _ (HEX.out _ _ rfl _) ?_)
    | (refine wpList_store_mid rfl 37 _ _ rfl w2.heap.size 0 Z (by rfl) (by rfl) (HZT.out w2) HZ2.out HZA.out ?_; rw [HW3.out]))
  have HI0 : Hid (∃ S', Kept (fun k => S k ∨ k = s) w3 w3 ∧ (∀ k, k < w3.heap.size → S' k → S k) ∧ PoolJ J B S' p d n (resC C (xs.take 0)) P (resN N (xs.take 0)) w3 ∧ SpaceAt w3 s d l p (resH last (xs.take 0)) cur ∧ (resH last (xs.take 0)).Len) := Lib.hid ⟨S, Kept.refl _ _, fun _ _ h => h, HG.out.below HB3.out, HX.out.below HB3.out, HK.out⟩
  go_loopw [38] (fun i wr => ∃ q : Nat, q ≤ m ∧ i = .int .i64 q ∧ Hid (∃ S', Kept (fun k => S k ∨ k = s) w3 wr ∧ (∀ k, k < w3.heap.size → S' k → S k) ∧ PoolJ J B S' p d n (resC C (xs.take q)) P (resN N (xs.take q)) wr ∧ SpaceAt wr s d l p (resH last (xs.take q)) cur ∧ (resH last (xs.take q)).Len)) (fun i _ => m - (intOf i).toNat)
  case atStart => exact ⟨0, by omega, rfl, HI0⟩
  case round =>
    obtain ⟨q, hq, rfl, hinv⟩ := hrel
    obtain ⟨S1, hk1, hs1, hJ1, hx1, hln1⟩ := hinv.out
    clear hinv
    have hs3 : s < w3.heap.size := Nat.lt_of_lt_of_le HX.out.lt HB3.out.size
    have hS1 : ¬ S1 s := fun hh => HS.out (hs1 s hs3 hh)
    by_cases hlt : q < m
    · have hlt1 : q < rs.length := by rw [← HM.out]; exact hlt
      have hlt2 : q < xs.length := by rw [← HLEN.out]; exact hlt1
      have hqn : (q : Int) < m := by omega
      obtain ⟨g, rfl, hBg, hgl, e0⟩ := (HL.out.below HB3.out).at hlt1
      replace e0 := (World.cell?_of_block (hk1.block g hgl (fun hh => hh.elim (HLS.out g rfl).1 (HLS.out g rfl).2))).trans e0
      obtain ⟨x1, z, t1, t2, t3, t4, t5⟩ := HT.out q hlt1 hlt2
      obtain ⟨r, hr⟩ : ∃ r, r = rs[q] := ⟨_, rfl⟩
      obtain ⟨y, hy⟩ : ∃ y, y = xs[q] := ⟨_, rfl⟩
      rw [← hr] at e0 t1
      rw [← hy] at t1 t2 t4 t5
      have htk : xs.take (q + 1) = xs.take q ++ [y] := by rw [List.take_succ_eq_append_getElem hlt2, hy]
      have hC2 : resC C (xs.take (q + 1)) = appC (resC C (xs.take q)) y.2 := by rw [htk]; simp [resC]
      have hN2 : resN N (xs.take (q + 1)) = resN N (xs.take q) + 3 * y.2.length := by rw [htk]; simp [resN]
      have hH2 : resH last (xs.take (q + 1)) = y.1 := by rw [htk]; simp [resH]
      have hNN : resN N (xs.take q) + 3 * y.2.length ≤ 4398046511104 := by
        have h1 := resN_mono N (xs.take (q + 1)) (xs.drop (q + 1))
        rw [List.take_append_drop, hN2] at h1
        exact Nat.le_trans h1 HN.out
      have HNX := Lib.hid (And.intro hC2 (And.intro hN2 hH2))
      have HA := Lib.hid (actionOf_ok r y.1 x1 z y.2 wr t1 t2 t3 t4)
      have hfl : y.1.Len := by have := rHd_len (r.data.toList, false); rw [t1] at this; exact this
      obtain ⟨fl, hfe⟩ : ∃ fl, fl = y.1.cells := ⟨_, rfl⟩
      rw [← hfe] at HA
      have HS1 : Hid ((Tryz.prog.info? 37).map (·.size) = some fl.length) := Lib.hid (by rw [hfe]; exact hfl.size')
      have HS2 : Hid ((Tryz.prog.info? 37).map (·.size) = some fl.toArray.size) := Lib.hid (by rw [hfe]; exact hfl.size)
      have HA2 : Hid (fl.toArray.all (·.oneCell') = true) := Lib.hid (by rw [hfe]; exact Hd.all_one _)
      have HT2 : Hid (∀ W : World, (W.alloc (.cells Z 37)).there W.heap.size 0 fl.toArray.size) := Lib.hid (fun W => by
        have := HZT.out W
        have e : fl.toArray.size = Z.size := by rw [HZ.out, hfe, List.size_toArray, List.size_toArray, hfl.cells, Hd.zero_len.cells]
        rw [e]; exact this)
      have HP2 : Hid (∀ W : World, HvAt ((W.alloc (.cells Z 37)).setCells W.heap.size 0 fl) W.heap.size y.1 ∧ Kept (fun j => j = W.heap.size) (W.alloc (.cells Z 37)) ((W.alloc (.cells Z 37)).setCells W.heap.size 0 fl)) := Lib.hid (fun W => by
        have := (HvAt.new W Hd.zero).put Hd.zero_len hfl
        rw [← HZ.out] at this
        rw [hfe]; exact this)
      have HAP : Hid (∀ (w5 : World) (v' : Value), Below wr.heap.size wr w5 → PtsAt wr.heap.size w5 v' y.2 → Calls Tryz.prog 47 #[.pointer (some ⟨s, 1, none⟩), .agg fl.toArray, v'] w5 (ApplyPost J B S1 s d l p n (resC C (xs.take q)) P (resN N (xs.take q)) y.1 cur y.2 w5)) := Lib.hid (fun w5 v' hb5 hp5 => by
        rw [hfe]
        refine apply_any J B S1 s d l p n _ P _ _ y.1 cur v' y.2 wr.heap.size w5 (hx1.below hb5) hln1 hfl hS1 (hJ1.below hb5) hp5 (fun b hb hh => ?_) t5 HP.out hNN HCL.out
        have h1 := (World.ownsRow.lt hp5 b hb).1
        have h2 := (hJ1.low b hh).2
        omega)
      have HFL := Lib.hid hfl
      have HK1 := Lib.hid (And.intro hk1 hs1)
      clear hr hy htk hC2 hN2 hH2 hNN t1 t2 t3 t4 t5 hfl hfe hk1 hs1 hJ1 hx1 hln1 hBg hgl hlt1 hlt2
      go_wp2_with fail
      refine HA.out.mono ?_
      rintro e w4 ⟨v', rfl, hp4, hb4⟩
      obtain ⟨w5, hw5⟩ : ∃ w5, w5 = (w4.alloc (.cells Z 37)).setCells w4.heap.size 0 fl := ⟨_, rfl⟩
      have HW5 := Lib.hid hw5.symm
      obtain ⟨hv5, hk5⟩ := HP2.out w4
      rw [← hw5] at hv5 hk5
      have hb45 : Below w4.heap.size w4 w5 := ((Below.refl _ w4).alloc (Nat.le_refl _) _).trans (hk5.toBelow (by simp) (fun i hi => by omega))
      have hb5 : Below wr.heap.size wr w5 := hb4.trans (hb45.mono hb4.size)
      have HAQ := Lib.hid (HAP.out w5 v' hb5 (hp4.below hb45))
      have HRG : Hid (w5.rangeAt w4.heap.size 0 fl) := Lib.hid (by
        rw [hw5]
        exact World.rangeAt_setCells_same _ _ _ _ (by have := HT2.out w4; rw [List.size_toArray] at this; exact this))
      have HB5 := Lib.hid hb5
      clear hp4 hb4 hw5 hv5 hk5 hb45 hb5
      go_wp2_with (first
        | (refine wpList_val rfl _ (HEX.out _ _ rfl _) ?_)
        | (refine wpList_store_mid rfl 37 _ _ rfl w4.heap.size 0 fl.toArray (by rfl) (by rfl) (HT2.out w4) HS2.out HA2.out ?_; rw [List.toList_toArray, HW5.out])
        | (refine wpList_load_mid rfl 37 _ rfl w4.heap.size 0 (by rfl) fl _ HRG.out Tryz.underlying37 rfl HS1.out ?_))
      refine HAQ.out.mono ?_
      rintro e w6 ⟨rfl, S6, hk6, hs6, hJ6, hx6⟩
      have HEND : Hid (∃ S', Kept (fun k => S k ∨ k = s) w3 w6 ∧ (∀ k, k < w3.heap.size → S' k → S k) ∧ PoolJ J B S' p d n (resC C (xs.take (q + 1))) P (resN N (xs.take (q + 1))) w6 ∧ SpaceAt w6 s d l p (resH last (xs.take (q + 1))) cur ∧ (resH last (xs.take (q + 1))).Len) := Lib.hid (by
        rw [HNX.out.1, HNX.out.2.1, HNX.out.2.2]
        have hk35 := HK1.out.1.trans (Kept.ofBelow (S := fun k => S1 k ∨ k = s) HB5.out) (fun i hi => by
          by_cases hi3 : i < w3.heap.size
          · exact .inl (hi.imp (HK1.out.2 i hi3) id)
          · exact .inr (by omega))
        refine ⟨S6, hk35.trans hk6 (fun i hi => ?_), fun k hk hh => HK1.out.2 k hk (hs6 k (Nat.lt_of_lt_of_le hk hk35.size) hh), hJ6, hx6, HFL.out⟩
        by_cases hi3 : i < w3.heap.size
        · exact .inl (hi.imp (HK1.out.2 i hi3) id)
        · exact .inr (by omega))
      clear hk6 hs6 hJ6 hx6
      go_wp2
      go_roundw
      case rel => exact ⟨q + 1, by omega, by go_num, HEND⟩
      case measure => simp [intOf]; omega
    · obtain rfl : q = m := by omega
      have HE : Hid (ResPost J B S s d l p n C P N last cur xs w wr) := Lib.hid (by
        have e : xs.take q = xs := by rw [HM.out, HLEN.out, List.take_length]
        rw [e] at hJ1 hx1
        exact ⟨S1, (Kept.ofBelow (S := fun k => S k ∨ k = s) HB3.out).trans hk1 (fun _ hi => .inl hi), fun k hk hh => hs1 k (Nat.lt_of_lt_of_le hk HB3.out.size) hh, hJ1, hx1⟩)
      clear hk1 hs1 hJ1 hx1 hln1
      go_wp2
      go_end0
      exact ⟨rfl, HE.out⟩
end Go.Proofs.YtgboeolnojpehaaGreatDoor

/- Open, on a disk that has no head. -/
set_option maxRecDepth 100000
namespace Go.Proofs.YtgboeolnojpehaaGreatDoor
open Go.RowKit

def stCells (d l p : Nat) : List Value := [.pointer (some ⟨d, 0, none⟩), .pointer (some ⟨l, 0, none⟩), .pointer (some ⟨p, 0, none⟩)] ++ Hd.zero.cells ++ [.pointer none]
theorem built_store (d l p : Nat) : Tryz.prog.built 53 [(0, .pointer (some ⟨d, 0, none⟩)), (1, .pointer (some ⟨l, 0, none⟩)), (2, .pointer (some ⟨p, 0, none⟩))] = some (stCells d l p).toArray := by kernel_rfl
theorem built_space (d l p : Nat) : Tryz.prog.built 55 [(1, .agg (stCells d l p).toArray)] = some (Value.pointer none :: stCells d l p).toArray := by kernel_rfl

theorem space_new (W : World) (d l p : Nat) : SpaceAt (W.alloc (.cells (Value.pointer (some ⟨W.heap.size, 0, none⟩) :: stCells d l p).toArray 55)) W.heap.size d l p Hd.zero none := by
  have hg := heap_alloc_new W (.cells (Value.pointer (some ⟨W.heap.size, 0, none⟩) :: stCells d l p).toArray 55)
  have hc : ∀ i v, (Value.pointer (some ⟨W.heap.size, 0, none⟩) :: stCells d l p)[i]? = some v → (W.alloc (.cells (Value.pointer (some ⟨W.heap.size, 0, none⟩) :: stCells d l p).toArray 55)).cell? ⟨W.heap.size, i, none⟩ = some v := fun i v hi => by
    rw [Lib.cell_of_heap hg, List.getElem?_toArray]; exact hi
  refine ⟨hc 0 _ rfl, hc 1 _ rfl, hc 2 _ rfl, hc 3 _ rfl, fun j v hj => ?_, hc 85 _ rfl, fun j => Lib.frozen_of_heap hg _⟩
  refine hc (4 + j) v ?_
  have hjl := (List.getElem?_eq_some_iff.1 hj).1
  rw [show 4 + j = (3 + j) + 1 by omega, List.getElem?_cons_succ, stCells, List.append_assoc, List.getElem?_append_right (by simp), List.getElem?_append_left (by simp; omega)]
  simpa using hj

def OpenPost (J : List RawOp → Prop) (B : Nat) (S : Nat → Prop) (d n : Nat) (C : Nat → List UInt8) (N : Nat) (xs : List (Hd × List Pt)) (w : World) (e : Ending) (w' : World) : Prop :=
  ∃ s l p S', e = .returned (.tuple #[.pointer (some ⟨s, 0, none⟩), .int .i64 0]) ∧ (w.heap.size ≤ s ∧ w.heap.size ≤ l ∧ l ≠ s ∧ ¬ S' s ∧ ¬ S' l) ∧ LogOn l d w' ∧ SpaceAt w' s d l p (resH Hd.zero xs) none ∧ PoolJ J B S' p d n (resC C xs) (fun _ => 0) (resN N xs) w' ∧ Kept S w w' ∧ ∀ k, k < w.heap.size → S' k → S k

set_option maxHeartbeats 3200000 in
theorem sopen_ok (J : List RawOp → Prop) (B d n N : Nat) (S : Nat → Prop) (ops : List RawOp) (rs : List ByteArray) (xs : List (Hd × List Pt)) (w : World) (h : DiskAt S d ops w) (hS : ∀ k, S k → B ≤ k ∧ k < w.heap.size) (hp : play ops 0 = logB rs) (hrs : Recs rs) (h1 : 4 ≤ n) (h2 : n ≤ 1024) (hNo : ops.length ≤ N) (hJ : J ops)
    (hlen : rs.length = xs.length) (hx : ∀ i (h1 : i < rs.length) (h2 : i < xs.length), Tells rs[i] xs[i]) (hN : resN N xs ≤ 4398046511104)
    (hcl : ∀ ops q bs, J ops → J (ops ++ [.put 1 (q * 512) bs])) (hJ2 : ∀ ops, J ops → (rHd (play ops 2, false)).2.2 = true) :
    Calls Tryz.prog 5 #[.pointer (some ⟨d, 0, none⟩), .int .i64 n] w (OpenPost J B S d n (fun q => pageOf (play ops 1) q) N xs w) := by
  have HO := Lib.hid (open_ok S d ops rs w h hp hrs)
  have HPN : Hid (∀ w1, Below w.heap.size w w1 → Calls Tryz.prog 22 #[.pointer (some ⟨d, 0, none⟩), .int .i64 n] w1 fun e w' => ∃ p S', e = .returned (.tuple #[.pointer (some ⟨p, 0, none⟩), .int .i64 0]) ∧ PoolJ J B S' p d n (fun q => pageOf (play ops 1) q) (fun _ => 0) N w' ∧ Below w1.heap.size w1 w' ∧ S' p ∧ (∀ k, S k → S' k) ∧ ∀ k, k < w1.heap.size → S' k → S k) := Lib.hid (fun w1 hb => pnew_j J B d n N S ops w1 (h.below hb) (fun k hk => ⟨(hS k hk).1, Nat.lt_of_lt_of_le (hS k hk).2 hb.size⟩) (by omega) h2 hNo hJ)
  have HRS : Hid (∀ (S1 : Nat → Prop) (s l p : Nat) (v : Value) (W : World), SpaceAt W s d l p Hd.zero none → ¬ S1 s → PoolJ J B S1 p d n (fun q => pageOf (play ops 1) q) (fun _ => 0) N W → Strs w.heap.size W v rs → (∀ b, v.ownBlock = some b → ¬ S1 b ∧ b ≠ s) → Calls Tryz.prog 23 #[.pointer (some ⟨s, 1, none⟩), v] W fun e w' => e = .returned (.tuple #[]) ∧ ResPost J B S1 s d l p n (fun q => pageOf (play ops 1) q) (fun _ => 0) N Hd.zero none xs W w') := Lib.hid (fun S1 s l p v W g1 g2 g3 g4 g5 =>
    restore_any J B S1 s d l p n _ _ N Hd.zero none v rs xs w.heap.size W g1 Hd.zero_len g2 g3 g4 g5 hlen hx (by rw [pinnedN_zero (fun _ => rfl)]; omega) hN hcl hJ2)
  have hSl : Hid (∀ k, S k → k < w.heap.size) := Lib.hid (fun k hk => (hS k hk).2)
  have hn4 : ¬ ((n : Int) < 4) := by omega
  clear h hS hp hrs h1 h2 hNo hJ hlen hx hN hcl hJ2
  go_enter Tryz.func5, Tryz.ntmps5
  go_wp2_with fail
  refine HO.out.mono ?_
  rintro e w1 ⟨v, rfl, hlog, hst, hb1⟩
  have HP1 := Lib.hid (HPN.out w1 hb1)
  have HLG := Lib.hid hlog; have HST := Lib.hid hst; have HB1 := Lib.hid hb1
  clear hlog hst hb1
  go_wp2_with fail
  refine HP1.out.mono ?_
  rintro e w2 ⟨p, S1, rfl, hJ2, hb2, hSp, hS1, hS2⟩
  obtain ⟨X, hX⟩ : ∃ X : Array Value, X = (stCells d w.heap.size p).toArray := ⟨_, rfl⟩
  obtain ⟨Y, hY⟩ : ∃ Y : Array Value, Y = (Value.pointer none :: stCells d w.heap.size p).toArray := ⟨_, rfl⟩
  have hbX := built_store d w.heap.size p
  have hbY := built_space d w.heap.size p
  have hsp := space_new w2 d w.heap.size p
  rw [← hX] at hbX hbY
  rw [← hY] at hbY
  have hY0 : Y[0]? = some (.pointer none) := by rw [hY]; rfl
  have hYY : Y.setIfInBounds 0 (.pointer (some ⟨w2.heap.size, 0, none⟩)) = (Value.pointer (some ⟨w2.heap.size, 0, none⟩) :: stCells d w.heap.size p).toArray := by rw [hY]; simp
  rw [← hYY] at hsp
  obtain ⟨w4, hw4⟩ : ∃ w4, w4 = w2.alloc (.cells (Y.setIfInBounds 0 (.pointer (some ⟨w2.heap.size, 0, none⟩))) 55) := ⟨_, rfl⟩
  rw [← hw4] at hsp
  have hb4 : Below w2.heap.size w2 w4 := by rw [hw4]; exact (Below.refl _ w2).alloc (Nat.le_refl _) _
  have hlt1 : w.heap.size < w1.heap.size := HLG.out.lt
  have hRR := HRS.out S1 w2.heap.size w.heap.size p v w4 hsp (fun hh => by have := (hJ2.low _ hh).2; omega) (hJ2.below hb4) ((HST.out.below hb2).below hb4) (fun b hb => by
    have h1 := World.ownsRow.lt HST.out b hb
    have h2 := hb2.size
    exact ⟨fun hh => by have := hSl.out b (hS2 b h1.2 hh); omega, by omega⟩)
  have HRR := Lib.hid hRR
  have HBX := Lib.hid hbX; have HBY := Lib.hid hbY; have HW4 := Lib.hid hw4.symm
  have HIN : Hid (Below w1.heap.size w1 w2 ∧ Below w2.heap.size w2 w4 ∧ (∀ k, k < w1.heap.size → S1 k → S k) ∧ (∀ k, S1 k → k < w2.heap.size)) := Lib.hid ⟨hb2, hb4, hS2, fun k hk => (hJ2.low k hk).2⟩
  clear hJ2 hb2 hSp hS1 hS2 hX hY hYY hbX hbY hsp hw4 hb4 hRR
  go_wp2_with (first
    | (refine wpList_val rfl (.agg X) (exec_build rfl _ (by simp [go_sem]) X HBX.out _) ?_)
    | (refine wpList_val rfl (.agg Y) (exec_build rfl _ (by simp [go_sem]) Y HBY.out _) ?_))
  rw [HW4.out]
  refine HRR.out.mono ?_
  rintro e w5 ⟨rfl, S5, hk5, hs5, hJ5, hx5⟩
  have HE : Hid (OpenPost J B S d n (fun q => pageOf (play ops 1) q) N xs w (.returned (.tuple #[.pointer (some ⟨w2.heap.size, 0, none⟩), .int .i64 0])) w5) := Lib.hid (by
    obtain ⟨i1, i2, i3, i4⟩ := HIN.out
    have z1 := HB1.out.size
    have z2 := i1.size
    have z4 := i2.size
    have hz4 : w2.heap.size < w4.heap.size := by have := hx5.lt; have := hk5.size; rw [← HW4.out]; simp
    have hnl : ¬ S1 w.heap.size := fun hh => by have := hSl.out _ (i3 _ hlt1 hh); omega
    refine ⟨w2.heap.size, w.heap.size, p, S5, rfl, ⟨by omega, Nat.le_refl _, by omega, fun hh => ?_, fun hh => hnl (hs5 _ (by omega) hh)⟩, (((HLG.out.below i1).below i2).kept hk5 (fun hh => hh.elim hnl (by omega))), hx5, hJ5, ?_, fun k hk hh => i3 k (by omega) (hs5 k (by omega) hh)⟩
    · have := i4 _ (hs5 _ hz4 hh)
      omega
    · refine (((Kept.ofBelow (S := S) HB1.out).trans (Kept.ofBelow (S := S) i1) (fun _ hi => .inl hi)).trans (Kept.ofBelow (S := S) i2) (fun _ hi => .inl hi)).trans hk5 (fun i hi => ?_)
      rcases hi with hi | hi
      · by_cases hi1 : i < w1.heap.size
        · exact .inl (i3 i hi1 hi)
        · exact .inr (by omega)
      · exact .inr (by omega))
  clear hk5 hs5 hJ5 hx5
  go_wp2
  go_ret2
  exact HE.out
end Go.Proofs.YtgboeolnojpehaaGreatDoor

/- store.finish, where the log's file has room. -/
set_option maxRecDepth 100000
namespace Go.Proofs.YtgboeolnojpehaaGreatDoor
open Go.RowKit

/-- The disk's raw writes: the log's file holds these records, the head's file these bytes. -/
def JL (rs : List ByteArray) (f2 : List UInt8) (ops : List RawOp) : Prop := play ops 0 = logB rs ∧ play ops 2 = f2
theorem JL.save {rs : List ByteArray} {f2 : List UInt8} (ops : List RawOp) (q : Nat) (bs : ByteArray) (h : JL rs f2 ops) : JL rs f2 (ops ++ [.put 1 (q * 512) bs]) := by
  unfold JL at h ⊢
  rw [play_snoc, RawOp.run, upd_other _ _ (by omega), upd_other _ _ (by omega)]
  exact h
theorem JL.append {rs : List ByteArray} {f2 : List UInt8} {ops : List RawOp} (h : JL rs f2 ops) (r : ByteArray) :
    JL (rs ++ [r]) f2 (ops ++ [.put 0 (logB rs).length ⟨(frm r (rs.length + 1)).toArray⟩]) ∧ play (ops ++ [.put 0 (logB rs).length ⟨(frm r (rs.length + 1)).toArray⟩]) 1 = play ops 1 := by
  unfold JL at h ⊢
  rw [play_snoc, RawOp.run, upd_same, upd_other _ _ (by omega), upd_other _ _ (by omega), h.1, putL_end, logB_snoc]
  exact ⟨⟨rfl, h.2⟩, rfl⟩

def FinPost (B : Nat) (S : Nat → Prop) (s d l p n : Nat) (C : Nat → List UInt8) (P : Nat → Nat) (N : Nat) (rs : List ByteArray) (f2 : List UInt8) (h' : Hd) (cur : Option Nat) (ps : List Pt) (w w' : World) : Prop :=
  ∃ S', Kept (fun k => S k ∨ k = s) w w' ∧ (∀ k, k < w.heap.size → S' k → S k) ∧ PoolJ (JL (rs ++ [⟨(recB h' ps).toArray⟩]) f2) B S' p d n (appC C ps) P (N + 1 + 3 * ps.length) w' ∧ SpaceAt w' s d l p h' cur

set_option maxHeartbeats 3200000 in
theorem finish_ok (B : Nat) (S : Nat → Prop) (s d l p n : Nat) (C : Nat → List UInt8) (P : Nat → Nat) (N : Nat) (rs : List ByteArray) (f2 : List UInt8) (last h' : Hd) (cur : Option Nat) (v : Value) (ps : List Pt) (Bp : Nat) (w : World)
    (x : SpaceAt w s d l p last cur) (k : last.Len) (k' : h'.Ok) (hs : ¬ S s) (lg : LogOn l d w) (hl : ¬ S l) (g : PoolJ (JL rs f2) B S p d n C P N w) (hpt : PtsAt Bp w v ps) (hpS : ∀ b, v.ownBlock = some b → ¬ S b) (hf : ∀ p ∈ ps, p.Fits) (hsz : (recB h' ps).length ≤ 16777216)
    (hrs : Recs rs) (hc : appCode rs ⟨(recB h' ps).toArray⟩ = 0) (hP : pinnedN P ≠ n) (hN : N + 1 + 3 * ps.length ≤ 4398046511104) :
    Calls Tryz.prog 34 #[.pointer (some ⟨s, 1, none⟩), .agg h'.cells.toArray, v] w fun e w' => e = .returned (.int .i64 0) ∧ FinPost B S s d l p n C P N rs f2 h' cur ps w w' := by
  obtain ⟨fl, hfl⟩ : ∃ fl, fl = h'.cells := ⟨_, rfl⟩
  obtain ⟨w1, hw1⟩ : ∃ w1, w1 = w.alloc (.cells fl.toArray 37) := ⟨_, rfl⟩
  have hb1 : Below w.heap.size w w1 := by rw [hw1]; exact (Below.refl _ _).alloc (Nat.le_refl _) _
  have hv1 : HvAt w1 w.heap.size h' := by rw [hw1, hfl]; exact HvAt.new w h'
  have hbx : ¬ S w.heap.size := fun hh => by have := (g.low _ hh).2; omega
  have HS1 : Hid ((Tryz.prog.info? 37).map (·.size) = some fl.length) := Lib.hid (by rw [hfl]; exact k'.len.size')
  have HRC : Hid (Calls Tryz.prog 56 #[.agg fl.toArray, v] w1 fun e w' => e = .returned (.string ⟨(recB h' ps).toArray⟩) ∧ Below w1.heap.size w1 w') := Lib.hid (by
    rw [hfl]
    exact recordOf_any Bp h' v ps w1 k' (hpt.below hb1) hsz (fun p hp => by have := hf p hp; exact ⟨by have := this.1; omega, by have := this.2; omega⟩))
  obtain ⟨r, hr⟩ : ∃ r : ByteArray, r = ⟨(recB h' ps).toArray⟩ := ⟨_, rfl⟩
  rw [← hr] at HRC hc
  have HRG : Hid (∀ W, Below w1.heap.size w1 W → W.rangeAt w.heap.size 0 fl) := Lib.hid (fun W hb => by rw [hfl]; exact (hv1.block (hb.block _ hv1.lt)).1)
  have HAP : Hid (∀ W, Below w1.heap.size w1 W → Calls Tryz.prog 57 #[.pointer (some ⟨l, 0, none⟩), .string r] W fun e w' => e = .returned (.int .i64 0) ∧ w'.rangeAt w.heap.size 0 fl ∧
      Calls Tryz.prog 47 #[.pointer (some ⟨s, 1, none⟩), .agg fl.toArray, v] w' fun e w'' => e = .returned (.tuple #[]) ∧ FinPost B S s d l p n C P N rs f2 h' cur ps w w'') := Lib.hid (fun W hb => by
    have hbW : Below w.heap.size w W := hb1.trans (hb.mono hb1.size)
    have gW := g.below hbW
    obtain ⟨Sd, ops, hJ, hD, hSd, hol, hmk⟩ := gW.disk
    refine (lappend_any l d Sd ops rs r W hD (lg.below hbW) (fun hh => hl (hSd _ hh)) hJ.1 hrs (by omega)).mono ?_
    rintro e w' ⟨rfl, S2, ops', hD2, ho, hK, hS2⟩
    rw [hc, if_pos rfl] at ho
    obtain ⟨j1, j2⟩ := hJ.append r
    rw [← ho] at j1 j2
    obtain ⟨S3, hT3, hJ3⟩ := hmk (JL (rs ++ [r]) f2) w' ops' S2 hD2 hK hS2 j2 (by rw [ho]; simp) j1
    have hTw : Turn S w S3 w' := (Turn.ofBelow hbW).trans hT3
    have hx' := x.kept hTw.1 hs
    have hpt' : PtsAt Bp w' v ps := ownsRow_of_block hpt fun b hb' => hTw.1.block b (World.ownsRow.lt hpt b hb').2 (hpS b hb')
    have hvW : HvAt W w.heap.size h' := hv1.block (hb.block _ hv1.lt)
    have hv' : HvAt w' w.heap.size h' := hvW.kept hT3.1 hbx
    refine ⟨by rw [hc], by rw [hfl]; exact hv'.1, ?_⟩
    rw [hfl]
    refine (apply_any (JL (rs ++ [r]) f2) B S3 s d l p n C P (N + 1) last h' cur v ps Bp w' hx' k k'.len (hTw.not x.lt hs) hJ3 hpt' (fun b hb' => hTw.not (World.ownsRow.lt hpt b hb').2 (hpS b hb')) hf hP hN (fun ops q bs hj => JL.save ops q bs hj)).mono ?_
    rintro e w'' ⟨rfl, S4, hk4, hs4, hJ4, hx4⟩
    rw [hr] at hJ4
    refine ⟨rfl, S4, hTw.1.mono (T := fun k => S k ∨ k = s) (fun _ hi => .inl hi) |>.trans hk4 (fun i hi => ?_), fun k hk hh => hTw.2 k hk (hs4 k (Nat.lt_of_lt_of_le hk hTw.1.size) hh), hJ4, hx4⟩
    by_cases hi1 : i < w.heap.size
    · exact .inl (hi.imp (hTw.2 i hi1) id)
    · exact .inr (by omega))
  have HLG : Hid (∀ W, Below w1.heap.size w1 W → W.cell? ⟨s, 2, none⟩ = some (.pointer (some ⟨l, 0, none⟩))) := Lib.hid (fun W hb => (x.below (hb1.trans (hb.mono hb1.size))).lg)
  have HW1 := Lib.hid hw1.symm
  rw [← hfl]
  have hrg1 := HRG.out w1 (Below.refl _ _)
  rw [hw1] at hrg1
  have HRG1 := Lib.hid hrg1
  clear hfl hw1 hb1 hv1 hbx x k k' hs lg hl g hpt hpS hf hsz hrs hc hP hN hr hrg1
  go_enter Tryz.func34, Tryz.ntmps34
  go_wp2_with (refine wpList_load_mid rfl 37 _ rfl w.heap.size 0 (by rfl) fl _ HRG1.out Tryz.underlying37 rfl HS1.out ?_)
  rw [HW1.out]
  refine HRC.out.mono ?_
  rintro e w2 ⟨rfl, hb2⟩
  have hlg := HLG.out w2 hb2
  have HA := Lib.hid (HAP.out w2 hb2)
  clear hb2
  go_wp2_with fail
  refine HA.out.mono ?_
  rintro e w3 ⟨rfl, hrg, hap⟩
  have HRG3 := Lib.hid hrg; have HA3 := Lib.hid hap
  clear hrg hap
  go_wp2_with (refine wpList_load_mid rfl 37 _ rfl w.heap.size 0 (by rfl) fl _ HRG3.out Tryz.underlying37 rfl HS1.out ?_)
  refine HA3.out.mono ?_
  rintro e w4 ⟨rfl, hend⟩
  have HE := Lib.hid hend
  clear hend
  go_wp2
  go_ret
  exact ⟨rfl, HE.out⟩
end Go.Proofs.YtgboeolnojpehaaGreatDoor

/- draft.changed: the stretches in which a draft is not as it was. -/
set_option maxRecDepth 100000
namespace Go.Proofs.YtgboeolnojpehaaGreatDoor
open Go.RowKit

/-- A stretch's cells: from, to. -/
def sgC (x : Nat × Nat) : List Value := [.int .i64 x.1, .int .i64 x.2]
/-- Stretches in a row of their own. -/
def SgAt (B : Nat) (w : World) (v : Value) (l : List (Nat × Nat)) : Prop := w.ownsRow B 138 2 v l.length (l.flatMap sgC)
theorem sg_len (l : List (Nat × Nat)) : (l.flatMap sgC).length = l.length * 2 := by
  induction l with
  | nil => rfl
  | cons x r ih => rw [List.flatMap_cons, List.length_append, ih]; simp [sgC]; omega
theorem flat2 (l : List (Nat × Nat)) (k : Nat) (hk : k < l.length) (j : Nat) (hj : j < 2) : (l.flatMap sgC)[k * 2 + j]? = (sgC l[k])[j]? := by
  induction l generalizing k with
  | nil => simp at hk
  | cons p r ih =>
    rw [List.flatMap_cons]
    have hl : (sgC p).length = 2 := rfl
    cases k with
    | zero => rw [List.getElem?_append_left (by omega)]; simp
    | succ k =>
      rw [List.getElem?_append_right (by omega), show (k + 1) * 2 + j - (sgC p).length = k * 2 + j by omega, ih k (by simpa using hk)]
      rfl
theorem sg_set (l : List (Nat × Nat)) (x : Nat × Nat) (t : Nat) : ((l ++ [x]).flatMap sgC).set (l.length * 2 + 1) (.int .i64 t) = (l ++ [(x.1, t)]).flatMap sgC := by
  rw [List.flatMap_append, List.flatMap_append, List.set_append_right _ _ (by rw [sg_len]; omega), sg_len, show l.length * 2 + 1 - l.length * 2 = 1 by omega]
  rfl
theorem SgAt.at {B : Nat} {w : World} {a : Option Addr} {n c : Nat} {l : List (Nat × Nat)} (h : SgAt B w (.slice a n c) l) {k : Nat} (hk : k < l.length) :
    ∃ g, a = some ⟨g, 0, none⟩ ∧ B ≤ g ∧ g < w.heap.size ∧ n = l.length ∧ w.cell? ⟨g, k * 2, none⟩ = some (.int .i64 l[k].1) ∧ w.cell? ⟨g, k * 2 + 1, none⟩ = some (.int .i64 l[k].2) := by
  rcases h.2 with ⟨_, h0⟩ | ⟨g, cap, cur, hv, hB, hg, _⟩
  · omega
  · injection hv with hv hn _
    subst hv
    have hc : ∀ j, j < 2 → w.cell? ⟨g, k * 2 + j, none⟩ = (sgC l[k])[j]? := fun j hj => by
      have := h.cells (g := g) rfl (k * 2 + j)
      cases hv : (sgC l[k])[j]? with
      | none => have : (sgC l[k]).length = 2 := rfl; rw [List.getElem?_eq_none_iff] at hv; omega
      | some u =>
        have := this u (by rw [flat2 l k hk j hj, hv])
        rwa [add_lit', Nat.zero_add] at this
    exact ⟨g, rfl, hB, (Array.getElem?_eq_some_iff.1 hg).1, hn, hc 0 (by omega), hc 1 (by omega)⟩

/-- One place more. -/
def chStep (was now : List UInt8) (l : List (Nat × Nat)) (i : Nat) : List (Nat × Nat) :=
  if now.getD i 0 = was.getD i 0 then l
  else match l.getLast? with
    | some x => if i ≤ x.2 + 6 then l.dropLast ++ [(x.1, i + 1)] else l ++ [(i, i + 1)]
    | none => l ++ [(i, i + 1)]
def chUpto (was now : List UInt8) : Nat → List (Nat × Nat)
  | 0 => []
  | q + 1 => chStep was now (chUpto was now q) q

def SgOk (q : Nat) (l : List (Nat × Nat)) : Prop := l.length ≤ q ∧ ∀ x ∈ l, x.1 < x.2 ∧ x.2 ≤ q
theorem SgOk.step {was now : List UInt8} {l : List (Nat × Nat)} {q : Nat} (h : SgOk q l) : SgOk (q + 1) (chStep was now l q) := by
  have h0 : SgOk (q + 1) l := ⟨by have := h.1; omega, fun x hx => by have := h.2 x hx; omega⟩
  have h1 : SgOk (q + 1) (l ++ [(q, q + 1)]) := ⟨by rw [List.length_append]; have := h.1; simp; omega, fun x hx => by
    rcases List.mem_append.1 hx with hx | hx
    · exact h0.2 x hx
    · rw [List.mem_singleton] at hx; subst hx; simp⟩
  unfold chStep
  split
  · exact h0
  · split
    · rename_i x hx
      split
      · have hm := List.mem_of_getLast? hx
        refine ⟨?_, fun y hy => ?_⟩
        · rw [List.length_append, List.length_dropLast]; have := h.1; have := List.length_pos_of_mem hm; simp; omega
        · rcases List.mem_append.1 hy with hy | hy
          · exact h0.2 y ((List.dropLast_sublist l).subset hy)
          · rw [List.mem_singleton] at hy; subst hy
            have := h.2 x hm
            simp only; omega
      · exact h1
    · exact h1
theorem chUpto_ok (was now : List UInt8) (q : Nat) : SgOk q (chUpto was now q) := by
  induction q with
  | zero => exact ⟨by simp [chUpto], by simp [chUpto]⟩
  | succ q ih => exact ih.step

theorem infoSg : (Tryz.prog.info? 138).map (fun i => (i.zero, i.size, i.bytes)) = some (some (.agg #[.int .i64 0, .int .i64 0]), 2, 16) := by kernel_rfl

theorem byteCell_at (l : List UInt8) (i : Nat) (hi : i < l.length) : (Lib.byteCells l)[i]? = some (.int .u8 ((l.getD i 0).toNat : Int)) := by
  simp [Lib.byteCells, List.getElem?_map, List.getElem?_eq_getElem hi, List.getD_eq_getElem?_getD]
theorem Dr.at_was {w : World} {x : Dr} (h : w.rangeAt x.blk 0 x.cells) (h1 : x.was.length = 512) {i : Nat} (hi : i < 512) : w.cell? ⟨x.blk, 1 + i, none⟩ = some (.int .u8 ((x.was.getD i 0).toNat : Int)) := by
  have := h (1 + i) (.int .u8 ((x.was.getD i 0).toNat : Int)) (by
    rw [Dr.cells, show 1 + i = i + 1 by omega, List.getElem?_cons_succ, List.getElem?_append_left (by rw [Lib.byteCells_length]; omega), byteCell_at _ _ (by omega)])
  rwa [Nat.zero_add] at this
theorem Dr.at_now {w : World} {x : Dr} (h : w.rangeAt x.blk 0 x.cells) (h1 : x.was.length = 512) (h2 : x.now.length = 512) {i : Nat} (hi : i < 512) : w.cell? ⟨x.blk, 513 + i, none⟩ = some (.int .u8 ((x.now.getD i 0).toNat : Int)) := by
  have := h (513 + i) (.int .u8 ((x.now.getD i 0).toNat : Int)) (by
    rw [Dr.cells, show 513 + i = (512 + i) + 1 by omega, List.getElem?_cons_succ, List.getElem?_append_right (by rw [Lib.byteCells_length]; omega), Lib.byteCells_length, h1, show 512 + i - 512 = i by omega, byteCell_at _ _ (by omega)])
  rwa [Nat.zero_add] at this

set_option maxHeartbeats 3200000 in
theorem changed_any (x : Dr) (w : World) (hr : w.rangeAt x.blk 0 x.cells) (h1 : x.was.length = 512) (h2 : x.now.length = 512) :
    Calls Tryz.prog 77 #[x.ptr] w fun e w' => ∃ v, e = .returned v ∧ SgAt w.heap.size w' v (chUpto x.was x.now 512) ∧ Below w.heap.size w w' := by
  obtain ⟨ip, hip, q0, q1, q2⟩ := info_parts infoSg
  have hlt : x.blk < w.heap.size := World.block_lt_of_cell? w _ (hr 0 _ rfl)
  have HC : Hid (∀ W, Below w.heap.size w W → ∀ i, i < 512 → W.cell? ⟨x.blk, 1 + i, none⟩ = some (.int .u8 ((x.was.getD i 0).toNat : Int)) ∧ W.cell? ⟨x.blk, 513 + i, none⟩ = some (.int .u8 ((x.now.getD i 0).toNat : Int))) := Lib.hid (fun W hb i hi => by
    have hW : W.rangeAt x.blk 0 x.cells := fun j v hv => (World.cell?_of_block (hb.block x.blk hlt)).trans (hr j v hv)
    exact ⟨Dr.at_was hW h1 hi, Dr.at_now hW h1 h2 hi⟩)
  obtain ⟨blk, fr, was, now⟩ := x
  simp only [Dr.ptr] at *
  clear hr h1 h2 hlt
  go_enter Tryz.func77, Tryz.ntmps77
  go_wp2
  go_loopw [3, 6] (fun v i wr => ∃ (q m : Nat) (a : Option Addr) (c : Nat) (acc : List (Nat × Nat)), q ≤ 512 ∧ i = .int .i64 q ∧ v = .slice a m c ∧ Hid (m = acc.length ∧ acc = chUpto was now q) ∧ Hid (SgAt w.heap.size wr (.slice a m c) acc) ∧ Hid (Below w.heap.size w wr)) (fun _ i _ => 512 - (intOf i).toNat)
  case atStart => exact ⟨0, 0, none, 0, [], by omega, rfl, rfl, Lib.hid ⟨rfl, rfl⟩, Lib.hid ⟨rfl, .inl ⟨rfl, rfl⟩⟩, Lib.hid (Below.refl _ _)⟩
  case round =>
    obtain ⟨q, m, a, c, acc, hq, rfl, rfl, hm, ho, hb⟩ := hrel
    have hok : SgOk q acc := by rw [hm.out.2]; exact chUpto_ok _ _ _
    by_cases hlt : q < 512
    · have hqi : (q : Int) < 512 := by omega
      have hq0 : (0 : Int) ≤ q := by omega
      have hwr : IntKind.i64.wrap ((q : Int) + 1) = (q : Int) + 1 := IntWalk.i64_in _ (by omega)
      obtain ⟨c1, c2⟩ := HC.out wr hb.out q hlt
      obtain ⟨y, hy⟩ : ∃ y : Int, y = ((was.getD q 0).toNat : Int) := ⟨_, rfl⟩
      obtain ⟨z, hz⟩ : ∃ z : Int, z = ((now.getD q 0).toNat : Int) := ⟨_, rfl⟩
      rw [← hy] at c1
      rw [← hz] at c2
      have hyz : z = y ↔ now.getD q 0 = was.getD q 0 := by
        rw [hy, hz]
        constructor
        · intro e; exact UInt8.toNat_inj.1 (by omega)
        · intro e; rw [e]
      by_cases he : now.getD q 0 = was.getD q 0
      · obtain rfl := hyz.2 he
        have hn : acc = chUpto was now (q + 1) := by rw [hm.out.2]; conv => rhs; unfold chUpto; unfold chStep; rw [if_pos he]
        have HM := Lib.hid (show m = acc.length ∧ acc = chUpto was now (q + 1) from ⟨hm.out.1, hn⟩)
        clear hy hz hyz he hn hok hm
        go_wp2
        go_quiet (fail)
        obtain ⟨W, hW⟩ : ∃ W, W = wr.drewN nq := ⟨_, rfl⟩
        rw [← hW]
        have hwb : Below wr.heap.size wr W := by rw [hW]; exact ⟨rfl, rfl, rfl, Nat.le_refl _, fun _ _ => rfl⟩
        have HO := Lib.hid (show SgAt w.heap.size W (.slice a m c) acc from ownsRow_below ho.out hwb)
        have HB := Lib.hid (hb.out.trans (hwb.mono hb.out.size))
        clear hwb hW c1 c2
        go_wp2
        go_roundw
        case rel => exact ⟨q + 1, m, a, c, acc, by omega, by simp, rfl, HM, HO, HB⟩
        case measure => simp [intOf]; omega
      · have hstep : chUpto was now (q + 1) = chStep was now acc q := by rw [hm.out.2]; rfl
        have hzy : (z == y) = false := by
          rw [beq_eq_false_iff_ne]; intro e; exact he (hyz.1 e)
        have hzy2 : decide (z = y) = false := decide_eq_false (fun e => he (hyz.1 e))
        have hcase : (acc = [] ∧ m = 0) ∨ ∃ (k : Nat) (l0 : List (Nat × Nat)) (x : Nat × Nat), acc = l0 ++ [x] ∧ l0.length = k ∧ m = k + 1 := by
          rcases List.eq_nil_or_concat acc with h | ⟨l0, x, h⟩
          · exact .inl ⟨h, by rw [hm.out.1, h]; rfl⟩
          · rw [List.concat_eq_append] at h; exact .inr ⟨l0.length, l0, x, h, rfl, by rw [hm.out.1, h]; simp⟩
        have hml : m = acc.length := hm.out.1
        rcases hcase with ⟨rfl, rfl⟩ | ⟨k, l0, x, rfl, hk, rfl⟩
        · have hn : chUpto was now (q + 1) = [(q, q + 1)] := by rw [hstep]; unfold chStep; rw [if_neg he]; rfl
          have HN := Lib.hid hn
          clear hy hz hyz he hn hok hm hstep hml
          go_wp2
          go_quiet (fail)
          obtain ⟨W, hW⟩ : ∃ W, W = wr.drewN nq := ⟨_, rfl⟩
          rw [← hW]
          have hwb : Below wr.heap.size wr W := by rw [hW]; exact ⟨rfl, rfl, rfl, Nat.le_refl _, fun _ _ => rfl⟩
          have hO : W.ownsRow w.heap.size 138 2 (.slice a 0 c) 0 [] := ownsRow_below ho.out hwb
          have HO := Lib.hid hO
          have hB := hb.out.trans (hwb.mono hb.out.size)
          have HB := Lib.hid hB
          have hWs := hB.size
          clear hwb hW c1 c2 hO hB ho hb
          go_wp2_with (at_builtin; refine wpList_append_own _ rfl _ _ 135 rfl w.heap.size 138 ip (.agg #[.int .i64 0, .int .i64 0]) 2 16 Tryz.underlying135 hip q0 q1 q2 rfl (by decide) _ _ _ rfl (HO.out.alloc _) ⟨W.heap.size, 0, none⟩ 1 1 [.int .i64 q, .int .i64 ((q : Int) + 1)] rfl rfl ?c1 ?c2 ?c3 ?c4 ?c5 ?_)
          case c1 =>
            intro j u hu
            have hq : j = 0 ∨ j = 1 := by
              have := (List.getElem?_eq_some_iff.1 hu).1
              simp at this
              omega
            have hg := heap_alloc_new W (.cells #[.int .i64 q, .int .i64 ((q : Int) + 1)] 138)
            rw [add_lit', Nat.zero_add, Lib.cell_of_heap hg]
            rcases hq with rfl | rfl <;> exact hu
          case c2 =>
            intro u hu
            simp only [List.mem_cons, List.not_mem_nil, or_false] at hu
            rcases hu with rfl | rfl <;> rfl
          case c3 => unfold maxLen; omega
          case c4 => omega
          case c5 => simp; omega
          intro v6 w6 hown6 hgrow6 _
          obtain ⟨a6, c6, rfl⟩ : ∃ a c, v6 = .slice a 1 c := by
            rcases hown6.2 with ⟨_, h0⟩ | ⟨g', cap', cur, hv, _⟩
            · omega
            · exact ⟨_, cap', hv⟩
          have HO6 : Hid (SgAt w.heap.size w6 (.slice a6 1 c6) [(q, q + 1)]) := Lib.hid hown6
          have HB6 := Lib.hid ((HB.out.alloc hWs (.cells #[.int .i64 q, .int .i64 ((q : Int) + 1)] 138)).grown hgrow6 (by simp; omega) (fun k hk => (World.ownsRow.lt HO.out k hk).1))
          clear hown6 hgrow6
          go_wp2
          go_roundw
          case rel => exact ⟨q + 1, 1, a6, c6, _, by omega, by simp, rfl, Lib.hid ⟨rfl, HN.out.symm⟩, HO6, HB6⟩
          case measure => simp [intOf]; omega
        · obtain ⟨g, rfl, hBg, hgl, -, -, e1⟩ := ho.out.at (k := k) (by rw [← hk]; simp)
          have hxk : (l0 ++ [x])[k]'(by rw [← hk]; simp) = x := by simp [← hk]
          rw [hxk] at e1
          have hx := hok.2 x (by simp)
          obtain ⟨t, ht⟩ : ∃ t, t = x.2 := ⟨_, rfl⟩
          rw [← ht] at e1 hx
          have hlast : (l0 ++ [x]).getLast? = some x := by simp
          have hkq : k + 1 ≤ q := by have := hok.1; simp at this; omega
          have htq : (t : Int) ≤ q := by omega
          have ht0 : (0 : Int) ≤ t := by omega
          have h0k : (0 : Int) < (k : Int) + 1 := by omega
          have HCE : Hid (∀ W, Below wr.heap.size wr W → W.cell? ⟨g, k * 2 + 1, none⟩ = some (.int .i64 t) ∧ W.frozen? ⟨g, k * 2 + 1, none⟩ = false) := Lib.hid (fun W hb => ⟨(World.cell?_of_block (hb.block g hgl)).trans e1, (show W.ownsRow w.heap.size 138 2 (.slice (some ⟨g, 0, none⟩) (k + 1) c) (k + 1) ((l0 ++ [x]).flatMap sgC) from by have := ownsRow_below ho.out hb; rw [← hml] at this; exact this).frozenAt _⟩)
          have HK := Lib.hid hk; have HT := Lib.hid ht; have HML := Lib.hid hml
          by_cases hnear : q ≤ t + 6
          · have hn : chUpto was now (q + 1) = l0 ++ [(x.1, q + 1)] := by rw [hstep]; unfold chStep; rw [if_neg he, hlast]; simp only; rw [← ht, if_pos hnear]; simp
            have hnear2 : (q : Int) - t ≤ 6 := by omega
            have hst : ∀ W, Below wr.heap.size wr W → SgAt w.heap.size (W.setCell ⟨g, k * 2 + 1, none⟩ (.int .i64 ((q : Int) + 1))) (.slice (some ⟨g, 0, none⟩) (k + 1) c) (l0 ++ [(x.1, q + 1)]) ∧ Below w.heap.size w (W.setCell ⟨g, k * 2 + 1, none⟩ (.int .i64 ((q : Int) + 1))) := fun W hWb => by
              have h1 : W.ownsRow w.heap.size 138 2 (.slice (some ⟨g, 0, none⟩) (k + 1) c) (l0 ++ [x]).length ((l0 ++ [x]).flatMap sgC) := ownsRow_below ho.out hWb
              rw [← hml] at h1
              obtain ⟨h2, h3⟩ := h1.stored (k * 2 + 1) (.int .i64 ((q : Int) + 1))
              rw [← hk, show ((q : Int) + 1) = ((q + 1 : Nat) : Int) by simp, sg_set, hk] at h2
              refine ⟨?_, (hb.out.trans (hWb.mono hb.out.size)).grown h3 (by have := hb.out.size; have := hWb.size; omega) (fun j hj => by cases hj; exact hBg)⟩
              unfold SgAt
              rw [show (l0 ++ [(x.1, q + 1)]).length = k + 1 by simp [hk]]
              exact h2
            have HST := Lib.hid hst
            have HN := Lib.hid hn
            clear hy hz hyz he hn hok hm hstep hml hlast hxk hx ht hk hst hnear ho hb e1
            go_wp2
            go_quiet (fail)
            obtain ⟨W, hW⟩ : ∃ W, W = wr.drewN nq := ⟨_, rfl⟩
            rw [← hW]
            have hwb : Below wr.heap.size wr W := by rw [hW]; exact ⟨rfl, rfl, rfl, Nat.le_refl _, fun _ _ => rfl⟩
            obtain ⟨e1, e2⟩ := HCE.out W hwb
            obtain ⟨s1, s2⟩ := HST.out W hwb
            have HS1 := Lib.hid s1; have HS2 := Lib.hid s2
            clear hwb hW c1 c2 s1 s2
            go_wp2
            go_roundw
            case rel => exact ⟨q + 1, k + 1, _, c, _, by omega, by simp, rfl, Lib.hid ⟨by rw [List.length_append, HK.out]; rfl, HN.out.symm⟩, HS1, HS2⟩
            case measure => simp [intOf]; omega
          · have hn : chUpto was now (q + 1) = (l0 ++ [x]) ++ [(q, q + 1)] := by rw [hstep]; unfold chStep; rw [if_neg he, hlast]; simp only; rw [← ht, if_neg hnear]
            have hfar : (6 : Int) < (q : Int) - t := by omega
            obtain ⟨acc, hacc⟩ : ∃ acc, acc = l0 ++ [x] := ⟨_, rfl⟩
            rw [← hacc] at hn hml ho
            have HN := Lib.hid hn
            have HML := Lib.hid hml
            clear hy hz hyz he hn hok hm hstep hml hlast hxk hx ht hk hnear e1 hacc
            go_wp2
            go_quiet (fail)
            obtain ⟨W, hW⟩ : ∃ W, W = wr.drewN nq := ⟨_, rfl⟩
            rw [← hW]
            have hwb : Below wr.heap.size wr W := by rw [hW]; exact ⟨rfl, rfl, rfl, Nat.le_refl _, fun _ _ => rfl⟩
            obtain ⟨e1, e2⟩ := HCE.out W hwb
            have hO : W.ownsRow w.heap.size 138 2 (.slice (some ⟨g, 0, none⟩) (k + 1) c) (k + 1) (acc.flatMap sgC) := by
              have := ownsRow_below ho.out hwb
              rw [← HML.out] at this
              exact this
            have HO := Lib.hid hO
            have hB := hb.out.trans (hwb.mono hb.out.size)
            have HB := Lib.hid hB
            have hWs := hB.size
            clear hwb hW c1 c2 hO hB ho hb
            go_wp2_with (at_builtin; refine wpList_append_own _ rfl _ _ 135 rfl w.heap.size 138 ip (.agg #[.int .i64 0, .int .i64 0]) 2 16 Tryz.underlying135 hip q0 q1 q2 rfl (by decide) _ _ _ rfl (HO.out.alloc _) ⟨W.heap.size, 0, none⟩ 1 1 [.int .i64 q, .int .i64 ((q : Int) + 1)] rfl rfl ?c1 ?c2 ?c3 ?c4 ?c5 ?_)
            case c1 =>
              intro j u hu
              have hq : j = 0 ∨ j = 1 := by
                have := (List.getElem?_eq_some_iff.1 hu).1
                simp at this
                omega
              have hg := heap_alloc_new W (.cells #[.int .i64 q, .int .i64 ((q : Int) + 1)] 138)
              rw [add_lit', Nat.zero_add, Lib.cell_of_heap hg]
              rcases hq with rfl | rfl <;> exact hu
            case c2 =>
              intro u hu
              simp only [List.mem_cons, List.not_mem_nil, or_false] at hu
              rcases hu with rfl | rfl <;> rfl
            case c3 => unfold maxLen; omega
            case c4 => omega
            case c5 => simp; omega
            intro v6 w6 hown6 hgrow6 _
            obtain ⟨a6, c6, rfl⟩ : ∃ a c, v6 = .slice a (k + 1 + 1) c := by
              rcases hown6.2 with ⟨_, h0⟩ | ⟨g', cap', cur, hv, _⟩
              · omega
              · exact ⟨_, cap', hv⟩
            have HO6 : Hid (SgAt w.heap.size w6 (.slice a6 (k + 1 + 1) c6) (acc ++ [(q, q + 1)])) := Lib.hid (by
              unfold SgAt
              rw [List.length_append, List.flatMap_append, ← HML.out]
              exact hown6)
            have HB6 := Lib.hid ((HB.out.alloc hWs (.cells #[.int .i64 q, .int .i64 ((q : Int) + 1)] 138)).grown hgrow6 (by simp; omega) (fun k hk => (World.ownsRow.lt HO.out k hk).1))
            clear hown6 hgrow6
            go_wp2
            go_roundw
            case rel => exact ⟨q + 1, k + 1 + 1, a6, c6, _, by omega, by simp, rfl, Lib.hid ⟨by rw [List.length_append, ← HML.out]; rfl, HN.out.symm⟩, HO6, HB6⟩
            case measure => simp [intOf]; omega
    · have hq5 : q = 512 := by omega
      subst hq5
      have HA := Lib.hid hm.out.2
      clear hm hok
      go_wp2
      go_ret
      exact ⟨_, rfl, by rw [← HA.out]; exact ho.out, hb.out⟩
end Go.Proofs.YtgboeolnojpehaaGreatDoor

/- draft.patches: what leads from a page, as it was, to its draft. -/
set_option maxRecDepth 100000
namespace Go.Proofs.YtgboeolnojpehaaGreatDoor
open Go.RowKit

/-- An append, as a step of a region that draws its order, out of its run. -/
theorem step_app_run {ops : Array Oper} {o : Oper} {a : Act} {K : Act → World → Prop} {Q : Exit → Act → World → Prop} {E : Prop} {w w' : World} (hgd : o.guard = none) (s x : Operand) (t : TypeId)
    (ho : o.op = .call { callee := .builtin .append, args := #[s, x], argTypes := #[t, t] }) (sv xv v : Value) (hs : a.eval s = sv) (hx : a.eval x = xv) (hr : (Builtin.append_ #[t, t] o.type #[sv, xv]).run Tryz.prog w = .ok v w') (h : K (a.put o.dst v) w') :
    if Region.wanted o (yielded ops a.tmps) = true then Oper.wp Tryz.prog o a w K Q else E := by
  have hw : Region.wanted o (yielded ops a.tmps) = true := by simp [Region.wanted, hgd]
  rw [if_pos hw]
  unfold Oper.wp
  simp [execOp, ho, resolve, invoke, builtin, hs, hx, hr, Result.andThen]
  rw [Oper.upon_value]
  exact h

theorem pt_len (l : List Pt) : (l.flatMap Pt.cells).length = l.length * 3 := by
  induction l with
  | nil => rfl
  | cons x r ih => rw [List.flatMap_cons, List.length_append, ih]; simp [Pt.cells]; omega

/-- Patches behind patches: where the new row lies. -/
theorem append_pts (w : World) (v : Value) (ps qs : List Pt) (ad : Addr) (c : Nat) (h : PtsAt 0 w v ps) (hc : ∀ j u, (qs.flatMap Pt.cells)[j]? = some u → w.cell? (ad.add j) = some u) (hl : ps.length + qs.length ≤ 4194304) (ty : TypeId) :
    ∃ v' w', (Builtin.append_ #[87, 87] ty #[v, .slice (some ad) qs.length c]).run Tryz.prog w = .ok v' w' ∧ PtsAt 0 w' v' (ps ++ qs) ∧ Grew w w' v v' := by
  obtain ⟨i0, hi, q0, q1, q2⟩ := info_parts infoPt
  obtain ⟨v', w', hr, h1, h2⟩ := append_own2 w 87 ty 128 i0 (.agg #[.int .i64 0, .int .i64 0, .string ⟨#[]⟩]) 3 32 Tryz.underlying87 hi q0 q1 q2 rfl (by decide) v ps.length (ps.flatMap Pt.cells) h ad qs.length c (qs.flatMap Pt.cells) (pt_len qs) hc (fun u hu => by
    obtain ⟨p, _, hu⟩ := List.mem_flatMap.1 hu
    simp only [Pt.cells, List.mem_cons, List.not_mem_nil, or_false] at hu
    rcases hu with rfl | rfl | rfl <;> rfl) (by unfold maxLen; omega) (by omega) (by omega)
  refine ⟨v', w', hr, ?_, h2⟩
  rw [PtsAt, List.flatMap_append, List.length_append]
  exact h1
theorem append_pt1 (w : World) (v : Value) (ps : List Pt) (p : Pt) (ad : Addr) (c : Nat) (h : PtsAt 0 w v ps) (hc : ∀ j u, p.cells[j]? = some u → w.cell? (ad.add j) = some u) (hl : ps.length < 4194304) (ty : TypeId) :
    ∃ a' c' w', (Builtin.append_ #[87, 87] ty #[v, .slice (some ad) 1 c]).run Tryz.prog w = .ok (.slice a' (ps.length + 1) c') w' ∧ PtsAt 0 w' (.slice a' (ps.length + 1) c') (ps ++ [p]) ∧ Grew w w' v (.slice a' (ps.length + 1) c') := by
  obtain ⟨v', w', h1, h2, h3⟩ := append_pts w v ps [p] ad c h (by simpa using hc) (by simp; omega) ty
  obtain ⟨a', c', hv⟩ := h2.shape
  rw [List.length_append] at hv
  subst hv
  exact ⟨a', c', w', h1, h2, h3⟩
theorem append_ptsv (w : World) (v u : Value) (ps qs : List Pt) (B : Nat) (h : PtsAt 0 w v ps) (hu : PtsAt B w u qs) (hl : ps.length + qs.length ≤ 4194304) (ty : TypeId) :
    ∃ v' w', (Builtin.append_ #[87, 87] ty #[v, u]).run Tryz.prog w = .ok v' w' ∧ PtsAt 0 w' v' (ps ++ qs) ∧ Grew w w' v v' := by
  rcases hu.2 with ⟨rfl, h0⟩ | ⟨g, cap, cur, rfl, hB, hg, _⟩
  · obtain rfl : qs = [] := List.eq_nil_of_length_eq_zero h0
    obtain ⟨i0, hi, q0, q1, q2⟩ := info_parts infoPt
    have hr := run_append_owned_none (P := Tryz.prog) (w := w) 0 87 ty 128 i0 3 Tryz.underlying87 hi v _ _ h
    exact ⟨_, _, hr, by rw [List.append_nil]; exact h, Grew.refl _ _⟩
  · exact append_pts w v ps qs ⟨g, 0, none⟩ cap h (fun j u hj => hu.cells (g := g) rfl j u hj) hl ty

/-- What leads from a page to its draft. -/
def freshPt (q : Nat) (fr : Bool) : List Pt := if fr then [⟨q, 0, ⟨#[]⟩⟩] else []
def sgPt (q : Nat) (now : List UInt8) (s : Nat × Nat) : Pt := ⟨q, s.1, ⟨((now.drop s.1).take (s.2 - s.1)).toArray⟩⟩
def drPts (q : Nat) (x : Dr) : List Pt := freshPt q x.fresh ++ (chUpto x.was x.now 512).map (sgPt q x.now)

theorem run_slicePart (W : World) (b o f t : Nat) (h1 : f < t) (h2 : t ≤ 512) : (Instr.sliceAt 81 (.pointer (some ⟨b, o, none⟩)) (some (.int .i64 f)) (some (.int .i64 t)) none).run Tryz.prog W = .ok (.slice (some ⟨b, o + f, none⟩) (t - f) (512 - f)) W := by
  obtain ⟨i, hi, hs⟩ := Option.map_eq_some_iff.1 (show (Tryz.prog.info? 5).map (·.size) = some 1 by kernel_rfl)
  have e1 : f ≤ t := by omega
  have e2 : ¬ 512 = f := by omega
  simp [Instr.sliceAt, run_underlying Tryz.underlying81, Instr.sureAddr, Instr.sliceBounds, Instr.sliceBound, asIntOf, sizeOf, typeInfo, hi, hs, Result.andThen, e1, h2, e2, add_lit']

theorem Dr.string_part {w : World} {b f t c : Nat} {now : List UInt8} (h : w.rangeAt b 513 (Lib.byteCells now)) (h2 : now.length = 512) (hft : f < t) (ht : t ≤ 512) : (convert 74 9 (.slice (some ⟨b, 513 + f, none⟩) (t - f) c)).run Tryz.prog w = .ok (.string ⟨((now.drop f).take (t - f)).toArray⟩) w := by
  have hl : ((now.drop f).take (t - f)).length = t - f := by simp [h2]; omega
  have := run_string_mid w b (513 + f) c ((now.drop f).take (t - f)) (fun j v hv => by
    rw [← byteCells_take, ← byteCells_drop, List.getElem?_take] at hv
    split at hv
    · rw [List.getElem?_drop] at hv
      have := h (f + j) v hv
      rwa [show 513 + f + j = 513 + (f + j) by omega]
    · cases hv)
  rwa [hl] at this

set_option maxHeartbeats 3200000 in
theorem dpatches_any (q : Nat) (x : Dr) (w : World) (hr : w.rangeAt x.blk 0 x.cells) (h1 : x.was.length = 512) (h2 : x.now.length = 512) :
    Calls Tryz.prog 55 #[x.ptr, .int .i64 q] w fun e w' => ∃ v, e = .returned v ∧ PtsAt w.heap.size w' v (drPts q x) ∧ Below w.heap.size w w' := by
  have hlt : x.blk < w.heap.size := World.block_lt_of_cell? w _ (hr 0 _ rfl)
  have HLT := Lib.hid hlt
  have HRW : Hid (∀ W, Below w.heap.size w W → W.rangeAt x.blk 0 x.cells) := Lib.hid (fun W hb j v hv => (World.cell?_of_block (hb.block x.blk hlt)).trans (hr j v hv))
  have HCH : Hid (∀ W, Below w.heap.size w W → Calls Tryz.prog 77 #[x.ptr] W fun e w' => ∃ a c, e = .returned (.slice a (chUpto x.was x.now 512).length c) ∧ SgAt W.heap.size w' (.slice a (chUpto x.was x.now 512).length c) (chUpto x.was x.now 512) ∧ Below W.heap.size W w') := Lib.hid (fun W hb => (changed_any x W (HRW.out W hb) h1 h2).mono fun e w' ⟨v, e1, e2, e3⟩ => by
    have : ∃ a c, v = .slice a (chUpto x.was x.now 512).length c := by
      rcases e2.2 with ⟨h1, h0⟩ | ⟨g, cap, cur, hv, _⟩
      · exact ⟨none, 0, by rw [h1, h0]⟩
      · exact ⟨_, cap, hv⟩
    obtain ⟨a, c, rfl⟩ := this
    exact ⟨a, c, e1, e2, e3⟩)
  have c0 : w.cell? ⟨x.blk, 0, none⟩ = some (.bool x.fresh) := hr 0 _ rfl
  have HOK : Hid (SgOk 512 (chUpto x.was x.now 512)) := Lib.hid (chUpto_ok _ _ _)
  have HNW : Hid (∀ W, Below w.heap.size w W → W.rangeAt x.blk 513 (Lib.byteCells x.now)) := Lib.hid (fun W hb => Dr.range_now (HRW.out W hb) h1)
  unfold drPts
  obtain ⟨L, hL⟩ : ∃ L, L = chUpto x.was x.now 512 := ⟨_, rfl⟩
  rw [← hL] at HCH HOK ⊢
  obtain ⟨blk, fr, was, now⟩ := x
  simp only [Dr.ptr] at *
  have H2 := Lib.hid h2
  obtain ⟨n, hn⟩ : ∃ n, n = L.length := ⟨_, rfl⟩
  have HN := Lib.hid hn
  rw [← hn] at HCH
  have hn512 : n ≤ 512 := by rw [hn]; exact HOK.out.1
  clear hr h1 h2 hL hn HRW
  have hq9 : L.length ≤ 512 := HOK.out.1
  have HQ9 := Lib.hid hq9
  clear hq9
  obtain ⟨pre, hpre⟩ : ∃ pre, pre = freshPt q fr := ⟨_, rfl⟩
  have hprl : pre.length ≤ 1 := by rw [hpre]; cases fr <;> simp [freshPt]
  have HPL := Lib.hid hprl
  rw [← hpre]
  have HPRE := Lib.hid hpre
  clear hpre hprl
  cases fr
  case' false =>
    obtain ⟨v0, hv0⟩ : ∃ v0, v0 = Value.slice none 0 0 := ⟨_, rfl⟩
    obtain ⟨wa, hwa⟩ : ∃ wa, wa = w := ⟨_, rfl⟩
    have HP0 : Hid (PtsAt w.heap.size wa v0 pre) := Lib.hid (by rw [hv0, HPRE.out]; exact ⟨rfl, .inl ⟨rfl, rfl⟩⟩)
    have HB0 : Hid (Below w.heap.size w wa) := Lib.hid (by rw [hwa]; exact Below.refl _ _)
    have HPZ : Hid (0 = pre.length) := Lib.hid (by rw [HPRE.out]; rfl)
    have HV0 := Lib.hid hv0
    have HWA := Lib.hid hwa
    clear hv0 hwa
    go_enter Tryz.func55, Tryz.ntmps55
    go_wp2_with fail
    rw [← HWA.out]
  case' true =>
    obtain ⟨a6, c6, w6, hr6, ho6, hg6⟩ := append_pt1 (w.alloc (.cells #[.int .i64 q, .int .i64 0, .string ⟨#[]⟩] 128)) (.slice none 0 0) [] ⟨q, 0, ⟨#[]⟩⟩ ⟨w.heap.size, 0, none⟩ 1 ⟨rfl, .inl ⟨rfl, rfl⟩⟩ (fun j u hu => by
      have hg := heap_alloc_new w (.cells #[.int .i64 q, .int .i64 0, .string ⟨#[]⟩] 128)
      rw [add_lit', Nat.zero_add, Lib.cell_of_heap hg, List.getElem?_toArray]; exact hu) (by simp) 87
    have hb0 : Below w.heap.size w (w.alloc (.cells #[.int .i64 q, .int .i64 0, .string ⟨#[]⟩] 128)) := (Below.refl _ _).alloc (Nat.le_refl _) _
    have HP0 : Hid (PtsAt w.heap.size w6 (.slice a6 1 c6) pre) := Lib.hid (by
      rw [HPRE.out]
      rcases ho6.2 with h | ⟨g, cap, cur, hv, _, r⟩
      · exact ⟨ho6.1, .inl h⟩
      · refine ⟨ho6.1, .inr ⟨g, cap, cur, hv, ?_, r⟩⟩
        have := hg6.own (B := w.heap.size) (by simp) (fun k hk => by simp [Value.ownBlock] at hk) g (by rw [hv]; rfl)
        exact this)
    have HB0 : Hid (Below w.heap.size w w6) := Lib.hid (hb0.trans (hg6.below (by simp) (fun k hk => by simp [Value.ownBlock] at hk)))
    obtain ⟨v0, hv0⟩ : ∃ v0, v0 = Value.slice a6 1 c6 := ⟨_, rfl⟩
    obtain ⟨wa, hwa⟩ : ∃ wa, wa = w6 := ⟨_, rfl⟩
    rw [← hv0] at HP0
    rw [← hwa] at HP0 HB0
    have HPZ : Hid (1 = pre.length) := Lib.hid (by rw [HPRE.out]; rfl)
    have HV0 := Lib.hid hv0
    have HWA := Lib.hid hwa
    have HR6 : Hid ((Builtin.append_ #[87, 87] 87 #[.slice none 0 0, .slice (some ⟨w.heap.size, 0, none⟩) 1 1]).run Tryz.prog (w.alloc (.cells #[.int .i64 q, .int .i64 0, .string ⟨#[]⟩] 128)) = .ok (.slice a6 1 c6) w6) := Lib.hid hr6
    clear hv0 hwa hr6 ho6 hg6 hb0
    go_enter Tryz.func55, Tryz.ntmps55
    go_wp2_with (at_builtin; refine Lib.wpList_append_run _ rfl _ _ 87 87 rfl _ _ rfl rfl _ _ HR6.out ?_)
    rw [← HWA.out]
  all_goals
    refine (HCH.out _ HB0.out).mono ?_
    rintro e w2 ⟨a2, cc2, rfl, hsg, hb2⟩
    have HO0 : Hid (∀ k, v0.ownBlock = some k → w.heap.size ≤ k) := Lib.hid (fun k hk => (World.ownsRow.lt HP0.out k hk).1)
    have HSG : Hid (∀ W v, Grew w2 W v0 v → SgAt 0 W (.slice a2 n cc2) L) := Lib.hid (fun W v hg => by
      have h1 : w2.ownsRow 0 138 2 (.slice a2 n cc2) L.length (L.flatMap sgC) := Joins.ownsRow_le hsg (Nat.zero_le _)
      refine ownsRow_of_block h1 (fun k hk => hg.1.block k (World.ownsRow.lt h1 k hk).2 (fun e => ?_))
      have h2 := (World.ownsRow.lt HP0.out k e.symm).2
      have h3 := (World.ownsRow.lt hsg k hk).1
      omega)
    have HP2 : Hid (PtsAt 0 w2 v0 pre) := Lib.hid (Joins.ownsRow_le (ownsRow_below HP0.out hb2) (Nat.zero_le _))
    have HB2 : Hid (Below w.heap.size w w2) := Lib.hid (HB0.out.trans (hb2.mono HB0.out.size))
    clear hsg hb2
    go_wp2
    go_loopw [5, 20] (fun v i wr => ∃ (k m : Nat) (a : Option Addr) (c : Nat) (acc : List Pt), k ≤ n ∧ i = .int .i64 k ∧ v = .slice a m c ∧ Hid (m = acc.length ∧ acc = pre ++ (L.take k).map (sgPt q now)) ∧ Hid (PtsAt 0 wr (.slice a m c) acc) ∧ Hid (Grew w2 wr v0 (.slice a m c))) (fun _ i _ => n - (intOf i).toNat)
    case atStart => exact ⟨0, _, _, _, pre, by omega, rfl, rfl, Lib.hid ⟨HPZ.out, by simp⟩, Lib.hid (by rw [← HV0.out]; exact HP2.out), Lib.hid (by rw [← HV0.out]; exact Grew.refl _ _)⟩
    case round =>
      obtain ⟨k, m, a, c, acc, hk, rfl, rfl, hm, ho, hg⟩ := hrel
      by_cases hlt : k < n
      · have hlt' : k < L.length := by rw [← HN.out]; exact hlt
        have hkn : (k : Int) < n := by omega
        obtain ⟨g, rfl, -, hgl, -, e0, e1⟩ := (HSG.out wr _ hg.out).at hlt'
        obtain ⟨f, hf⟩ : ∃ f, f = L[k].1 := ⟨_, rfl⟩
        obtain ⟨t, ht⟩ : ∃ t, t = L[k].2 := ⟨_, rfl⟩
        have hft := HOK.out.2 L[k] (List.getElem_mem hlt')
        rw [← hf, ← ht] at hft
        rw [← hf] at e0
        rw [← ht] at e1
        obtain ⟨hft1, hft2⟩ := hft
        have hBr : Below w.heap.size w wr := HB2.out.trans (hg.out.below HB2.out.size HO0.out)
        have hb1 : Below wr.heap.size wr ((wr.alloc (.cells #[.int .i64 f, .int .i64 t] 138)).drew) := ((Below.refl _ wr).alloc (Nat.le_refl _) _).drew
        have hsl := fun W => run_slicePart W blk 513 f t hft1 hft2
        have hcv := Dr.string_part (c := 512 - f) (HNW.out _ (hBr.trans (hb1.mono hBr.size))) H2.out hft1 hft2
        obtain ⟨S, hS⟩ : ∃ S : ByteArray, S = ⟨((now.drop f).take (t - f)).toArray⟩ := ⟨_, rfl⟩
        have hptk : sgPt q now L[k] = ⟨q, f, S⟩ := by rw [hS, hf, ht]; rfl
        obtain ⟨cn, hcn⟩ : ∃ cn, cn = wr.heap.size := ⟨_, rfl⟩
        obtain ⟨W0, hW0⟩ : ∃ W0, W0 = (wr.alloc (.cells #[.int .i64 f, .int .i64 t] 138)).drew := ⟨_, rfl⟩
        have hb1 : Below wr.heap.size wr W0 := by rw [hW0]; exact ((Below.refl _ wr).alloc (Nat.le_refl _) _).drew
        have hgc : W0.heap[cn]? = some (.cells #[.int .i64 f, .int .i64 t] 138 (0, 0)) := by rw [hW0, hcn]; exact heap_alloc_new wr _
        have hz0 : W0.heap.size = cn + 1 := by rw [hW0, hcn]; simp
        have hblk : blk < wr.heap.size := Nat.lt_of_lt_of_le HLT.out hBr.size
        have hnw0 : W0.rangeAt blk 513 (Lib.byteCells now) := HNW.out _ (hBr.trans (hb1.mono hBr.size))
        obtain ⟨W1, hW1⟩ : ∃ W1, W1 = W0.alloc (.cells #[.int .i64 q, .int .i64 f, .string S] 128) := ⟨_, rfl⟩
        have hb2 : Below W0.heap.size W0 W1 := by rw [hW1]; exact (Below.refl _ W0).alloc (Nat.le_refl _) _
        have hb3 : Below wr.heap.size wr W1 := hb1.trans (hb2.mono hb1.size)
        have hcap : acc.length < 4194304 := by
          rw [hm.out.2, List.length_append, List.length_map, List.length_take]
          have h1 := HPL.out; have h2 := HQ9.out
          omega
        obtain ⟨a6, c6, w6, hr6, ho6, hg6⟩ := append_pt1 W1 (.slice a m c) acc ⟨q, f, S⟩ ⟨cn + 1, 0, none⟩ 1 (Joins.ownsRow_le (ownsRow_below ho.out hb3) (Nat.zero_le _)) (fun j u hu => by
          have hg := heap_alloc_new W0 (.cells #[.int .i64 q, .int .i64 f, .string S] 128)
          rw [hz0] at hg
          have h2 := Lib.cell_of_heap (w := W1) (by rw [hW1]; exact hg) (0 + j)
          rw [add_lit', h2, Nat.zero_add, List.getElem?_toArray]; exact hu) hcap 87
        have hown : ∀ k, (Value.slice a m c).ownBlock = some k → w.heap.size ≤ k ∧ k < wr.heap.size := fun k hk => ⟨hg.out.own HB2.out.size HO0.out k hk, (World.ownsRow.lt ho.out k hk).2⟩
        have hkeep : ∀ k, k < W1.heap.size → (k = cn ∨ k = blk) → w6.heap[k]? = W1.heap[k]? := fun k hk hkk => hg6.1.block k hk (fun e => by
          have h1 := hown k e.symm
          have h2 := HLT.out
          rcases hkk with h | h <;> omega)
        have hS0 : W0.heap[cn]? = some (.cells #[.int .i64 f, .int .i64 t] 138 (0, 0)) ∧ W0.rangeAt blk 513 (Lib.byteCells now) := ⟨hgc, hnw0⟩
        have hlc : cn < W1.heap.size ∧ blk < W1.heap.size := by have := hb2.size; omega
        have hS1 : W1.heap[cn]? = some (.cells #[.int .i64 f, .int .i64 t] 138 (0, 0)) ∧ W1.rangeAt blk 513 (Lib.byteCells now) := ⟨(hb2.block cn (by omega)).trans hgc, fun j v hv => (World.cell?_of_block (hb2.block blk (by omega))).trans (hnw0 j v hv)⟩
        have hS6 : w6.heap[cn]? = some (.cells #[.int .i64 f, .int .i64 t] 138 (0, 0)) ∧ w6.rangeAt blk 513 (Lib.byteCells now) := ⟨(hkeep cn hlc.1 (.inl rfl)).trans hS1.1, fun j v hv => (World.cell?_of_block (hkeep blk hlc.2 (.inr rfl))).trans (hS1.2 j v hv)⟩
        rw [← hm.out.1] at hr6 ho6 hg6
        have HR6 := Lib.hid hr6
        have HO6 := Lib.hid ho6
        have HG6 : Hid (Grew w2 w6 v0 (.slice a6 (m + 1) c6)) := Lib.hid ((hg.out.trans (Grew.ofBelow hb3 _)).trans hg6)
        have HM6 : Hid (m + 1 = (acc ++ [(⟨q, f, S⟩ : Pt)]).length ∧ acc ++ [(⟨q, f, S⟩ : Pt)] = pre ++ (L.take (k + 1)).map (sgPt q now)) := Lib.hid ⟨by rw [List.length_append, ← hm.out.1]; rfl, by
          rw [List.take_succ_eq_append_getElem hlt', List.map_append, ← List.append_assoc, ← hm.out.2, List.map_cons, List.map_nil, hptk]⟩
        have hf0 : (0 : Int) ≤ f := by omega
        have HCV : Hid (∀ W : World, (W.heap[cn]? = some (.cells #[.int .i64 f, .int .i64 t] 138 (0, 0)) ∧ W.rangeAt blk 513 (Lib.byteCells now)) → (convert 74 9 (.slice (some ⟨blk, 513 + f, none⟩) (t - f) (512 - f))).run Tryz.prog W = .ok (.string S) W) := Lib.hid (fun W hW => by rw [hS]; exact Dr.string_part hW.2 H2.out hft1 hft2)
        have HL0 : Hid (∀ W : World, (W.heap[cn]? = some (.cells #[.int .i64 f, .int .i64 t] 138 (0, 0)) ∧ W.rangeAt blk 513 (Lib.byteCells now)) → W.cell? ⟨cn, 0, none⟩ = some (.int .i64 f) ∧ W.cell? ⟨cn, 1, none⟩ = some (.int .i64 t)) := Lib.hid (fun W hW => ⟨by rw [Lib.cell_of_heap hW.1]; rfl, by rw [Lib.cell_of_heap hW.1]; rfl⟩)
        have HSL : Hid (∀ W : World, (Instr.sliceAt 81 (.pointer (some ⟨blk, 513, none⟩)) (some (.int .i64 f)) (some (.int .i64 t)) none).run Tryz.prog W = .ok (.slice (some ⟨blk, 513 + f, none⟩) (t - f) (512 - f)) W) := Lib.hid (fun W => run_slicePart W blk 513 f t hft1 hft2)
        have HS0 := Lib.hid hS0; have HS1 := Lib.hid hS1; have HS6 := Lib.hid hS6
        have HW0 := Lib.hid hW0; have HW1 := Lib.hid hW1; have HCN := Lib.hid hcn; have HZ0 := Lib.hid hz0
        clear hf ht hm ho hg hr6 ho6 hg6 hptk hS hBr hb1 hb2 hb3 hcap hlt' hown hkeep hS0 hS1 hS6 hlc hnw0 hgc hW0 hW1 hcn hz0 hblk
        go_wp2
        rw [← HCN.out]
        refine wp_region_held_drew (S := fun W => W.heap[cn]? = some (.cells #[.int .i64 f, .int .i64 t] 138 (0, 0)) ∧ W.rangeAt blk 513 (Lib.byteCells now)) (by kernel_rfl) (by rw [← HW0.out]; exact HS0.out) (fun hHeld => ?_)
        rw [← HW0.out]
        refine wpAnyH_take (i := 0) (v := .slice a m c) rfl (by kernel_rfl) (by kernel_rfl) (by kernel_rfl) (fun _ _ _ h => h) (Or.inl ⟨by rfl, fun W hW => by go_simp⟩) HS0.out ?_
        refine wpAnyH_take (i := 1) (v := .int .i64 q) rfl (by kernel_rfl) (by kernel_rfl) (by kernel_rfl) (fun _ _ _ h => h) (Or.inl ⟨by rfl, fun W hW => by go_simp⟩) HS0.out ?_
        refine wpAnyH_take (i := 2) (v := .pointer (some ⟨cn, 0, none⟩)) rfl (by kernel_rfl) (by kernel_rfl) (by kernel_rfl) (fun _ _ _ h => h) (Or.inl ⟨by rfl, fun W hW => by go_simp⟩) HS0.out ?_
        refine wpAnyH_take (i := 3) (v := .int .i64 f) rfl (by kernel_rfl) (by kernel_rfl) (by kernel_rfl) (fun _ _ _ h => h) (Or.inl ⟨by rfl, fun W hW => by obtain ⟨x0, x1⟩ := HL0.out W hW; clear hW; go_simp⟩) HS0.out ?_
        refine wpAnyH_take (i := 4) (v := .pointer (some ⟨blk, 0, none⟩)) rfl (by kernel_rfl) (by kernel_rfl) (by kernel_rfl) (fun _ _ _ h => h) (Or.inl ⟨by rfl, fun W hW => by go_simp⟩) HS0.out ?_
        refine wpAnyH_take (i := 5) (v := .pointer (some ⟨blk, 0, none⟩)) rfl (by kernel_rfl) (by kernel_rfl) (by kernel_rfl) (fun _ _ _ h => h) (Or.inl ⟨by rfl, fun W hW => by go_simp⟩) HS0.out ?_
        refine wpAnyH_take (i := 6) (v := .pointer (some ⟨blk, 513, none⟩)) rfl (by kernel_rfl) (by kernel_rfl) (by kernel_rfl) (fun _ _ _ h => h) (Or.inl ⟨by rfl, fun W hW => by go_simp⟩) HS0.out ?_
        refine wpAnyH_take (i := 7) (v := .pointer (some ⟨cn, 0, none⟩)) rfl (by kernel_rfl) (by kernel_rfl) (by kernel_rfl) (fun _ _ _ h => h) (Or.inl ⟨by rfl, fun W hW => by go_simp⟩) HS0.out ?_
        refine wpAnyH_take (i := 8) (v := .int .i64 f) rfl (by kernel_rfl) (by kernel_rfl) (by kernel_rfl) (fun _ _ _ h => h) (Or.inl ⟨by rfl, fun W hW => by obtain ⟨x0, x1⟩ := HL0.out W hW; clear hW; go_simp⟩) HS0.out ?_
        refine wpAnyH_take (i := 9) (v := .pointer (some ⟨cn, 1, none⟩)) rfl (by kernel_rfl) (by kernel_rfl) (by kernel_rfl) (fun _ _ _ h => h) (Or.inl ⟨by rfl, fun W hW => by go_simp⟩) HS0.out ?_
        refine wpAnyH_take (i := 10) (v := .int .i64 t) rfl (by kernel_rfl) (by kernel_rfl) (by kernel_rfl) (fun _ _ _ h => h) (Or.inl ⟨by rfl, fun W hW => by obtain ⟨x0, x1⟩ := HL0.out W hW; clear hW; go_simp⟩) HS0.out ?_
        refine wpAnyH_take (i := 11) (v := .slice (some ⟨blk, 513 + f, none⟩) (t - f) (512 - f)) rfl (by kernel_rfl) (by kernel_rfl) (by kernel_rfl) (fun _ _ _ h => h) (Or.inl ⟨by rfl, fun W hW => by have hh := HSL.out W; clear hW; go_simp⟩) HS0.out ?_
        refine wpAnyH_take (i := 12) (v := .string S) rfl (by kernel_rfl) (by kernel_rfl) (by kernel_rfl) (fun _ _ _ h => h) (Or.inl ⟨by rfl, fun W hW => by have hh := HCV.out W hW; clear hW; go_simp⟩) HS0.out ?_
        refine wpAnyH_take (i := 13) (v := .agg #[.int .i64 q, .int .i64 f, .string S]) rfl (by kernel_rfl) (by kernel_rfl) (by kernel_rfl) (fun _ _ _ h => h) (Or.inl ⟨by rfl, fun W hW => by clear hW; go_simp⟩) HS0.out ?_
        refine wpAnyH_ready (rs := [14]) (by kernel_rfl) (by simp) ?_
        refine AllReadyH.cons rfl (fun K hK => ?_) AllReadyH.nil
        go_simp
        rw [HZ0.out, ← HW1.out]
        refine hK.out _ _ HS1.out (fun hHeld2 => ?_)
        clear hK K
        refine wpAnyH_ready (rs := [15]) (by kernel_rfl) (by simp) ?_
        refine AllReadyH.cons rfl (fun K hK => ?_) AllReadyH.nil
        refine step_app_run rfl _ _ 87 rfl _ _ _ (by rfl) (by rfl) HR6.out ?_
        refine hK.out _ _ HS6.out (fun hHeld3 => ?_)
        clear hK K
        refine wpAnyH_take (i := 16) (v := .slice a6 (m + 1) c6) rfl (by kernel_rfl) (by kernel_rfl) (by kernel_rfl) (fun _ _ _ h => h) (Or.inl ⟨by rfl, fun W hW => by clear hW; go_simp⟩) HS6.out ?_
        refine wpAnyH_done (by kernel_rfl) ?_ _
        clear hHeld hHeld2 hHeld3
        go_wp2
        go_roundw
        case rel =>
          exact ⟨k + 1, m + 1, a6, c6, _, by omega, by simp, rfl, HM6, HO6, HG6⟩
        case measure => simp [intOf]; omega
      · have hkn : k = n := by omega
        subst hkn
        have hacc : acc = pre ++ L.map (sgPt q now) := by rw [hm.out.2, List.take_of_length_le (by rw [← HN.out]; exact Nat.le_refl _)]
        have HE : Hid (PtsAt w.heap.size wr (.slice a m c) (pre ++ L.map (sgPt q now)) ∧ Below w.heap.size w wr) := Lib.hid ⟨by
          rw [← hacc]
          rcases ho.out.2 with h | ⟨g, cap, cur, hv, _, r⟩
          · exact ⟨ho.out.1, .inl h⟩
          · exact ⟨ho.out.1, .inr ⟨g, cap, cur, hv, hg.out.own HB2.out.size HO0.out g (by rw [hv]; rfl), r⟩⟩, HB2.out.trans (hg.out.below HB2.out.size HO0.out)⟩
        clear hacc hm ho hg
        go_wp2
        go_ret
        exact ⟨_, rfl, HE.out.1, HE.out.2⟩
end Go.Proofs.YtgboeolnojpehaaGreatDoor

/- The pages that have a draft, rising: slices.Sorted over maps.Keys. -/
set_option maxRecDepth 100000
namespace Go.Proofs.YtgboeolnojpehaaGreatDoor
open Go.RowKit Go.Maps Go.Sort Go.Shelf

/-- A rising list of the pages that have a draft. -/
def KeysOf (D : Nat → Option Dr) (ks : List Nat) : Prop := ks.Pairwise (fun x y => x < y) ∧ ∀ q, q ∈ ks ↔ (D q).isSome = true

theorem intKeys_spec {w : World} {b n : Nat} {D0 : DataW Value} {R : Value → Option (DataW Value × List MemPlace)} (hown : w.ownsMap Tryz.prog 3 R b n D0) :
    (intKeys D0).Nodup ∧ (∀ x, x ∈ intKeys D0 ↔ Maps.has D0 (.int .i64 x) = true) ∧ (intKeys D0).length = Maps.size D0 := by
  obtain ⟨es, hD, hpw, _⟩ := hown.entries keyI
  obtain ⟨es', hD', hko⟩ := hown.keysOf
  obtain rfl : es = es' := by rw [hD] at hD'; simpa using hD'
  subst hD
  have hk : ∀ p ∈ es, ∃ x, p.1 = .int .i64 x := fun p hp => by
    obtain ⟨v, hv⟩ := hko p hp
    obtain ⟨x, _, hx, _⟩ := Maps.keyOf_i64 Tryz.underlying3 hv
    exact ⟨x, hx⟩
  refine ⟨?_, fun x => ?_, by simp [intKeys, Maps.size]⟩
  · show (es.map fun p => Go.intOf p.1).Nodup
    refine List.pairwise_map.2 (hpw.imp_of_mem fun {p q} hp hq hne e => hne ?_)
    obtain ⟨a, ha⟩ := hk p hp
    obtain ⟨c, hc⟩ := hk q hq
    rw [ha, hc] at e ⊢
    exact congrArg _ e
  · show x ∈ es.map (fun p => Go.intOf p.1) ↔ _
    rw [List.mem_map, has_eq, List.any_eq_true]
    refine ⟨fun ⟨p, hp, hx⟩ => ⟨p, hp, ?_⟩, fun ⟨p, hp, hx⟩ => ⟨p, hp, ?_⟩⟩
    · obtain ⟨a, ha⟩ := hk p hp
      rw [ha] at hx ⊢
      subst hx
      simp [Lit.sameKey, Go.intOf]
    · obtain ⟨a, ha⟩ := hk p hp
      rw [ha] at hx ⊢
      simpa [Lit.sameKey, Go.intOf] using hx

theorem rising_le (N : Nat) : ∀ (l : List Nat) (lo : Nat), l.Pairwise (fun x y => x < y) → (∀ x ∈ l, lo ≤ x ∧ x < N) → l = [] ∨ l.length + lo ≤ N
  | [], _, _, _ => .inl rfl
  | a :: r, lo, hp, hb => by
    have ha := hb a (by simp)
    obtain ⟨h1, h2⟩ := List.pairwise_cons.1 hp
    rcases rising_le N r (a + 1) h2 (fun x hx => ⟨h1 x hx, (hb x (by simp [hx])).2⟩) with rfl | h
    · exact .inr (by simp; omega)
    · exact .inr (by simp; omega)

/-- Out of the map's keys, in whatever order. -/
theorem DraftsAt.keys {w : World} {db m : Nat} {D : Nat → Option Dr} (h : DraftsAt w db m D) :
    ∃ D0 : DataW Value, w.ownsMap Tryz.prog 3 asIs db m D0 ∧ Maps.size D0 = m ∧ ∀ ss : List Int, ss.Perm (intKeys D0) → ∃ ks : List Nat, KeysOf D ks ∧ ks.length = ss.length ∧ (ss.mergeSort (fun x y => decide (x ≤ y))).map encZ = ks.map fun k : Nat => Value.int .i64 (k : Int) := by
  obtain ⟨F, ⟨D0, h1, h2, h3⟩, h4, h5⟩ := h.map
  refine ⟨D0, h1, h2, fun ss hp => ?_⟩
  obtain ⟨hnd, hmem, _⟩ := intKeys_spec h1
  have hwf := intKeys_wf h1 Tryz.underlying3
  obtain ⟨zs, hzs⟩ : ∃ zs, zs = ss.mergeSort (fun x y => decide (x ≤ y)) := ⟨_, rfl⟩
  have hpz : zs.Perm (intKeys D0) := by rw [hzs]; exact (List.mergeSort_perm ss _).trans hp
  have hkey : ∀ z, z ∈ zs ↔ ∃ n : Nat, (n : Int) = z ∧ (D n).isSome = true := fun z => by
    rw [hpz.mem_iff]
    constructor
    · intro hz
      rcases h3 z (hwf z hz) with ⟨_, e⟩ | ⟨v, e, _⟩
      · rw [(hmem z).1 hz] at e; cases e
      · obtain ⟨n, x, hn, hx, _⟩ := h5 z v e
        exact ⟨n, hn, by rw [hx]; rfl⟩
    · rintro ⟨n, rfl, hn⟩
      obtain ⟨x, hx⟩ := Option.isSome_iff_exists.1 hn
      rw [hmem]
      rcases h3 n (WalkArith.wf_i64 (by have := (h.at_ n x hx).1; omega)) with ⟨e, _⟩ | ⟨v, _, e, _⟩
      · rw [h4 n x hx] at e; cases e
      · exact e
  have hsorted : zs.Pairwise (fun x y => x < y) := by
    have tr : ∀ a b c : Int, decide (a ≤ b) = true → decide (b ≤ c) = true → decide (a ≤ c) = true := fun a b c x y => by simp only [decide_eq_true_eq] at *; omega
    have tot : ∀ a b : Int, (decide (a ≤ b) || decide (b ≤ a)) = true := fun a b => by simp only [Bool.or_eq_true, decide_eq_true_eq]; omega
    have hle := List.pairwise_mergeSort tr tot ss
    rw [← hzs] at hle
    have hne : zs.Nodup := hpz.nodup_iff.2 hnd
    refine (hle.and hne).imp (fun {a b} ⟨x, y⟩ => ?_)
    have := of_decide_eq_true x
    omega
  have hlen : zs.length = ss.length := by rw [hzs]; exact List.length_mergeSort ss
  rw [← hzs]
  refine ⟨zs.map Int.toNat, ⟨?_, fun q => ?_⟩, by rw [List.length_map, hlen], ?_⟩
  · refine List.pairwise_map.2 (hsorted.imp_of_mem fun {a b} ha hb hab => ?_)
    obtain ⟨n, hn, _⟩ := (hkey a).1 ha
    obtain ⟨k, hk, _⟩ := (hkey b).1 hb
    omega
  · rw [List.mem_map]
    constructor
    · rintro ⟨z, hz, rfl⟩
      obtain ⟨n, rfl, hn⟩ := (hkey z).1 hz
      simpa using hn
    · intro hq
      exact ⟨q, (hkey q).2 ⟨q, rfl, hq⟩, by simp⟩
  · rw [List.map_map]
    refine List.map_congr_left fun z hz => ?_
    obtain ⟨n, rfl, _⟩ := (hkey z).1 hz
    simp [encZ]

theorem KeysOf.le {w : World} {db m : Nat} {D : Nat → Option Dr} (h : DraftsAt w db m D) {ks : List Nat} (hk : KeysOf D ks) : ks.length ≤ 4096 := by
  rcases rising_le 4096 ks 0 hk.1 (fun x hx => ⟨by omega, by
    obtain ⟨y, hy⟩ := Option.isSome_iff_exists.1 ((hk.2 x).1 hx)
    exact (h.at_ x y hy).1⟩) with rfl | h
  · simp
  · omega
/-- There are no more drafts than pages. -/
theorem DraftsAt.few {w : World} {db m : Nat} {D : Nat → Option Dr} (h : DraftsAt w db m D) : m ≤ 4096 := by
  obtain ⟨D0, h1, h2, h3⟩ := h.keys
  obtain ⟨ks, hk, hl, _⟩ := h3 _ (List.Perm.refl _)
  have := (intKeys_spec h1).2.2
  have := KeysOf.le h hk
  omega

theorem sortsA (m : Nat) : AnyZI.SortsIn Tryz.prog Tryz.sortedA_ren Fence.wide m :=
  ⟨fun blk off cap ss W hH hblk hsz => callsIn_wide.2 (Tryz.slices_Sort_int blk off cap ss W hH hblk hsz), fun p cap W => callsIn_wide.2 (Tryz.slices_Sort_int_none p cap W)⟩

theorem keys_call (db : Nat) (W : World) : Calls Tryz.prog 54 #[.map (some db)] W fun e w' => e = .returned (.func (.func 76) #[] #[.pointer (some ⟨W.heap.size, 0, none⟩)]) ∧ w' = W.alloc (.cells #[.map (some db)] 38) :=
  callsIn_wide.1 (AnyZI.keys_in Tryz.keysA Fence.wide 5 trivial rfl (some db) W)

theorem sorted_call {w : World} {db m : Nat} {D : Nat → Option Dr} (h : DraftsAt w db m D) :
    Calls Tryz.prog 53 #[.func (.func 76) #[] #[.pointer (some ⟨w.heap.size, 0, none⟩)]] (w.alloc (.cells #[.map (some db)] 38)) fun e w' => ∃ (v : Value) (ks : List Nat), e = .returned v ∧ KeysOf D ks ∧
      w'.ownsRow w.heap.size 3 1 v ks.length (ks.map fun k : Nat => Value.int .i64 (k : Int)) ∧ Below w.heap.size w w' := by
  obtain ⟨D0, hown, hsz, hkeys⟩ := h.keys
  have hm := h.few
  have hbl := hown.lt
  have hseq : SeqGives Fence.wide 2 Tryz.prog 76 #[.pointer (some ⟨w.heap.size, 0, none⟩)] encZ (fun ss => ss.Perm (intKeys D0)) (Maps.size D0) (w.alloc (.cells #[.map (some db)] 38)) :=
    AnyZI.keys_gives (ρ := Tryz.keysA_ren) { Tryz.keysA with } Fence.wide _ trivial rfl (by omega) w.heap.size db m D0 _ (by simp) (by simp) (by
      obtain ⟨es, clock, hb, Ft, hs, hD⟩ := hown
      exact ⟨es, clock, (Below.heap_alloc _ _ db hbl).trans hb, Ft, hs, hD⟩)
  have cS := AnyZI.sorted_in Tryz.sortedA Fence.wide 5 trivial trivial trivial trivial rfl (by omega) (sortsA _) (enters_of Tryz.func64 (by kernel_rfl) rfl) 76 #[.pointer (some ⟨w.heap.size, 0, none⟩)] trivial (enters_of Tryz.func76 (by kernel_rfl) rfl) _ _ (by unfold maxLen; omega) (by omega) _ hseq
  refine (callsIn_wide.1 cS).mono fun e w' ⟨v, ss, h1, h2, h3, _, h5⟩ => ?_
  obtain ⟨ks, hk, hl, hr⟩ := hkeys ss h2
  refine ⟨v, ks, h1, hk, ?_, ((Below.refl _ w).alloc (Nat.le_refl _) _).trans (h5.mono (by simp))⟩
  rw [hl, ← hr]
  exact Joins.ownsRow_le h3 (by simp)
end Go.Proofs.YtgboeolnojpehaaGreatDoor

/- Action.patches: what leads from the pages, as the last finished action left them, to the drafts. -/
set_option maxRecDepth 100000
namespace Go.Proofs.YtgboeolnojpehaaGreatDoor
open Go.RowKit

def drPtsO (q : Nat) : Option Dr → List Pt
  | some x => drPts q x
  | none => []
def allPts (D : Nat → Option Dr) (ks : List Nat) : List Pt := ks.flatMap fun q => drPtsO q (D q)
theorem drPts_len (q : Nat) (x : Dr) : (drPts q x).length ≤ 513 := by
  have h1 : (freshPt q x.fresh).length ≤ 1 := by unfold freshPt; split <;> simp
  have h2 := (chUpto_ok x.was x.now 512).1
  rw [drPts, List.length_append, List.length_map]
  omega
theorem allPts_len (D : Nat → Option Dr) (ks : List Nat) : (allPts D ks).length ≤ 513 * ks.length := by
  induction ks with
  | nil => simp [allPts]
  | cons k r ih =>
    have h : (drPtsO k (D k)).length ≤ 513 := by
      cases h : D k with
      | none => simp [drPtsO]
      | some x => exact drPts_len k x
    unfold allPts at ih ⊢
    rw [List.flatMap_cons, List.length_append, List.length_cons]
    omega

set_option maxHeartbeats 3200000 in
theorem apatches_any (a s db m : Nat) (h : Hd) (D : Nat → Option Dr) (w : World) (x : ActAt w a s h (.map (some db))) (y : DraftsAt w db m D) :
    Calls Tryz.prog 33 #[.pointer (some ⟨a, 0, none⟩)] w fun e w' => ∃ v ks, e = .returned v ∧ KeysOf D ks ∧ PtsAt w.heap.size w' v (allPts D ks) ∧ Below w.heap.size w w' := by
  have c83 := x.dr
  have HX := Lib.hid x
  have HY := Lib.hid y
  have HKC := Lib.hid (keys_call db w)
  have HSC := Lib.hid (sorted_call y)
  clear x y
  go_enter Tryz.func33, Tryz.ntmps33
  go_wp2_with fail
  refine HKC.out.mono ?_
  rintro e w' ⟨rfl, hw⟩
  subst w'
  go_wp2_with fail
  refine HSC.out.mono ?_
  rintro e w2 ⟨v2, ks, rfl, hks, hrow, hb2⟩
  obtain ⟨n, hn⟩ : ∃ n, n = ks.length := ⟨_, rfl⟩
  have hn4 : n ≤ 4096 := by rw [hn]; exact hks.le HY.out
  obtain ⟨a2, cc2, rfl⟩ : ∃ a c, v2 = .slice a n c := by
    rcases hrow.2 with ⟨h1, h0⟩ | ⟨g, cap, cur, hv, _⟩
    · exact ⟨none, 0, by rw [h1, hn, h0]⟩
    · exact ⟨_, cap, by rw [hv, hn]⟩
  have HKS := Lib.hid hks; have HROW := Lib.hid hrow; have HB2 := Lib.hid hb2; have HN := Lib.hid hn
  clear hks hrow hb2 hn c83
  go_wp2
  go_loopw [3, 13] (fun v i wr => ∃ (k m' : Nat) (al : Option Addr) (c : Nat) (acc : List Pt), k ≤ n ∧ i = .int .i64 k ∧ v = .slice al m' c ∧ Hid (m' = acc.length ∧ acc = allPts D (ks.take k)) ∧ Hid (PtsAt w2.heap.size wr (.slice al m' c) acc) ∧ Hid (Below w2.heap.size w2 wr)) (fun _ i _ => n - (intOf i).toNat)
  case atStart => exact ⟨0, 0, none, 0, [], by omega, rfl, rfl, Lib.hid ⟨rfl, rfl⟩, Lib.hid ⟨rfl, .inl ⟨rfl, rfl⟩⟩, Lib.hid (Below.refl _ _)⟩
  case round =>
    obtain ⟨k, m', al, c, acc, hk, rfl, rfl, hm, ho, hb⟩ := hrel
    by_cases hlt : k < n
    · have hlt' : k < ks.length := by rw [← HN.out]; exact hlt
      have hkn : (k : Int) < n := by omega
      obtain ⟨g, hg, hBg, hgl⟩ : ∃ g, a2 = some ⟨g, 0, none⟩ ∧ w.heap.size ≤ g ∧ g < w2.heap.size := by
        rcases HROW.out.2 with ⟨h1, h0⟩ | ⟨g, cap, cur, hv, hB, hg, _⟩
        · omega
        · injection hv with hv _ _
          exact ⟨g, hv, hB, (Array.getElem?_eq_some_iff.1 hg).1⟩
      subst hg
      obtain ⟨q, hq⟩ : ∃ q, q = ks[k] := ⟨_, rfl⟩
      have e0 : wr.cell? ⟨g, k, none⟩ = some (.int .i64 q) := by
        have := HROW.out.cells (g := g) rfl k (.int .i64 (q : Int)) (by rw [List.getElem?_map, List.getElem?_eq_getElem hlt', ← hq]; rfl)
        rw [add_lit', Nat.zero_add] at this
        exact (World.cell?_of_block (hb.out.block g hgl)).trans this
      have hqm : q ∈ ks := by rw [hq]; exact List.getElem_mem hlt'
      obtain ⟨x, hx⟩ := Option.isSome_iff_exists.1 ((HKS.out.2 q).1 hqm)
      have hBr : Below w.heap.size w wr := HB2.out.trans (hb.out.mono HB2.out.size)
      have hyr := HY.out.below hBr
      have hlk := hyr.look hx
      obtain ⟨_, x1, _, x2, x3, _, _⟩ := hyr.at_ q x hx
      have HDP : Hid (Calls Tryz.prog 55 #[x.ptr, .int .i64 q] wr fun e w' => ∃ v, e = .returned v ∧ PtsAt wr.heap.size w' v (drPts q x) ∧ Below wr.heap.size wr w') := Lib.hid (dpatches_any q x wr x1 x2 x3)
      have c83 : wr.cell? ⟨a, 83, none⟩ = some (.map (some db)) := (HX.out.below hBr).dr
      have HSTEP : Hid (∀ w3 v3, PtsAt wr.heap.size w3 v3 (drPts q x) → Below wr.heap.size wr w3 → ∃ al' c' w4, (Builtin.append_ #[87, 87] 87 #[.slice al m' c, v3]).run Tryz.prog w3 = .ok (.slice al' (m' + (drPts q x).length) c') w4 ∧ PtsAt w2.heap.size w4 (.slice al' (m' + (drPts q x).length) c') (acc ++ drPts q x) ∧ Below w2.heap.size w2 w4) := Lib.hid (fun w3 v3 hp3 hb3 => by
        have hacc : acc.length + (drPts q x).length ≤ 4194304 := by
          rw [hm.out.2]
          have h1 := allPts_len D (ks.take k)
          have h2 := drPts_len q x
          have h3 : (ks.take k).length ≤ k := by rw [List.length_take]; omega
          have h4 := HN.out
          have h5 : k < 4096 := by omega
          omega
        obtain ⟨v4, w4, h1, h2, h3⟩ := append_ptsv w3 (.slice al m' c) v3 acc (drPts q x) wr.heap.size (Joins.ownsRow_le (ownsRow_below ho.out hb3) (Nat.zero_le _)) hp3 hacc 87
        have hown : ∀ j, (Value.slice al m' c).ownBlock = some j → w2.heap.size ≤ j := fun j hj => (World.ownsRow.lt ho.out j hj).1
        have hB3 : Below w2.heap.size w2 w3 := hb.out.trans (hb3.mono hb.out.size)
        have hsz3 : w2.heap.size ≤ w3.heap.size := hB3.size
        obtain ⟨a', c', hv⟩ := h2.shape
        rw [List.length_append, ← hm.out.1] at hv
        subst hv
        refine ⟨a', c', w4, h1, ?_, hB3.trans (h3.below hsz3 hown)⟩
        rcases h2.2 with h | ⟨g, cap, cur, hv, _, r⟩
        · exact ⟨h2.1, .inl h⟩
        · exact ⟨h2.1, .inr ⟨g, cap, cur, hv, h3.own hsz3 hown g (by rw [hv]; rfl), r⟩⟩)
      have HM' : Hid (m' + (drPts q x).length = (acc ++ drPts q x).length ∧ acc ++ drPts q x = allPts D (ks.take (k + 1))) := Lib.hid ⟨by rw [List.length_append, hm.out.1], by
        rw [List.take_succ_eq_append_getElem hlt', allPts, List.flatMap_append, hm.out.2]
        unfold allPts
        rw [← hq]
        simp [hx, drPtsO]⟩
      clear hlt' hq hqm hyr x1 x2 x3 hm ho hb hBr hgl hBg hx
      go_wp2_with fail
      refine HDP.out.mono ?_
      rintro e w3 ⟨v3, rfl, hp3, hb3⟩
      obtain ⟨al', c', w4, hr4, ho4, hb4⟩ := HSTEP.out w3 v3 hp3 hb3
      obtain ⟨m4, hm4⟩ : ∃ m4, m4 = m' + (drPts q x).length := ⟨_, rfl⟩
      rw [← hm4] at hr4 ho4
      have HR4 := Lib.hid hr4; have HO4 := Lib.hid ho4; have HB4 := Lib.hid hb4
      have HM4 : Hid (m4 = (acc ++ drPts q x).length ∧ acc ++ drPts q x = allPts D (ks.take (k + 1))) := Lib.hid (by rw [hm4]; exact HM'.out)
      clear hp3 hb3 hr4 ho4 hb4 hm4 c83 e0 hlk
      go_wp2_with (at_builtin; refine Lib.wpList_append_run _ rfl _ _ 87 87 rfl _ _ rfl rfl _ _ HR4.out ?_)
      go_roundw
      case rel => exact ⟨k + 1, m4, al', c', _, by omega, by simp, rfl, HM4, HO4, HB4⟩
      case measure => simp [intOf]; omega
    · have hkn : k = n := by omega
      subst hkn
      have hacc : acc = allPts D ks := by rw [hm.out.2, List.take_of_length_le (by rw [← HN.out]; exact Nat.le_refl _)]
      have HE : Hid (PtsAt w.heap.size wr (.slice al m' c) (allPts D ks) ∧ Below w.heap.size w wr) := Lib.hid ⟨by
        rw [← hacc]
        exact Joins.ownsRow_le ho.out HB2.out.size, HB2.out.trans (hb.out.mono HB2.out.size)⟩
      clear hacc hm ho hb
      go_wp2
      go_ret
      exact ⟨_, ks, rfl, HKS.out, HE.out.1, HE.out.2⟩
end Go.Proofs.YtgboeolnojpehaaGreatDoor

/- Commit of an action that has something to tell, where the log has room. -/
set_option maxRecDepth 100000
namespace Go.Proofs.YtgboeolnojpehaaGreatDoor
open Go.RowKit

def CommitPost (B : Nat) (S : Nat → Prop) (a s d l p n : Nat) (C : Nat → List UInt8) (P : Nat → Nat) (N : Nat) (rs : List ByteArray) (f2 : List UInt8) (h : Hd) (ps : List Pt) (w w' : World) : Prop :=
  ∃ S', Kept (fun k => S k ∨ k = s ∨ k = a) w w' ∧ (∀ k, k < w.heap.size → S' k → S k) ∧ PoolJ (JL (rs ++ [⟨(recB h ps).toArray⟩]) f2) B S' p d n (appC C ps) P (N + 1 + 3 * ps.length) w' ∧ SpaceAt w' s d l p h none ∧ ActAt w' a s h (.map none)

set_option maxHeartbeats 3200000 in
theorem acommit_some (B : Nat) (S : Nat → Prop) (a s d l p n db m : Nat) (C : Nat → List UInt8) (P : Nat → Nat) (N : Nat) (rs : List ByteArray) (f2 : List UInt8) (last h : Hd) (D : Nat → Option Dr) (ks : List Nat) (w : World)
    (x : ActSt w a s d l p db m last h D) (hs : ¬ S s) (ha : ¬ S a) (lg : LogOn l d w) (hl : ¬ S l) (hla : l ≠ a ∧ l ≠ s) (g : PoolJ (JL rs f2) B S p d n C P N w) (hks : KeysOf D ks) (hne : allPts D ks ≠ []) (hf : ∀ p ∈ allPts D ks, p.Fits) (hsz : (recB h (allPts D ks)).length ≤ 16777216)
    (hrs : Recs rs) (hc : appCode rs ⟨(recB h (allPts D ks)).toArray⟩ = 0) (hP : pinnedN P ≠ n) (hN : N + 1 + 3 * (allPts D ks).length ≤ 4398046511104) :
    Calls Tryz.prog 15 #[.pointer (some ⟨a, 0, none⟩)] w fun e w' => e = .returned (.int .i64 0) ∧ CommitPost B S a s d l p n C P N rs f2 h (allPts D ks) w w' := by
  obtain ⟨ps, hps⟩ : ∃ ps, ps = allPts D ks := ⟨_, rfl⟩
  rw [← hps] at hne hf hsz hc hN ⊢
  have HR := Lib.hid x.live
  unfold Refused at HR
  have hone : ∀ ks', KeysOf D ks' → ks' = ks := fun ks' hk' => List.Perm.eq_of_pairwise (le := fun a b => a < b) (fun a b _ _ h1 h2 => by omega) hk'.1 hks.1 ((List.perm_ext_iff_of_nodup (hk'.1.imp (fun h => by omega)) (hks.1.imp (fun h => by omega))).2 fun q => by rw [hk'.2, hks.2])
  have HAP : Hid (Calls Tryz.prog 33 #[.pointer (some ⟨a, 0, none⟩)] w fun e w' => ∃ al c, e = .returned (.slice al ps.length c) ∧ PtsAt w.heap.size w' (.slice al ps.length c) ps ∧ Below w.heap.size w w') := Lib.hid ((apatches_any a s db m h D w x.ac x.dr).mono fun e w' ⟨v, ks', h1, h2, h3, h4⟩ => by
    obtain rfl := hone ks' h2
    rw [← hps] at h3
    obtain ⟨al, c, rfl⟩ := h3.shape
    exact ⟨al, c, h1, h3, h4⟩)
  have HFIN : Hid (∀ w1 v, PtsAt w.heap.size w1 v ps → Below w.heap.size w w1 → Calls Tryz.prog 26 #[.pointer (some ⟨a, 0, none⟩)] w1 fun e w2 => e = .returned (.tuple #[]) ∧ Hid (∀ W, Below w2.heap.size w2 W →
      ((W.cell? ⟨a, 1, none⟩ = some (.pointer (some ⟨s, 1, none⟩)) ∧ W.rangeAt a 2 h.cells) ∧ Calls Tryz.prog 34 #[.pointer (some ⟨s, 1, none⟩), .agg h.cells.toArray, v] W fun e w' => e = .returned (.int .i64 0) ∧
        (w'.cell? ⟨a, 1, none⟩ = some (.pointer (some ⟨s, 1, none⟩)) ∧ w'.rangeAt a 2 h.cells) ∧ CommitPost B S a s d l p n C P N rs f2 h ps w w'))) := Lib.hid (fun w1 v hp1 hb1 => by
    have x1 := x.below hb1
    refine (end_any a s d l p h last _ (some a) w1 x1.ac x1.sp x1.ok x1.okl x1.ne.1).mono ?_
    rintro e w2 ⟨rfl, ha2, hs2, hk2⟩
    refine ⟨rfl, Lib.hid (fun W hbW => ?_)⟩
    have haW := ha2.below hbW
    have hsW := hs2.below hbW
    refine ⟨⟨haW.st, haW.hd⟩, ?_⟩
    have g1 := g.below hb1
    have hkw : Kept (fun k => k = s ∨ k = a) w1 W := hk2.trans (Kept.ofBelow (S := fun k => k = s ∨ k = a) hbW) (fun _ hi => .inl hi)
    have g2 : PoolJ (JL rs f2) B S p d n C P N W := g1.kept hkw (fun k _ hk => by
      rintro (rfl | rfl)
      · exact hs hk
      · exact ha hk)
    have lg2 : LogOn l d W := (lg.below hb1).kept hkw (by rintro (h | h); exact hla.2 h; exact hla.1 h)
    have hown : ∀ b, v.ownBlock = some b → w.heap.size ≤ b ∧ b < w1.heap.size := fun b hb => World.ownsRow.lt hp1 b hb
    have hlts := x.sp.lt
    have hlta := x.ac.lt
    have hpW : PtsAt w.heap.size W v ps := ownsRow_of_block hp1 (fun b hb => hkw.block b (hown b hb).2 (by have := (hown b hb).1; omega))
    have hltS : ∀ b, S b → b < w.heap.size := fun b hb => (g.low b hb).2
    have hszs : w.heap.size ≤ W.heap.size := Nat.le_trans hb1.size hkw.size
    refine (finish_ok B S s d l p n C P N rs f2 last h none v ps w.heap.size W hsW x.okl.len x.ok hs lg2 hl g2 hpW (fun b hb hS => by have := hltS b hS; have := (hown b hb).1; omega) hf hsz hrs hc hP hN).mono ?_
    rintro e w' ⟨rfl, S', h1, h2, h3, h4⟩
    have haw' : ActAt w' a s h (.map none) := haW.kept h1 (by rintro (hh | hh); exact ha hh; exact x.ne.1 hh)
    refine ⟨rfl, ⟨haw'.st, haw'.hd⟩, S', ?_, fun k hk hh => h2 k (by omega) hh, h3, h4, haw'⟩
    refine (((Kept.ofBelow (S := fun k => S k ∨ k = s ∨ k = a) hb1).trans (hkw.mono (T := fun k => S k ∨ k = s ∨ k = a) (fun k hk => .inr hk)) (fun _ hi => .inl hi)).trans (h1.mono (T := fun k => S k ∨ k = s ∨ k = a) (fun k hk => hk.imp id .inl)) (fun _ hi => .inl hi)))
  have hlen : ps.length ≠ 0 := fun h0 => hne (List.eq_nil_of_length_eq_zero h0)
  obtain ⟨ll, hll⟩ : ∃ ll, ll = ps.length := ⟨_, rfl⟩
  rw [← hll] at HAP hlen
  have hl0 : ((ll : Int) == 0) = false := by simp; omega
  have hl1 : decide ((ll : Int) = 0) = false := decide_eq_false (by omega)
  have hl2 : ¬ (ll : Int) = 0 := by omega
  obtain ⟨X, hX⟩ : ∃ X : List Value, X = h.cells := ⟨_, rfl⟩
  have HXL : Hid ((Tryz.prog.info? 37).map (·.size) = some X.length) := Lib.hid (by rw [hX, Hd.cells_length x.ok]; exact sizeHd)
  rw [← hX] at HFIN
  clear x hs ha lg hl hla g hks hne hf hsz hrs hc hP hN hone hll hX hps hlen
  go_enter Tryz.func15, Tryz.ntmps15
  go_wp2_with fail
  refine HR.out.mono ?_
  rintro e w' ⟨rfl, hw⟩
  subst w'
  go_wp2_with fail
  refine HAP.out.mono ?_
  rintro e w1 ⟨al, c, rfl, hp1, hb1⟩
  have HEN := Lib.hid (HFIN.out w1 _ hp1 hb1)
  clear hp1 hb1
  go_wp2_with fail
  refine HEN.out.mono ?_
  rintro e w2 ⟨rfl, HW⟩
  go_wp2
  go_quiet (fail)
  obtain ⟨W, hW⟩ : ∃ W, W = w2.drewN nq := ⟨_, rfl⟩
  rw [← hW]
  have hwb : Below w2.heap.size w2 W.drew := by rw [hW]; exact ⟨rfl, rfl, rfl, Nat.le_refl _, fun _ _ => rfl⟩
  obtain ⟨hS0, hcall⟩ := HW.out _ hwb
  have HS0 := Lib.hid hS0
  have HCA := Lib.hid hcall
  clear hW hwb hS0 hcall
  go_wp2
  refine wp_region_held_drew (S := fun W => W.cell? ⟨a, 1, none⟩ = some (.pointer (some ⟨s, 1, none⟩)) ∧ W.rangeAt a 2 X) (by kernel_rfl) HS0.out (fun hHeld => ?_)
  refine wpAnyH_take (i := 0) (v := .pointer (some ⟨a, 0, none⟩)) rfl (by kernel_rfl) (by kernel_rfl) (by kernel_rfl) (fun _ _ _ h => h) (Or.inl ⟨by rfl, fun W hW => by clear hW; go_simp⟩) HS0.out ?_
  refine wpAnyH_take (i := 1) (v := .pointer (some ⟨a, 0, none⟩)) rfl (by kernel_rfl) (by kernel_rfl) (by kernel_rfl) (fun _ _ _ h => h) (Or.inl ⟨by rfl, fun W hW => by clear hW; go_simp⟩) HS0.out ?_
  refine wpAnyH_take (i := 2) (v := .pointer (some ⟨a, 1, none⟩)) rfl (by kernel_rfl) (by kernel_rfl) (by kernel_rfl) (fun _ _ _ h => h) (Or.inl ⟨by rfl, fun W hW => by clear hW; go_simp⟩) HS0.out ?_
  refine wpAnyH_take (i := 3) (v := .pointer (some ⟨s, 1, none⟩)) rfl (by kernel_rfl) (by kernel_rfl) (by kernel_rfl) (fun _ _ _ h => h) (Or.inl ⟨by rfl, fun W hW => by have hh := hW.1; clear hW; go_simp⟩) HS0.out ?_
  refine wpAnyH_take (i := 4) (v := .pointer (some ⟨a, 0, none⟩)) rfl (by kernel_rfl) (by kernel_rfl) (by kernel_rfl) (fun _ _ _ h => h) (Or.inl ⟨by rfl, fun W hW => by clear hW; go_simp⟩) HS0.out ?_
  refine wpAnyH_take (i := 5) (v := .pointer (some ⟨a, 0, none⟩)) rfl (by kernel_rfl) (by kernel_rfl) (by kernel_rfl) (fun _ _ _ h => h) (Or.inl ⟨by rfl, fun W hW => by clear hW; go_simp⟩) HS0.out ?_
  refine wpAnyH_take (i := 6) (v := .pointer (some ⟨a, 2, none⟩)) rfl (by kernel_rfl) (by kernel_rfl) (by kernel_rfl) (fun _ _ _ h => h) (Or.inl ⟨by rfl, fun W hW => by clear hW; go_simp⟩) HS0.out ?_
  refine wpAnyH_take (i := 7) (v := .agg X.toArray) rfl (by kernel_rfl) (by kernel_rfl) (by kernel_rfl) (fun _ _ _ h => h) (yieldsIf_load_mid (by rfl) 37 _ rfl a 2 rfl X _ (fun W hW => hW.2) Tryz.underlying37 rfl HXL.out) HS0.out ?_
  refine wpAnyH_take (i := 8) (v := .slice al ll c) rfl (by kernel_rfl) (by kernel_rfl) (by kernel_rfl) (fun _ _ _ h => h) (Or.inl ⟨by rfl, fun W hW => by clear hW; go_simp⟩) HS0.out ?_
  refine wpAnyH_ready (rs := [9]) (by kernel_rfl) (by simp) ?_
  refine AllReadyH.cons rfl (fun K hK => ?_) AllReadyH.nil
  go_simp
  go_at_call 34
  refine HCA.out.mono ?_
  rintro e w4 ⟨rfl, hS4, hpost⟩
  have HPO := Lib.hid hpost
  clear hpost
  refine hK.out _ _ hS4 (fun hHeld2 => ?_)
  clear hK K
  refine wpAnyH_take (i := 10) (v := .int .i64 0) rfl (by kernel_rfl) (by kernel_rfl) (by kernel_rfl) (fun _ _ _ h => h) (Or.inl ⟨by rfl, fun W hW => by clear hW; go_simp⟩) hS4 ?_
  refine wpAnyH_done (by kernel_rfl) ?_ _
  clear hHeld hHeld2
  go_wp2
  go_ret
  exact ⟨rfl, HPO.out⟩
end Go.Proofs.YtgboeolnojpehaaGreatDoor

/- What a record's bytes tell is the head and the patches that they are of. -/
set_option maxRecDepth 100000
namespace Go.Proofs.YtgboeolnojpehaaGreatDoor
open Go.RowKit

theorem numB_succ (k n : Nat) : numB (k + 1) n = numB k (n / 256) ++ [UInt8.ofNat n] := by
  unfold numB
  rw [List.range_succ, List.map_append, List.map_cons, List.map_nil]
  congr 1
  · refine List.map_congr_left fun j hj => ?_
    have hj := List.mem_range.1 hj
    rw [Nat.div_div_eq_div_mul, show k + 1 - 1 - j = (k - 1 - j) + 1 by omega, Nat.pow_succ, Nat.mul_comm 256]
  · rw [show k + 1 - 1 - k = 0 by omega]; simp
theorem v4_numB : ∀ (k n : Nat), n < 256 ^ k → v4 (numB k n) = n
  | 0, n, h => by simp at h; subst h; rfl
  | k + 1, n, h => by
    rw [numB_succ, v4_snoc, v4_numB k (n / 256) (by rw [Nat.pow_succ] at h; omega), UInt8.toNat_ofNat']
    omega
theorem rTk_append (a l : List UInt8) (sh : Bool) (k : Nat) (h : a.length = k) : rTk (a ++ l) sh k = (a, l, sh) := by
  subst h
  unfold rTk
  rw [if_neg (by simp), List.take_left', List.drop_left'] <;> rfl
theorem rNum_numB (k n : Nat) (l : List UInt8) (sh : Bool) (h : n < 256 ^ k) : rNum (numB k n ++ l, sh) k = (n, (l, sh)) := by
  unfold rNum
  simp only
  rw [rTk_append _ _ _ _ (numB_length k n), v4_numB k n h]

/-- A head with roots set, one by one; with words. -/
def setRs (y : Hd) (f : Nat → Nat) : Nat → Hd
  | 0 => y
  | k + 1 => (setRs y f k).setRoot k (f k)
def setWs (y : Hd) (f : Nat → Nat) : Nat → Hd
  | 0 => y
  | k + 1 => (setWs y f k).setWord k (f k)
theorem rRoots_of (y : Hd) (f : Nat → Nat) (hf : ∀ i, f i < 2147483648) (sh : Bool) : ∀ (k : Nat) (l : List UInt8), rRoots k (y, (((List.range k).flatMap fun i => numB 4 (f i)) ++ l, sh)) = (setRs y f k, (l, sh))
  | 0, l => by simp [rRoots, setRs]
  | k + 1, l => by
    rw [flat_succ, List.append_assoc, rRoots, rRoots_of y f hf sh k, rNum_numB 4 (f k) l sh (by have := hf k; omega)]
    rfl
theorem rWords_of (y : Hd) (f : Nat → Nat) (hf : ∀ i, f i < 18446744073709551616) (sh : Bool) : ∀ (k : Nat) (l : List UInt8), rWords k (y, (((List.range k).flatMap fun i => numB 8 (f i)) ++ l, sh)) = (setWs y f k, (l, sh))
  | 0, l => by simp [rWords, setWs]
  | k + 1, l => by
    rw [flat_succ, List.append_assoc, rWords, rWords_of y f hf sh k, rNum_numB 8 (f k) l sh (by have := hf k; omega)]
    rfl
theorem setRs_count (y : Hd) (f : Nat → Nat) : ∀ k, (setRs y f k).count = y.count
  | 0 => rfl
  | k + 1 => setRs_count y f k
theorem setRs_free (y : Hd) (f : Nat → Nat) : ∀ k, (setRs y f k).free = y.free
  | 0 => rfl
  | k + 1 => setRs_free y f k
theorem setWs_count (y : Hd) (f : Nat → Nat) : ∀ k, (setWs y f k).count = y.count
  | 0 => rfl
  | k + 1 => setWs_count y f k
theorem setWs_roots (y : Hd) (f : Nat → Nat) : ∀ k, (setWs y f k).roots = y.roots
  | 0 => rfl
  | k + 1 => setWs_roots y f k
theorem setRs_get (y : Hd) (f : Nat → Nat) : ∀ k, (setRs y f k).roots.length = y.roots.length ∧ ∀ i, i < y.roots.length → (setRs y f k).roots[i]? = if i < k then some (f i) else y.roots[i]?
  | 0 => ⟨rfl, fun i _ => by simp [setRs]⟩
  | k + 1 => by
    obtain ⟨h1, h2⟩ := setRs_get y f k
    refine ⟨by simp [setRs, Hd.setRoot, h1], fun i hi => ?_⟩
    simp only [setRs, Hd.setRoot]
    by_cases hk : i = k
    · subst hk
      rw [List.getElem?_set_self (by omega), if_pos (by omega)]
    · rw [List.getElem?_set_ne (by omega), h2 i hi]
      by_cases h : i < k
      · rw [if_pos h, if_pos (by omega)]
      · rw [if_neg h, if_neg (by omega)]
theorem setWs_get (y : Hd) (f : Nat → Nat) : ∀ k, (setWs y f k).free.length = y.free.length ∧ ∀ i, i < y.free.length → (setWs y f k).free[i]? = if i < k then some (f i) else y.free[i]?
  | 0 => ⟨rfl, fun i _ => by simp [setWs]⟩
  | k + 1 => by
    obtain ⟨h1, h2⟩ := setWs_get y f k
    refine ⟨by simp [setWs, Hd.setWord, h1], fun i hi => ?_⟩
    simp only [setWs, Hd.setWord]
    by_cases hk : i = k
    · subst hk
      rw [List.getElem?_set_self (by omega), if_pos (by omega)]
    · rw [List.getElem?_set_ne (by omega), h2 i hi]
      by_cases h : i < k
      · rw [if_pos h, if_pos (by omega)]
      · rw [if_neg h, if_neg (by omega)]

/-- The words that tell of no page are noughts. -/
theorem Hd.Ok.word_zero {h : Hd} (k : h.Ok) {i : Nat} (hi : h.count / 64 < i) : h.word i = 0 := by
  refine Nat.eq_of_testBit_eq fun b => ?_
  rw [Nat.zero_testBit]
  by_cases hb : b < 64
  · cases hv : (h.word i).testBit b with
    | false => rfl
    | true =>
      have hf : h.isFree (64 * i + b) = true := by
        unfold Hd.isFree
        rw [show (64 * i + b) / 64 = i by omega, show (64 * i + b) % 64 = b by omega]
        exact hv
      have := (k.in_ _ hf).2
      omega
  · exact Nat.testBit_lt_two_pow (Nat.lt_of_lt_of_le (k.lt i) (by
      have : (2 : Nat) ^ 64 ≤ 2 ^ b := Nat.pow_le_pow_right (by omega) (by omega)
      omega))

theorem rHd_hdB (h : Hd) (k : h.Ok) (l : List UInt8) (sh : Bool) : rHd (hdB h ++ l, sh) = (h, (l, sh)) := by
  have hc := k.cnt
  have e1 : rNum (hdB h ++ l, sh) 2 = (h.count, (((List.range 16).flatMap fun i => numB 4 (h.root i)) ++ (((List.range (h.count / 64 + 1)).flatMap fun i => numB 8 (h.word i)) ++ l), sh)) := by
    unfold hdB
    rw [List.append_assoc, List.append_assoc, rNum_numB 2 h.count _ sh (by omega)]
  unfold rHd
  rw [e1]
  simp only
  rw [if_neg (by omega), rRoots_of _ h.root k.rt sh 16, rWords_of _ h.word k.lt sh]
  congr 1
  have hroots : (setRs (Hd.zero.setCount h.count) h.root 16).roots = h.roots := by
    refine List.ext_getElem? fun i => ?_
    obtain ⟨g1, g2⟩ := setRs_get (Hd.zero.setCount h.count) h.root 16
    have hl : (Hd.zero.setCount h.count).roots.length = 16 := rfl
    by_cases hi : i < 16
    · rw [g2 i (by omega), if_pos hi, Hd.root, List.getD_eq_getElem?_getD, List.getElem?_eq_getElem (by rw [k.nr]; exact hi)]
      rfl
    · rw [List.getElem?_eq_none (by omega), List.getElem?_eq_none (by rw [k.nr]; omega)]
  have hfree : (setWs (setRs (Hd.zero.setCount h.count) h.root 16) h.word (h.count / 64 + 1)).free = h.free := by
    refine List.ext_getElem? fun i => ?_
    obtain ⟨g1, g2⟩ := setWs_get (setRs (Hd.zero.setCount h.count) h.root 16) h.word (h.count / 64 + 1)
    have hl : (setRs (Hd.zero.setCount h.count) h.root 16).free = List.replicate 64 0 := by rw [setRs_free]; rfl
    rw [hl] at g1 g2
    simp only [List.length_replicate] at g1 g2
    by_cases hi : i < 64
    · have hw : h.free[i]? = some (h.word i) := by
        rw [Hd.word, List.getD_eq_getElem?_getD, List.getElem?_eq_getElem (by rw [k.nf]; exact hi)]; rfl
      rw [g2 i hi, hw]
      by_cases hs : i < h.count / 64 + 1
      · rw [if_pos hs]
      · rw [if_neg hs, k.word_zero (by omega), List.getElem?_replicate, if_pos hi]
    · rw [List.getElem?_eq_none (by omega), List.getElem?_eq_none (by rw [k.nf]; omega)]
  have hcount : (setWs (setRs (Hd.zero.setCount h.count) h.root 16) h.word (h.count / 64 + 1)).count = h.count := by rw [setWs_count, setRs_count]; rfl
  have hroots2 : (setWs (setRs (Hd.zero.setCount h.count) h.root 16) h.word (h.count / 64 + 1)).roots = h.roots := by rw [setWs_roots, hroots]
  obtain ⟨c, f, r⟩ := h
  generalize setWs (setRs (Hd.zero.setCount c) (Hd.root ⟨c, f, r⟩) 16) (Hd.word ⟨c, f, r⟩) (c / 64 + 1) = y at *
  obtain ⟨c', f', r'⟩ := y
  simp only at hfree hcount hroots2
  subst hfree hcount hroots2
  rfl

theorem rPt_ptB (p : Pt) (l : List UInt8) (sh : Bool) (h1 : p.page < 65536) (h2 : p.at_ < 65536) (h3 : p.s.size < 65536) : rPt (ptB p ++ l, sh) = ((p.page, p.at_, p.s.data.toList), (l, sh)) := by
  have e : ptB p ++ l = numB 2 p.page ++ (numB 2 p.at_ ++ (numB 2 p.s.size ++ (p.s.data.toList ++ l))) := by simp [ptB]
  unfold rPt
  rw [e, rNum_numB 2 p.page _ sh (by omega)]
  simp only
  rw [rNum_numB 2 p.at_ _ sh (by omega)]
  simp only
  rw [rNum_numB 2 p.s.size _ sh (by omega)]
  simp only
  rw [rTk_append _ _ _ _ (show p.s.data.toList.length = p.s.size from rfl)]
theorem ptB_length (p : Pt) : (ptB p).length = 6 + p.s.size := by
  have : p.s.data.toList.length = p.s.size := rfl
  simp only [ptB, List.length_append, numB_length, this]
theorem rPts_ptB (sh : Bool) : ∀ (ps : List Pt) (f : Nat), (ps.flatMap ptB).length ≤ f → (∀ p ∈ ps, p.page < 65536 ∧ p.at_ < 65536 ∧ p.s.size < 65536) → rPts f (ps.flatMap ptB, sh) = (ps, ([], sh))
  | [], f, _, _ => by cases f <;> simp [rPts]
  | p :: r, 0, hf, _ => by
    rw [List.flatMap_cons, List.length_append, ptB_length] at hf
    omega
  | p :: r, f + 1, hf, hp => by
    obtain ⟨h1, h2, h3⟩ := hp p (by simp)
    have hne : (p :: r).flatMap ptB ≠ [] := fun e => by
      have := congrArg List.length e
      rw [List.flatMap_cons, List.length_append, ptB_length] at this
      simp at this
    have hl : (r.flatMap ptB).length ≤ f := by
      rw [List.flatMap_cons, List.length_append, ptB_length] at hf
      omega
    unfold rPts
    rw [if_neg hne, List.flatMap_cons, rPt_ptB p _ sh h1 h2 h3]
    simp only
    rw [rPts_ptB sh r f hl (fun q hq => hp q (by simp [hq]))]

/-- A record tells what it is of. -/
theorem tells_rec (h : Hd) (k : h.Ok) (ps : List Pt) (hl : ps.length ≤ 4194304) (hf : ∀ p ∈ ps, p.Fits) : Tells ⟨(recB h ps).toArray⟩ (h, ps) := by
  have hp : ∀ p ∈ ps, p.page < 65536 ∧ p.at_ < 65536 ∧ p.s.size < 65536 := fun p hp => by
    obtain ⟨h1, h2⟩ := hf p hp
    have h3 : p.s.size ≤ 512 := by
      by_cases h0 : p.s.size = 0
      · omega
      · have : p.bytes = p.s.data.toList := by unfold Pt.bytes; rw [if_neg h0]
        rw [this] at h2
        have : p.s.data.toList.length = p.s.size := rfl
        omega
    omega
  refine ⟨(ps.flatMap ptB, false), ([], false), ?_, ?_, rfl, hl, hf⟩
  · show rHd (recB h ps, false) = _
    unfold recB
    exact rHd_hdB h k _ false
  · exact rPts_ptB false ps _ (Nat.le_refl _) hp
end Go.Proofs.YtgboeolnojpehaaGreatDoor

/- A space at rest and an action that goes on, each with all that they stand on; their calls leave all that is older than B. -/
set_option maxRecDepth 100000
namespace Go.Proofs.YtgboeolnojpehaaGreatDoor
open Go.RowKit

def P0 : Nat → Nat := fun _ => 0
theorem pinned0 {n : Nat} (h : 0 < n) : pinnedN P0 ≠ n := by rw [pinnedN_zero (P := P0) (fun _ => rfl)]; omega
/-- J is closed under saved pages. -/
def Saves (J : List RawOp → Prop) : Prop := ∀ ops q bs, J ops → J (ops ++ [.put 1 (q * 512) bs])
theorem Saves.jl (rs : List ByteArray) (f2 : List UInt8) : Saves (JL rs f2) := fun ops q bs h => JL.save ops q bs h

/-- A space at block s, on its log, pool and disk. -/
structure SpSt (J : List RawOp → Prop) (B : Nat) (S : Nat → Prop) (s d l p n : Nat) (C : Nat → List UInt8) (N : Nat) (last : Hd) (cur : Option Nat) (w : World) : Prop where
  sp : SpaceAt w s d l p last cur
  ok : last.Ok
  pool : PoolJ J B S p d n C P0 N w
  lg : LogOn l d w
  ns : ¬ S s
  nl : ¬ S l
  ne : l ≠ s
  low : B ≤ s ∧ B ≤ l
  n0 : 0 < n

/-- An action at block a of the space at block s, that goes on. -/
structure LiveSt (J : List RawOp → Prop) (B : Nat) (S : Nat → Prop) (a s d l p db m n : Nat) (C : Nat → List UInt8) (N : Nat) (last h : Hd) (D : Nat → Option Dr) (w : World) : Prop where
  act : ActSt w a s d l p db m last h D
  pool : PoolJ J B S p d n C P0 N w
  lg : LogOn l d w
  ns : ¬ S s
  na : ¬ S a
  nl : ¬ S l
  nb : ¬ S db
  nd : ∀ q x, D q = some x → ¬ S x.blk
  ne : l ≠ a ∧ l ≠ s ∧ l ≠ db ∧ ∀ q x, D q = some x → x.blk ≠ l
  low : B ≤ a ∧ B ≤ s ∧ B ≤ l ∧ B ≤ db ∧ ∀ q x, D q = some x → B ≤ x.blk
  n0 : 0 < n

section
variable {J : List RawOp → Prop} {B a s d l p db m n N : Nat} {S : Nat → Prop} {C : Nat → List UInt8} {last h : Hd} {cur : Option Nat} {D : Nat → Option Dr} {w w' : World}

theorem SpSt.size (g : SpSt J B S s d l p n C N last cur w) : B ≤ w.heap.size := g.pool.size
theorem LiveSt.size (g : LiveSt J B S a s d l p db m n C N last h D w) : B ≤ w.heap.size := g.pool.size
theorem SpSt.below (g : SpSt J B S s d l p n C N last cur w) (hb : Below w.heap.size w w') : SpSt J B S s d l p n C N last cur w' :=
  ⟨g.sp.below hb, g.ok, g.pool.below hb, g.lg.below hb, g.ns, g.nl, g.ne, g.low, g.n0⟩
theorem LiveSt.below (g : LiveSt J B S a s d l p db m n C N last h D w) (hb : Below w.heap.size w w') : LiveSt J B S a s d l p db m n C N last h D w' :=
  ⟨g.act.below hb, g.pool.below hb, g.lg.below hb, g.ns, g.na, g.nl, g.nb, g.nd, g.ne, g.low, g.n0⟩
theorem SpSt.more (g : SpSt J B S s d l p n C N last cur w) {M : Nat} (hM : N ≤ M) : SpSt J B S s d l p n C M last cur w :=
  ⟨g.sp, g.ok, g.pool.more hM, g.lg, g.ns, g.nl, g.ne, g.low, g.n0⟩
theorem LiveSt.more (g : LiveSt J B S a s d l p db m n C N last h D w) {M : Nat} (hM : N ≤ M) : LiveSt J B S a s d l p db m n C M last h D w :=
  ⟨g.act, g.pool.more hM, g.lg, g.ns, g.na, g.nl, g.nb, g.nd, g.ne, g.low, g.n0⟩
/-- What the pool's blocks turn leaves the action. -/
theorem LiveSt.turn (g : LiveSt J B S a s d l p db m n C N last h D w) {S' : Nat → Prop} {M : Nat} {J' : List RawOp → Prop} (ht : Turn S w S' w') (hp : PoolJ J' B S' p d n C P0 M w') : LiveSt J' B S' a s d l p db m n C M last h D w' := by
  have h1 := g.act.sp.lt; have h2 := g.act.ac.lt; have h3 := g.act.dr.ltM; have h4 := g.lg.lt
  refine ⟨g.act.kept ht.1 g.na g.ns g.nb g.nd, hp, g.lg.kept ht.1 g.nl, ht.not h1 g.ns, ht.not h2 g.na, ht.not h4 g.nl, ht.not h3 g.nb, fun q x hq => ht.not (g.act.dr.at_ q x hq).2.2.2.2.2.2 (g.nd q x hq), g.ne, g.low, g.n0⟩
theorem PoolJ.bel {P : Nat → Nat} {S' : Nat → Prop} (g : PoolJ J B S p d n C P N w) (ht : Turn S w S' w') : Below B w w' := ht.1.toBelow g.size (fun i hi => (g.low i hi).1)

/-! ### Open, Begin -/
theorem open_sp (ops : List RawOp) (rs : List ByteArray) (xs : List (Hd × List Pt)) (g : DiskAt S d ops w) (hS : ∀ k, S k → B ≤ k ∧ k < w.heap.size) (hp : play ops 0 = logB rs) (hrs : Recs rs) (h1 : 4 ≤ n) (h2 : n ≤ 1024) (hNo : ops.length ≤ N) (hJ : J ops)
    (hlen : rs.length = xs.length) (hx : ∀ i (h1 : i < rs.length) (h2 : i < xs.length), Tells rs[i] xs[i]) (hN : resN N xs ≤ 4398046511104) (hok : (resH Hd.zero xs).Ok)
    (hcl : Saves J) (hJ2 : ∀ ops, J ops → (rHd (play ops 2, false)).2.2 = true) (hB : B ≤ w.heap.size) :
    Calls Tryz.prog 5 #[.pointer (some ⟨d, 0, none⟩), .int .i64 n] w fun e w' => ∃ s l p S', e = .returned (.tuple #[.pointer (some ⟨s, 0, none⟩), .int .i64 0]) ∧ SpSt J B S' s d l p n (resC (fun q => pageOf (play ops 1) q) xs) (resN N xs) (resH Hd.zero xs) none w' ∧ Below B w w' := by
  refine (sopen_ok J B d n N S ops rs xs w g hS hp hrs h1 h2 hNo hJ hlen hx hN hcl hJ2).mono ?_
  rintro e w' ⟨s, l, p, S', rfl, ⟨a1, a2, a3, a4, a5⟩, hlg, hsp, hpool, hk, _⟩
  exact ⟨s, l, p, S', rfl, ⟨hsp, hok, hpool, hlg, a4, a5, a3, ⟨by omega, by omega⟩, by omega⟩, hk.toBelow hB (fun i hi => (hS i hi).1)⟩

theorem dr_none {db : Nat} (hm : PMap w db 0 (fun _ => none)) : DraftsAt w db 0 (fun _ => none) :=
  ⟨⟨_, hm, (fun q x hq => by cases hq), (fun q v hv => by cases hv)⟩, (fun q x hq => by cases hq), (fun q q' x y hq => by cases hq)⟩

theorem begin_sp (g : SpSt J B S s d l p n C N last none w) :
    Calls Tryz.prog 7 #[.pointer (some ⟨s, 0, none⟩)] w fun e w' => ∃ a db, e = .returned (.tuple #[.pointer (some ⟨a, 0, none⟩), .int .i64 0]) ∧ LiveSt J B S a s d l p db 0 n C N last last (fun _ => none) w' ∧ Below B w w' ∧ w.heap.size ≤ a ∧ Kept (fun k => k = s) w w' := by
  refine (begin_ok s d l p last w g.sp g.ok).mono ?_
  rintro e w' ⟨a, db, rfl, hac, hm, hsp, ha, hdb, hne, hk⟩
  have hsz := g.size
  have hlS : ∀ k, S k → k < w.heap.size := fun k hk => (g.pool.low k hk).2
  have hll := g.lg.lt
  have hls := g.sp.lt
  refine ⟨a, db, rfl, ⟨⟨hsp, hac, dr_none hm, g.ok, g.ok, (fun q x hq => by cases hq), ⟨by omega, hne, by omega⟩, (fun q x hq => by cases hq)⟩, g.pool.kept hk (fun k _ hS he => g.ns (he ▸ hS)), g.lg.kept hk g.ne, g.ns, fun hh => by have := hlS _ hh; omega, g.nl, fun hh => by have := hlS _ hh; omega, (fun q x hq => by cases hq), ⟨by omega, g.ne, by omega, (fun q x hq => by cases hq)⟩, ⟨by omega, g.low.1, g.low.2, by omega, (fun q x hq => by cases hq)⟩, g.n0⟩, hk.toBelow hsz (fun i hi => by have := g.low.1; omega), ha, hk⟩

/-! ### An action's calls -/
/-- The action's own blocks have turned, no others. -/
theorem LiveSt.bel (g : LiveSt J B S a s d l p db m n C N last h D w) (hk : Kept (fun k => k = a ∨ k = db) w w') : Below B w w' := hk.toBelow g.size (fun i hi => by rcases hi with rfl | rfl <;> have := g.low <;> omega)

theorem alloc_live (g : LiveSt J B S a s d l p db m n C N last h D w) (hT : Tab w) :
    Calls Tryz.prog 10 #[.pointer (some ⟨a, 0, none⟩)] w fun e w' =>
      (∃ q h' b, h.NextIs q h' ∧ e = .returned (.tuple #[.int .i64 q, .int .i64 0]) ∧ LiveSt J B S a s d l p db (m + 1) n C N last h' (upd D q (some ⟨b, true, noughts, noughts⟩)) w' ∧ Below B w w' ∧ Kept (fun k => k = a ∨ k = db) w w' ∧ w.heap.size ≤ b) ∨
      ((∀ j, h.isFree j = false) ∧ h.count = 4095 ∧ e = .returned (.tuple #[.int .i64 0, .int .i64 2]) ∧ w' = w) := by
  refine (aalloc_live g.act hT (by have := g.act.dr.few; omega)).mono ?_
  rintro e w' (⟨q, h', b, hn, rfl, hb, hx, hk⟩ | ⟨h1, h2, rfl, rfl⟩)
  · have hlS : ∀ k, S k → k < w.heap.size := fun k hk => (g.pool.low k hk).2
    have hll := g.lg.lt
    have hsz := g.size
    refine .inl ⟨q, h', b, hn, rfl, ⟨hx, g.pool.kept hk (fun k _ hS he => by rcases he with rfl | rfl; exact g.na hS; exact g.nb hS), g.lg.kept hk (by rintro (hh | hh); exact g.ne.1 hh; exact g.ne.2.2.1 hh), g.ns, g.na, g.nl, g.nb, fun j y hj => ?_, ⟨g.ne.1, g.ne.2.1, g.ne.2.2.1, fun j y hj => ?_⟩, ⟨g.low.1, g.low.2.1, g.low.2.2.1, g.low.2.2.2.1, fun j y hj => ?_⟩, g.n0⟩, g.bel hk, hk, hb⟩
    all_goals
      by_cases hjq : j = q
      · subst hjq; rw [upd_same] at hj; cases hj
        first
          | (intro hh; have := hlS _ hh; simp only at this; omega)
          | (simp only; omega)
      · rw [upd_other _ _ hjq] at hj
        first
          | exact g.nd j y hj
          | exact g.ne.2.2.2 j y hj
          | exact g.low.2.2.2.2 j y hj
  · exact .inr ⟨h1, h2, rfl, rfl⟩

theorem write_draft (q at_ : Nat) (y : Dr) (t : ByteArray) (g : LiveSt J B S a s d l p db m n C N last h D w) (hq : D q = some y) (hle : at_ + t.size ≤ 512) :
    Calls Tryz.prog 12 #[.pointer (some ⟨a, 0, none⟩), .int .i64 q, .int .i64 at_, .string t] w fun e w' => e = .returned (.int .i64 0) ∧ LiveSt J B S a s d l p db m n C N last h (upd D q (some (y.put at_ t.data.toList))) w' ∧ Below B w w' := by
  refine (awrite_draft q at_ y t g.act hq hle).mono ?_
  rintro e w' ⟨rfl, hx, hk⟩
  have hyb : (y.put at_ t.data.toList).blk = y.blk := rfl
  refine ⟨rfl, ⟨hx, g.pool.kept hk (fun k _ hS he => g.nd q y hq (he ▸ hS)), g.lg.kept hk (fun e => g.ne.2.2.2 q y hq e.symm), g.ns, g.na, g.nl, g.nb, fun j z hj => ?_, ⟨g.ne.1, g.ne.2.1, g.ne.2.2.1, fun j z hj => ?_⟩, ⟨g.low.1, g.low.2.1, g.low.2.2.1, g.low.2.2.2.1, fun j z hj => ?_⟩, g.n0⟩, hk.toBelow g.size (fun i hi => by subst hi; exact g.low.2.2.2.2 q y hq)⟩
  all_goals
    by_cases hjq : j = q
    · subst hjq; rw [upd_same] at hj; cases hj
      rw [hyb]
      first
        | exact g.nd j y hq
        | exact g.ne.2.2.2 j y hq
        | exact g.low.2.2.2.2 j y hq
    · rw [upd_other _ _ hjq] at hj
      first
        | exact g.nd j z hj
        | exact g.ne.2.2.2 j z hj
        | exact g.low.2.2.2.2 j z hj

theorem setRoot_live (q x : Nat) (g : LiveSt J B S a s d l p db m n C N last h D w) (hq : q < 16) (hx : x < 2147483648) :
    Calls Tryz.prog 14 #[.pointer (some ⟨a, 0, none⟩), .int .i64 q, .int .i64 x] w fun e w' => e = .returned (.int .i64 0) ∧ LiveSt J B S a s d l p db m n C N last (h.setRoot q x) D w' ∧ Below B w w' := by
  refine (asetRoot_good q x g.act hq hx).mono ?_
  rintro e w' ⟨rfl, hA, hk⟩
  exact ⟨rfl, ⟨hA, g.pool.kept hk (fun k _ hS he => g.na (he ▸ hS)), g.lg.kept hk g.ne.1, g.ns, g.na, g.nl, g.nb, g.nd, g.ne, g.low, g.n0⟩, hk.toBelow g.size (fun i hi => by have := g.low.1; omega)⟩

theorem root_live (q : Nat) (g : LiveSt J B S a s d l p db m n C N last h D w) (hq : q < 16) :
    Calls Tryz.prog 11 #[.pointer (some ⟨a, 0, none⟩), .int .i64 q] w fun e w' => e = .returned (.tuple #[.int .i64 (h.root q), .int .i64 0]) ∧ w' = w := aroot_good a h q w g.act.live g.act.ac.hd g.act.ok hq

theorem free_live (q : Nat) (g : LiveSt J B S a s d l p db m n C N last h D w) (hq : h.has q) :
    Calls Tryz.prog 13 #[.pointer (some ⟨a, 0, none⟩), .int .i64 q] w fun e w' => e = .returned (.int .i64 0) ∧ (∃ m', LiveSt J B S a s d l p db m' n C N last (h.turn q) (upd D q none) w') ∧ Below B w w' ∧ Kept (fun k => k = a ∨ k = db) w w' := by
  refine (afree_live q g.act hq).mono ?_
  rintro e w' ⟨rfl, ⟨m', _, hx⟩, hk⟩
  refine ⟨rfl, ⟨m', hx, g.pool.kept hk (fun k _ hS he => by rcases he with rfl | rfl; exact g.na hS; exact g.nb hS), g.lg.kept hk (by rintro (hh | hh); exact g.ne.1 hh; exact g.ne.2.2.1 hh), g.ns, g.na, g.nl, g.nb, fun j y hj => ?_, ⟨g.ne.1, g.ne.2.1, g.ne.2.2.1, fun j y hj => ?_⟩, ⟨g.low.1, g.low.2.1, g.low.2.2.1, g.low.2.2.2.1, fun j y hj => ?_⟩, g.n0⟩, g.bel hk, hk⟩
  all_goals
    by_cases hjq : j = q
    · subst hjq; rw [upd_same] at hj; cases hj
    · rw [upd_other _ _ hjq] at hj
      first
        | exact g.nd j y hj
        | exact g.ne.2.2.2 j y hj
        | exact g.low.2.2.2.2 j y hj

theorem read_page (q : Nat) (g : LiveSt J B S a s d l p db m n C N last h D w) (hq : h.has q) (hD : D q = none) (hN : N + 2 ≤ 4398046511104) (hcl : Saves J) :
    Calls Tryz.prog 9 #[.pointer (some ⟨a, 0, none⟩), .int .i64 q] w fun e w' => e = .returned (.tuple #[.string ⟨(C q).toArray⟩, .int .i64 0]) ∧ (∃ S', LiveSt J B S' a s d l p db m n C (N + 2) last h D w') ∧ Below B w w' := by
  refine (aread_page q g.act g.ns g.pool hq hD (pinned0 g.n0) hN (fun ops q bs hj => hcl ops q bs hj)).mono ?_
  rintro e w' ⟨rfl, S', ht, hp⟩
  exact ⟨rfl, ⟨S', g.turn ht hp⟩, g.pool.bel ht⟩

theorem abort_live (g : LiveSt J B S a s d l p db m n C N last h D w) :
    Calls Tryz.prog 8 #[.pointer (some ⟨a, 0, none⟩)] w fun e w' => e = .returned (.int .i64 0) ∧ SpSt J B S s d l p n C N last none w' ∧ ActAt w' a s h (.map none) ∧ Below B w w' := by
  refine (aabort_live a s d l p h last _ w g.act.ac g.act.sp g.act.ok g.act.okl g.act.ne.1).mono ?_
  rintro e w' ⟨rfl, hac, hsp, hk⟩
  exact ⟨rfl, ⟨hsp, g.act.okl, g.pool.kept hk (fun k _ hS he => by rcases he with rfl | rfl; exact g.ns hS; exact g.na hS), g.lg.kept hk (by rintro (hh | hh); exact g.ne.2.1 hh; exact g.ne.1 hh), g.ns, g.nl, g.ne.2.1, ⟨g.low.2.1, g.low.2.2.1⟩, g.n0⟩, hac, hk.toBelow g.size (fun i hi => by rcases hi with rfl | rfl <;> have := g.low <;> omega)⟩

theorem commit_live (rs : List ByteArray) (f2 : List UInt8) (ks : List Nat) (g : LiveSt (JL rs f2) B S a s d l p db m n C N last h D w) (hks : KeysOf D ks) (hne : allPts D ks ≠ []) (hf : ∀ p ∈ allPts D ks, p.Fits) (hsz : (recB h (allPts D ks)).length ≤ 16777216)
    (hrs : Recs rs) (hc : appCode rs ⟨(recB h (allPts D ks)).toArray⟩ = 0) (hN : N + 1 + 3 * (allPts D ks).length ≤ 4398046511104) :
    Calls Tryz.prog 15 #[.pointer (some ⟨a, 0, none⟩)] w fun e w' => e = .returned (.int .i64 0) ∧ (∃ S', SpSt (JL (rs ++ [⟨(recB h (allPts D ks)).toArray⟩]) f2) B S' s d l p n (appC C (allPts D ks)) (N + 1 + 3 * (allPts D ks).length) h none w') ∧ ActAt w' a s h (.map none) ∧ Below B w w' := by
  refine (acommit_some B S a s d l p n db m C P0 N rs f2 last h D ks w g.act g.ns g.na g.lg g.nl ⟨g.ne.1, g.ne.2.1⟩ g.pool hks hne hf hsz hrs hc (pinned0 g.n0) hN).mono ?_
  rintro e w' ⟨rfl, S', hk, hS', hp, hsp, hac⟩
  have h1 := g.act.sp.lt; have h4 := g.lg.lt
  exact ⟨rfl, ⟨S', hsp, g.act.ok, hp, g.lg.kept hk (by rintro (hh | hh | hh); exact g.nl hh; exact g.ne.2.1 hh; exact g.ne.1 hh), fun hh => g.ns (hS' _ h1 hh), fun hh => g.nl (hS' _ h4 hh), g.ne.2.1, ⟨g.low.2.1, g.low.2.2.1⟩, g.n0⟩, hac, hk.toBelow g.size (fun i hi => by rcases hi with hi | rfl | rfl; exact (g.pool.low i hi).1; exact g.low.2.1; exact g.low.1)⟩
end
end Go.Proofs.YtgboeolnojpehaaGreatDoor
