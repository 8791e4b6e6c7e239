/- Texts of the same proof, one behind the other: SA, SB, SC, SM, SL, SD, SE, SF, SG, SH, SI. -/
import Derived.Test.YtgboeolnojpehaaGreatDoorMC
import Derived.Laws.Bits64
import Derived.Laws.Bits64b
import Derived.Deep.QuietTactic
import Derived.BigQuiet
import Derived.Outline
import Derived.StillTailTactics
import Derived.Shelf.Spec.TrailingZeros
import Derived.ChangeKeysEq
import Derived.Deep.MidRow
import Derived.Test.YtgboeolnojpehaaGreatDoorME
import Derived.Test.YtgboeolnojpehaaGreatDoorMB
import Derived.Laws.Tables
import Derived.Deep.RegionHeld3
import Derived.Lib.Builder
/- A space's head as it lies in a block: the count, a bit a page, the roots. Plain words of it, and whether a page is free. -/
set_option maxRecDepth 100000
namespace Go.Proofs.YtgboeolnojpehaaGreatDoor
open Go.RowKit

structure Hd where
  count : Nat
  free : List Nat
  roots : List Nat

def Hd.cells (h : Hd) : List Value := .int .i64 h.count :: (h.free.map (fun x : Nat => Value.int .u64 (x : Int)) ++ h.roots.map (fun x : Nat => Value.int .i64 (x : Int)))
def Hd.word (h : Hd) (i : Nat) : Nat := h.free.getD i 0
def Hd.root (h : Hd) (i : Nat) : Nat := h.roots.getD i 0
def Hd.isFree (h : Hd) (q : Nat) : Bool := (h.word (q / 64)).testBit (q % 64)
def Hd.has (h : Hd) (q : Nat) : Prop := 1 ≤ q ∧ q ≤ h.count ∧ h.isFree q = false
instance (h : Hd) (q : Nat) : Decidable (h.has q) := by unfold Hd.has; infer_instance
def Hd.zero : Hd := ⟨0, List.replicate 64 0, List.replicate 16 0⟩

structure Hd.Ok (h : Hd) : Prop where
  nf : h.free.length = 64
  nr : h.roots.length = 16
  cnt : h.count < 4096
  lt : ∀ i, h.word i < 18446744073709551616
  rt : ∀ i, h.root i < 2147483648
  in_ : ∀ q, h.isFree q = true → 1 ≤ q ∧ q ≤ h.count

theorem Hd.cells_length {h : Hd} (k : h.Ok) : h.cells.length = 81 := by simp [Hd.cells, k.nf, k.nr]
theorem Hd.one (h : Hd) : ∀ v ∈ h.cells, v.oneCell' = true := by
  intro v hv
  simp only [Hd.cells, List.mem_cons, List.mem_append, List.mem_map] at hv
  rcases hv with rfl | ⟨x, _, rfl⟩ | ⟨x, _, rfl⟩ <;> rfl

/-- A head lies at o of a block. -/
def HdAt (w : World) (b o : Nat) (h : Hd) : Prop := w.rangeAt b o h.cells

section
variable {w w' : World} {b o : Nat} {h : Hd}
theorem HdAt.count (a : HdAt w b o h) : w.cell? ⟨b, o, none⟩ = some (.int .i64 h.count) := a 0 _ rfl
theorem Hd.cell_word (k : h.Ok) {i : Nat} (hi : i < 64) : h.cells[1 + i]? = some (.int .u64 (h.word i : Int)) := by
  have h1 : i < h.free.length := by rw [k.nf]; exact hi
  rw [Hd.cells, show 1 + i = i + 1 by omega, List.getElem?_cons_succ, List.getElem?_append_left (by simpa using h1), List.getElem?_map, List.getElem?_eq_getElem h1, Hd.word, List.getD_eq_getElem?_getD, List.getElem?_eq_getElem h1]
  rfl
theorem Hd.cell_root (k : h.Ok) {i : Nat} (hi : i < 16) : h.cells[65 + i]? = some (.int .i64 (h.root i : Int)) := by
  have h1 : i < h.roots.length := by rw [k.nr]; exact hi
  rw [Hd.cells, show 65 + i = (64 + i) + 1 by omega, List.getElem?_cons_succ, List.getElem?_append_right (by simp [k.nf]), List.getElem?_map, List.length_map, k.nf, show 64 + i - 64 = i by omega, List.getElem?_eq_getElem h1, Hd.root, List.getD_eq_getElem?_getD, List.getElem?_eq_getElem h1]
  rfl
theorem HdAt.word (a : HdAt w b o h) (k : h.Ok) {i : Nat} (hi : i < 64) : w.cell? ⟨b, o + 1 + i, none⟩ = some (.int .u64 (h.word i : Int)) := by
  have := a (1 + i) _ (Hd.cell_word k hi)
  rwa [← Nat.add_assoc] at this
theorem HdAt.root (a : HdAt w b o h) (k : h.Ok) {i : Nat} (hi : i < 16) : w.cell? ⟨b, o + 65 + i, none⟩ = some (.int .i64 (h.root i : Int)) := by
  have := a (65 + i) _ (Hd.cell_root k hi)
  rwa [← Nat.add_assoc] at this
theorem HdAt.block (a : HdAt w b o h) (hb : w'.heap[b]? = w.heap[b]?) : HdAt w' b o h := fun j v hv => (World.cell?_of_block hb).trans (a j v hv)
theorem HdAt.of_cells (hc : ∀ j, j < h.cells.length → w'.cell? ⟨b, o + j, none⟩ = w.cell? ⟨b, o + j, none⟩) (a : HdAt w b o h) : HdAt w' b o h := fun j v hv =>
  (hc j (List.getElem?_eq_some_iff.1 hv).1).trans (a j v hv)
end

/-- Another count. -/
def Hd.setCount (h : Hd) (n : Nat) : Hd := { h with count := n }
/-- Another word. -/
def Hd.setWord (h : Hd) (i x : Nat) : Hd := { h with free := h.free.set i x }
/-- Another root. -/
def Hd.setRoot (h : Hd) (i x : Nat) : Hd := { h with roots := h.roots.set i x }

theorem Hd.cells_setCount (h : Hd) (n : Nat) : (h.setCount n).cells = h.cells.set 0 (.int .i64 n) := by simp [Hd.setCount, Hd.cells]
theorem Hd.cells_setWord {h : Hd} (k : h.Ok) {i : Nat} (hi : i < 64) (x : Nat) : (h.setWord i x).cells = h.cells.set (1 + i) (.int .u64 (x : Int)) := by
  rw [show 1 + i = i + 1 by omega]
  simp only [Hd.setWord, Hd.cells, List.set_cons_succ]
  rw [List.set_append_left _ _ (by simp [k.nf]; omega), List.map_set]
theorem Hd.cells_setRoot {h : Hd} (k : h.Ok) {i : Nat} (x : Nat) : (h.setRoot i x).cells = h.cells.set (65 + i) (.int .i64 (x : Int)) := by
  rw [show 65 + i = (64 + i) + 1 by omega]
  simp only [Hd.setRoot, Hd.cells, List.set_cons_succ]
  rw [List.set_append_right _ _ (by simp [k.nf]), List.map_set]
  simp [k.nf]

theorem rangeAt_set {w : World} {b o : Nat} {cs : List Value} (a : w.rangeAt b o cs) (i : Nat) (hi : i < cs.length) (v : Value) : (w.setCell ⟨b, o + i, none⟩ v).rangeAt b o (cs.set i v) := fun j u hu => by
  by_cases hj : j = i
  · subst hj
    rw [List.getElem?_set_self hi] at hu
    cases hu
    exact World.cell?_setCell_same _ _ _ (a j _ (List.getElem?_eq_getElem hi))
  · rw [List.getElem?_set_ne (fun e => hj e.symm)] at hu
    rw [World.cell?_setCell_other _ _ _ _ (fun e => by injection e with _ e _; omega)]
    exact a j u hu

theorem Hd.word_setWord (h : Hd) (k : h.Ok) (i x j : Nat) (hi : i < 64) : (h.setWord i x).word j = if j = i then x else h.word j := by
  unfold Hd.word Hd.setWord
  simp only [List.getD_eq_getElem?_getD]
  by_cases hj : j = i
  · subst hj
    rw [List.getElem?_set_self (by rw [k.nf]; exact hi), if_pos rfl]; rfl
  · rw [List.getElem?_set_ne (fun e => hj e.symm), if_neg hj]
theorem Hd.root_setRoot (h : Hd) (k : h.Ok) (i x j : Nat) (hi : i < 16) : (h.setRoot i x).root j = if j = i then x else h.root j := by
  unfold Hd.root Hd.setRoot
  simp only [List.getD_eq_getElem?_getD]
  by_cases hj : j = i
  · subst hj
    rw [List.getElem?_set_self (by rw [k.nr]; exact hi), if_pos rfl]; rfl
  · rw [List.getElem?_set_ne (fun e => hj e.symm), if_neg hj]

/-- A page is freed where it was not, and taken where it was free. -/
def Hd.turn (h : Hd) (q : Nat) : Hd := h.setWord (q / 64) (h.word (q / 64) ^^^ 2 ^ (q % 64))
theorem Hd.isFree_turn {h : Hd} (k : h.Ok) {q : Nat} (hq : q < 4096) (j : Nat) : (h.turn q).isFree j = if j = q then !h.isFree q else h.isFree j := by
  unfold Hd.isFree Hd.turn
  rw [Hd.word_setWord h k _ _ _ (by omega)]
  by_cases hw : j / 64 = q / 64
  · rw [if_pos hw, Nat.testBit_xor, Nat.testBit_two_pow, ← hw]
    by_cases hj : j = q
    · subst hj; simp
    · rw [if_neg hj, decide_eq_false (by omega)]; simp
  · rw [if_neg hw, if_neg (by rintro rfl; exact hw rfl)]
theorem Hd.Ok.turn {h : Hd} (k : h.Ok) {q : Nat} (hq : q < 4096) (hin : 1 ≤ q ∧ q ≤ h.count) : (h.turn q).Ok := by
  refine ⟨by simp [Hd.turn, Hd.setWord, k.nf], k.nr, k.cnt, fun i => ?_, k.rt, fun j hj => ?_⟩
  · unfold Hd.turn
    rw [Hd.word_setWord h k _ _ _ (by omega)]
    by_cases hi : i = q / 64
    · rw [if_pos hi]
      exact Nat.xor_lt_two_pow (n := 64) (k.lt _) (Nat.pow_lt_pow_right (by omega) (by omega))
    · rw [if_neg hi]; exact k.lt i
  · rw [Hd.isFree_turn k hq] at hj
    by_cases hjq : j = q
    · subst hjq; exact hin
    · rw [if_neg hjq] at hj; exact k.in_ j hj

theorem Hd.zero_ok : Hd.zero.Ok := by
  have hw : ∀ i, Hd.zero.word i = 0 := fun i => by
    unfold Hd.word Hd.zero
    simp only [List.getD_eq_getElem?_getD, List.getElem?_replicate]
    split <;> rfl
  have hr : ∀ i, Hd.zero.root i = 0 := fun i => by
    unfold Hd.root Hd.zero
    simp only [List.getD_eq_getElem?_getD, List.getElem?_replicate]
    split <;> rfl
  refine ⟨rfl, rfl, by decide, fun i => by rw [hw]; decide, fun i => by rw [hr]; decide, fun q hq => ?_⟩
  unfold Hd.isFree at hq
  rw [hw] at hq
  simp at hq
end Go.Proofs.YtgboeolnojpehaaGreatDoor

/- The contracts of a head's isFree, has, words, turn, and of isRoot. -/
set_option maxRecDepth 100000
namespace Go.Proofs.YtgboeolnojpehaaGreatDoor
open Go.RowKit

theorem bit_and (x r : Nat) (hx : x < 18446744073709551616) : (bits BinOp.and IntKind.u64 ((x : Int) / 2 ^ r) 1 == 1) = x.testBit r := by
  have e : (x : Int) / 2 ^ r = ((x / 2 ^ r : Nat) : Int) := by simp
  have hlt : x / 2 ^ r < 18446744073709551616 := Nat.lt_of_le_of_lt (Nat.div_le_self _ _) hx
  rw [e, show (1 : Int) = ((1 : Nat) : Int) from rfl, bits_and_u64_nat _ _ hlt (by decide), Nat.and_one_is_mod, Nat.testBit_eq_decide_div_mod_eq]
  have h2 : x / 2 ^ r % 2 = 0 ∨ x / 2 ^ r % 2 = 1 := by omega
  rcases h2 with h2 | h2 <;> rw [h2] <;> rfl
theorem ret_i64 {a b : Int} (h : a = b) : Ending.returned (.int .i64 a) = .returned (.int .i64 b) := by rw [h]
theorem ret_bool {a b : Bool} (h : a = b) : Ending.returned (.bool a) = .returned (.bool b) := by rw [h]

set_option maxHeartbeats 400000 in
theorem isFree_any (b o : Nat) (h : Hd) (q : Nat) (w : World) (a : HdAt w b o h) (k : h.Ok) (hq : q < 4096) :
    Calls Tryz.prog 58 #[.pointer (some ⟨b, o, none⟩), .int .i64 q] w fun e w' => e = .returned (.bool (h.isFree q)) ∧ w' = w := by
  have hc := a.word k (show q / 64 < 64 by omega)
  obtain ⟨x, hx⟩ : ∃ x, x = h.word (q / 64) := ⟨_, rfl⟩
  have hlt := k.lt (q / 64)
  rw [← hx] at hc hlt
  have hfr : h.isFree q = x.testBit (q % 64) := by rw [Hd.isFree, hx]
  rw [hfr]
  have hj64 : (q : Int) / 64 < 64 := by omega
  clear a k hfr hx
  go_enter Tryz.func58, Tryz.ntmps58
  go_wp2
  go_ret
  exact ⟨ret_bool (bit_and x _ hlt), rfl⟩

set_option maxHeartbeats 400000 in
theorem has_any (b o : Nat) (h : Hd) (q : Int) (w : World) (a : HdAt w b o h) (k : h.Ok) :
    Calls Tryz.prog 48 #[.pointer (some ⟨b, o, none⟩), .int .i64 q] w fun e w' => e = .returned (.bool (decide (1 ≤ q ∧ h.has q.toNat))) ∧ w' = w := by
  have hc := a.count
  have hcnt := k.cnt
  by_cases h1 : q < 1
  · have hp : ¬ (1 ≤ q ∧ h.has q.toNat) := by omega
    rw [decide_eq_false hp]
    have h2 : decide (1 ≤ q) = false := decide_eq_false (by omega)
    clear a k hp
    go_enter Tryz.func48, Tryz.ntmps48
    go_wp2
    go_ret
    exact ⟨rfl, rfl⟩
  · obtain ⟨n, rfl⟩ : ∃ n : Nat, q = n := ⟨q.toNat, by omega⟩
    rw [Int.toNat_natCast]
    by_cases h2 : h.count < n
    · have hp : ¬ (1 ≤ (n : Int) ∧ h.has n) := fun e => by have := e.2.2.1; omega
      rw [decide_eq_false hp]
      obtain ⟨c, hce⟩ : ∃ c, c = h.count := ⟨_, rfl⟩
      rw [← hce] at hc h2
      have h3 : decide (n ≤ c) = false := decide_eq_false (by omega)
      have h4 : decide ((n : Int) ≤ c) = false := decide_eq_false (by omega)
      have h5 : 1 ≤ n := by omega
      clear a k hp hce
      go_enter Tryz.func48, Tryz.ntmps48
      go_wp2
      go_ret
      exact ⟨rfl, rfl⟩
    · have HF := Lib.hid (isFree_any b o h n w a k (by omega))
      obtain ⟨f, hf⟩ : ∃ f, f = h.isFree n := ⟨_, rfl⟩
      have hp : decide (1 ≤ (n : Int) ∧ h.has n) = !f := by
        have ht : (1 ≤ (n : Int) ∧ h.has n) ↔ f = false := ⟨fun e => hf.trans e.2.2.2, fun e => ⟨by omega, by omega, by omega, hf.symm.trans e⟩⟩
        rw [decide_eq_decide.2 ht]
        cases f <;> rfl
      rw [hp]
      rw [← hf] at HF
      obtain ⟨c, hce⟩ : ∃ c, c = h.count := ⟨_, rfl⟩
      rw [← hce] at hc h2
      have h3 : decide (n ≤ c) = true := decide_eq_true (by omega)
      have h4 : decide ((n : Int) ≤ c) = true := decide_eq_true (by omega)
      have h5 : 1 ≤ n := by omega
      clear a k hp hce hf
      go_enter Tryz.func48, Tryz.ntmps48
      go_wp2_with fail
      refine HF.out.mono ?_
      rintro e w' ⟨rfl, hw⟩
      subst w'
      go_wp2
      go_ret
      exact ⟨rfl, rfl⟩

set_option maxHeartbeats 400000 in
theorem words_any (b o : Nat) (h : Hd) (w : World) (a : HdAt w b o h) (k : h.Ok) :
    Calls Tryz.prog 85 #[.pointer (some ⟨b, o, none⟩)] w fun e w' => e = .returned (.int .i64 ((h.count / 64 + 1 : Nat) : Int)) ∧ w' = w := by
  have hc := a.count
  have hcnt := k.cnt
  obtain ⟨c, hce⟩ : ∃ c, c = h.count := ⟨_, rfl⟩
  rw [← hce] at hc hcnt ⊢
  clear a k hce
  go_enter Tryz.func85, Tryz.ntmps85
  go_wp2
  go_ret
  exact ⟨ret_i64 (by omega), rfl⟩

set_option maxHeartbeats 400000 in
theorem isRoot_any (n : Int) (w : World) : Calls Tryz.prog 30 #[.int .i64 n] w fun e w' => e = .returned (.bool (decide (0 ≤ n ∧ n < 16))) ∧ w' = w := by
  by_cases h1 : 0 ≤ n
  · by_cases h2 : n < 16
    · rw [decide_eq_true (⟨h1, h2⟩ : 0 ≤ n ∧ n < 16)]
      go_enter Tryz.func30, Tryz.ntmps30
      go_wp2
      go_ret
      exact ⟨by simp, rfl⟩
    · rw [decide_eq_false (fun e : 0 ≤ n ∧ n < 16 => h2 e.2)]
      go_enter Tryz.func30, Tryz.ntmps30
      go_wp2
      go_ret
      exact ⟨by simp, rfl⟩
  · rw [decide_eq_false (fun e : 0 ≤ n ∧ n < 16 => h1 e.1)]
    have h3 : decide (0 ≤ n) = false := decide_eq_false h1
    go_enter Tryz.func30, Tryz.ntmps30
    go_wp2
    go_ret
    exact ⟨by simp, rfl⟩

theorem bits_turn (x r : Nat) (hx : x < 18446744073709551616) (hr : r < 64) : bits BinOp.xor IntKind.u64 (x : Int) (IntKind.u64.wrap (2 ^ r)) = ((x ^^^ 2 ^ r : Nat) : Int) := by
  have h2 : 2 ^ r < 18446744073709551616 := Nat.pow_lt_pow_right (n := 64) (by omega) hr
  have e : IntKind.u64.wrap (2 ^ r) = ((2 ^ r : Nat) : Int) := by
    rw [IntKind.wrap_u64, show (2 : Int) ^ r = ((2 ^ r : Nat) : Int) by simp]
    exact Int.emod_eq_of_lt (Int.natCast_nonneg _) (Int.ofNat_lt.2 h2)
  rw [e, bits_xor_u64_nat _ _ hx h2]

theorem HdAt.set {w : World} {b o : Nat} {h h' : Hd} (a : HdAt w b o h) {i : Nat} {v : Value} (hi : i < h.cells.length) (he : h'.cells = h.cells.set i v) : HdAt (w.setCell ⟨b, o + i, none⟩ v) b o h' := by
  unfold HdAt; rw [he]; exact rangeAt_set a i hi v

set_option maxHeartbeats 800000 in
theorem hturn_any (b o : Nat) (h : Hd) (q : Nat) (w : World) (a : HdAt w b o h) (k : h.Ok) (hq : q < 4096) (hz : ∀ j, w.frozen? ⟨b, j, none⟩ = false) :
    Calls Tryz.prog 32 #[.pointer (some ⟨b, o, none⟩), .int .i64 q] w fun e w' => e = .returned (.tuple #[]) ∧ HdAt w' b o (h.turn q) ∧ Touch b o 81 w w' ∧ Kept (fun k => k = b) w w' := by
  have hc := a.word k (show q / 64 < 64 by omega)
  obtain ⟨x, hx⟩ : ∃ x, x = h.word (q / 64) := ⟨_, rfl⟩
  have hlt := k.lt (q / 64)
  rw [← hx] at hc hlt
  have hzz := hz (o + 1 + q / 64)
  have hj64 : (q : Int) / 64 < 64 := by omega
  have hbt := bits_turn x (q % 64) hlt (by omega)
  have HE : Hid (∀ W : World, HdAt W b o h → HdAt (W.setCell ⟨b, o + 1 + q / 64, none⟩ (.int .u64 ((x ^^^ 2 ^ (q % 64) : Nat) : Int))) b o (h.turn q)) := Lib.hid (fun W aW => by
    have hi : 1 + q / 64 < h.cells.length := by rw [Hd.cells_length k]; omega
    have := aW.set (h' := h.turn q) (v := .int .u64 ((x ^^^ 2 ^ (q % 64) : Nat) : Int)) hi (by rw [Hd.turn, Hd.cells_setWord k (by omega), hx])
    rwa [← Nat.add_assoc] at this)
  have HA := Lib.hid a
  have HB := Lib.hid hbt
  have hw1 : IntKind.i64.wrap ((q : Int) / 64) = (q : Int) / 64 := IntWalk.i64_in _ (by omega)
  have hj0 : 0 ≤ (q : Int) / 64 := by omega
  have hjn : ((q : Int) / 64).toNat = q / 64 := by omega
  have hsh : Op.shift .shl .u64 1 .i64 ((q : Int).tmod 64) = pure (.int .u64 (IntKind.u64.wrap (1 * 2 ^ (q % 64)))) := by
    have e : (q : Int).tmod 64 = ((q % 64 : Nat) : Int) := by rw [Int.tmod_eq_emod_of_nonneg (by omega)]; omega
    rw [e]
    have := shift_shl .u64 .i64 1 ((q % 64 : Nat) : Int) (by omega) (by show ((q % 64 : Nat) : Int) ≤ ((64 : Nat) : Int); omega)
    rwa [Int.toNat_natCast] at this
  clear a k hx hz hbt
  go_enter Tryz.func32, Tryz.ntmps32
  go_still_tail 14, (by kernel_rfl)
  rw [HB.out]
  go_wp2
  go_end0
  refine ⟨rfl, (HE.out w HA.out).block rfl, ?_, ?_⟩
  · exact (Touch.setCell (fb := b) (o := o) (n := 81) (i := o + 1 + q / 64) w _ (by omega) (by omega)).trans (Touch.ofBlock rfl)
  · exact (Kept.setCell (fun k => k = b) w (b := b) rfl _).trans (Kept.ofBelow (S := fun k => k = b) (Below.refl _ _).drew) (fun _ hi => .inl hi)
end Go.Proofs.YtgboeolnojpehaaGreatDoor

/- TrailingZeros64, and the contract of a head's take: the least page that is free, else a new one. -/
set_option maxRecDepth 100000
namespace Go.Proofs.YtgboeolnojpehaaGreatDoor
open Go.RowKit

/-- The library's table, as its initialiser lays it. -/
def Tab (w : World) : Prop := 1 ≤ w.heap.size ∧ ∀ j, j < 64 → w.cell? ⟨0, j, none⟩ = some (.int .u8 (Lib.deBruijn64tab.getD j 0))
theorem Tab.kept {S : Nat → Prop} {w w' : World} (h : Tab w) (hk : Kept S w w') (hS : ¬ S 0) : Tab w' :=
  ⟨Nat.le_trans h.1 hk.size, fun j hj => (World.cell?_of_block (hk.block 0 h.1 hS)).trans (h.2 j hj)⟩
theorem Tab.below {w w' : World} {B : Nat} (h : Tab w) (hb : Below B w w') (hB : 1 ≤ B) : Tab w' :=
  ⟨Nat.le_trans h.1 hb.size, fun j hj => (World.cell?_of_block (hb.block 0 hB)).trans (h.2 j hj)⟩

theorem ctz_bits (x : Nat) (h0 : x ≠ 0) (h : x < 18446744073709551616) : Lib.ctz 64 x < 64 ∧ x.testBit (Lib.ctz 64 x) = true ∧ ∀ j, j < Lib.ctz 64 x → x.testBit j = false := by
  obtain ⟨m, hm, hk⟩ := Lib.ctzFrom_spec 64 x (by omega) h
  have e : Lib.ctz 64 x = Lib.ctzFrom 64 x := by simp [Lib.ctz, h0]
  rw [e]
  obtain ⟨k, hk'⟩ : ∃ k, k = Lib.ctzFrom 64 x := ⟨_, rfl⟩
  rw [← hk'] at hm hk ⊢
  refine ⟨hk, ?_, fun j hj => ?_⟩
  · rw [hm, Nat.mul_comm, Nat.testBit_mul_two_pow]; simp
  · rw [hm, Nat.mul_comm, Nat.testBit_mul_two_pow]; simp; omega

set_option maxHeartbeats 800000 in
theorem tz64_any (x : Nat) (hx0 : x ≠ 0) (hx : x < 18446744073709551616) (w : World) (hT : Tab w) :
    Calls Tryz.prog 52 #[.int .u64 x] w fun e w' => e = .returned (.int .i64 (Lib.ctz 64 x)) ∧ w' = w := by
  obtain ⟨hlow, hk⟩ := Lib.lowest_bit 64 x hx0 hx
  obtain ⟨hi, htab⟩ := Lib.deBruijn64_at _ hk
  have hcell := hT.2 _ hi
  rw [htab] at hcell
  have key := tz64_key x _ hx hx0 hlow
  obtain ⟨k, hk'⟩ : ∃ k, k = Lib.ctz 64 x := ⟨_, rfl⟩
  rw [← hk'] at hcell key hi hk ⊢
  obtain ⟨idx, hidx⟩ : ∃ idx, idx = 2 ^ k * 285870213051353865 % 18446744073709551616 / 288230376151711744 := ⟨_, rfl⟩
  rw [← hidx] at hcell key hi
  have hx1 : ((x : Int) == 0) = false := by simp; omega
  clear hlow htab hT hk' hidx hx0 hx
  go_enter Tryz.func52, Tryz.ntmps52
  go_wp2_with (simp only [key])
  go_ret
  exact ⟨rfl, rfl⟩

/-- Page q is taken, and h' is left. -/
def Hd.NextIs (h : Hd) (q : Nat) (h' : Hd) : Prop :=
  h.isFree q = true ∧ (∀ j, j < q → h.isFree j = false) ∧ h' = h.turn q ∨ (∀ j, h.isFree j = false) ∧ h.count < 4095 ∧ q = h.count + 1 ∧ h' = h.setCount q

theorem Hd.Ok.isFree_lt {h : Hd} (k : h.Ok) {q : Nat} (hf : h.isFree q = true) : 1 ≤ q ∧ q ≤ h.count ∧ q < 4096 := by
  have := k.in_ q hf
  have := k.cnt
  omega
theorem Hd.isFree_setCount (h : Hd) (n j : Nat) : (h.setCount n).isFree j = h.isFree j := rfl
theorem Hd.Ok.setCount {h : Hd} (k : h.Ok) {n : Nat} (hn : h.count ≤ n) (h2 : n < 4096) : (h.setCount n).Ok :=
  ⟨k.nf, k.nr, h2, k.lt, k.rt, fun q hq => ⟨(k.in_ q hq).1, Nat.le_trans (k.in_ q hq).2 hn⟩⟩
theorem Hd.NextIs.spec {h h' : Hd} {q : Nat} (k : h.Ok) (hn : h.NextIs q h') : h'.Ok ∧ 1 ≤ q ∧ q < 4096 ∧ ¬ h.has q ∧ (∀ j, h'.has j ↔ h.has j ∨ j = q) ∧ h'.roots = h.roots := by
  rcases hn with ⟨h1, _, rfl⟩ | ⟨h1, h2, rfl, rfl⟩
  · obtain ⟨a, b, c⟩ := k.isFree_lt h1
    refine ⟨k.turn c ⟨a, b⟩, a, c, (fun e => by rw [e.2.2] at h1; cases h1), fun j => ?_, rfl⟩
    unfold Hd.has
    rw [Hd.isFree_turn k c]
    show (1 ≤ j ∧ j ≤ h.count ∧ _) ↔ _
    by_cases hj : j = q
    · subst hj; simp [h1]; omega
    · simp [hj]
  · refine ⟨k.setCount (by omega) (by omega), by omega, by omega, (fun e => by have := e.2.1; omega), fun j => ?_, rfl⟩
    unfold Hd.has
    rw [Hd.isFree_setCount, h1 j]
    show (1 ≤ j ∧ j ≤ h.count + 1 ∧ _) ↔ _
    simp; omega

def TakePost (b o : Nat) (h : Hd) (w : World) (e : Ending) (w' : World) : Prop :=
  (∃ q h', h.NextIs q h' ∧ e = .returned (.int .i64 q) ∧ HdAt w' b o h' ∧ Touch b o 81 w w' ∧ Kept (fun k => k = b) w w') ∨ ((∀ j, h.isFree j = false) ∧ h.count = 4095 ∧ e = .returned (.int .i64 0) ∧ w' = w)

theorem run_index_row (t e : TypeId) (n : Nat) (cs : Array Value) (v : Value) (i : Nat) (w : World) (h : Tryz.prog.underlying t = some (.array n e)) (he : Tryz.prog.plainKey e = true) (hs : (Tryz.prog.info? e).map (·.size) = some 1) (hi : i < n) (hv : cs[i]? = some v) :
    (Instr.index t (.agg cs) (.int .i64 i)).run Tryz.prog w = .ok v w := by
  have hin : (0 : Int) ≤ i ∧ (i : Int) < n := by omega
  cases hq : Tryz.prog.info? e with
  | none => simp [hq] at hs
  | some inf =>
    have hsz : inf.size = 1 := by simpa [hq] using hs
    have hp : (part e cs (i * 1)).run Tryz.prog w = .ok v w := run_part_plain w he (by rw [Nat.mul_one]; exact hv)
    simp only [Instr.index, asIntOf, Sem.run_bind, Sem.run_pure, Result.andThen_ok, run_underlying h, if_pos hin, sizeOf, typeInfo, Int.toNat_natCast]
    simpa [hq, hsz] using hp

set_option maxHeartbeats 1600000 in
theorem take_any (b o : Nat) (h : Hd) (w : World) (a : HdAt w b o h) (k : h.Ok) (hT : Tab w) (hz : ∀ j, w.frozen? ⟨b, j, none⟩ = false) :
    Calls Tryz.prog 29 #[.pointer (some ⟨b, o, none⟩)] w (TakePost b o h w) := by
  have hc := a.count
  have hzz := hz o
  have hcnt := k.cnt
  obtain ⟨cs, hcs⟩ : ∃ cs : List Value, cs = h.free.map (fun x : Nat => Value.int .u64 (x : Int)) := ⟨_, rfl⟩
  have hcl : cs.length = 64 := by rw [hcs]; simp [k.nf]
  have hcv : ∀ i, i < 64 → cs.toArray[i]? = some (.int .u64 (h.word i : Int)) := fun i hi => by
    have h1 : i < h.free.length := by rw [k.nf]; exact hi
    rw [hcs, List.getElem?_toArray, List.getElem?_map, List.getElem?_eq_getElem h1, Hd.word, List.getD_eq_getElem?_getD, List.getElem?_eq_getElem h1]
    rfl
  have hrg : w.rangeAt b (o + 1) cs := fun j v hv => by
    have hj := (List.getElem?_eq_some_iff.1 hv).1
    rw [hcl] at hj
    have h2 := hcv j hj
    rw [List.getElem?_toArray] at h2
    rw [h2] at hv
    cases hv
    exact a.word k hj
  have HR := Lib.hid hrg
  have HI : Hid ((Tryz.prog.info? 34).map (·.size) = some cs.length) := Lib.hid (by rw [hcl]; kernel_rfl)
  have HIX : Hid (∀ i : Nat, i < 64 → ∀ W, (Instr.index 34 (.agg cs.toArray) (.int .i64 i)).run Tryz.prog W = .ok (.int .u64 (h.word i : Int)) W) := Lib.hid (fun i hi W => run_index_row 34 33 64 _ _ i W (by kernel_rfl) (by kernel_rfl) (by kernel_rfl) hi (hcv i hi))
  obtain ⟨X, hX⟩ : ∃ X, X = cs.toArray := ⟨_, rfl⟩
  have HA := Lib.hid a; have HK := Lib.hid k; have HT := Lib.hid hT; have HZ := Lib.hid hz
  obtain ⟨c, hce⟩ : ∃ c, c = h.count := ⟨_, rfl⟩
  rw [← hce] at hc hcnt
  have HCE := Lib.hid hce
  have HX := Lib.hid hX
  clear hcs hcl hcv hrg a k hT hz hce hX
  go_enter Tryz.func29, Tryz.ntmps29
  go_wp2_with (refine wpList_load_mid rfl 34 _ rfl b (o + 1) (by rfl) cs _ HR.out Tryz.underlying34 rfl HI.out ?_)
  rw [← HX.out]
  rw [← HX.out] at HIX
  go_wp2
  go_loop [10] (fun i => ∃ k : Nat, k ≤ 64 ∧ i = .int .i64 k ∧ Hid (∀ j, j < k → h.word j = 0)) (fun i => 64 - (intOf i).toNat)
  case atStart => exact ⟨0, by omega, rfl, Lib.hid (fun j hj => by omega)⟩
  case round =>
    obtain ⟨k, hk, rfl, hz0⟩ := hrel
    by_cases hlt : k < 64
    · have hlt' : (k : Int) < 64 := by omega
      by_cases hx : h.word k = 0
      · have hix : (Instr.index 34 (.agg X) (.int .i64 k)).run Tryz.prog w = .ok (.int .u64 0) w := by rw [HIX.out k hlt w, hx]; rfl
        have hz1 : Hid (∀ j, j < k + 1 → h.word j = 0) := Lib.hid (fun j hj => by
          by_cases hjk : j = k
          · rw [hjk, hx]
          · exact hz0.out j (by omega))
        clear hx
        go_wp2
        go_round
        case rel => exact ⟨k + 1, by omega, by go_num, hz1⟩
        case measure => simp [intOf]; omega
      · have hix := HIX.out k hlt w
        obtain ⟨x, hxe⟩ : ∃ x, x = h.word k := ⟨_, rfl⟩
        have hxlt := HK.out.lt k
        rw [← hxe] at hix hx hxlt
        have hx1 : ((x : Int) != 0) = true := by simp; omega
        obtain ⟨hc64, hbit, hlow⟩ := ctz_bits x hx hxlt
        have HTZ := Lib.hid (tz64_any x hx hxlt w HT.out)
        obtain ⟨t, ht⟩ : ∃ t, t = Lib.ctz 64 x := ⟨_, rfl⟩
        rw [← ht] at hc64 hbit hlow HTZ
        have hq : k * 64 + t < 4096 := by omega
        have hdiv : (k * 64 + t) / 64 = k := by omega
        have hmod : (k * 64 + t) % 64 = t := by omega
        have hfr : h.isFree (k * 64 + t) = true := by unfold Hd.isFree; rw [hdiv, hmod, ← hxe]; exact hbit
        have hmin : ∀ j, j < k * 64 + t → h.isFree j = false := fun j hj => by
          unfold Hd.isFree
          by_cases hjk : j / 64 = k
          · rw [hjk, ← hxe]; exact hlow _ (by omega)
          · rw [hz0.out _ (by omega)]; simp
        have HTN : Hid (Calls Tryz.prog 32 #[.pointer (some ⟨b, o, none⟩), .int .i64 ((k : Int) * 64 + (t : Int))] w fun e w' => e = .returned (.tuple #[]) ∧ Hid (TakePost b o h w (.returned (.int .i64 ((k : Int) * 64 + (t : Int)))) w')) := Lib.hid (by
          have := hturn_any b o h (k * 64 + t) w HA.out HK.out hq HZ.out
          rw [show (k : Int) * 64 + (t : Int) = ((k * 64 + t : Nat) : Int) by omega]
          refine this.mono ?_
          rintro e w' ⟨h1, h2, h3, h4⟩
          exact ⟨h1, Lib.hid (.inl ⟨_, _, .inl ⟨hfr, hmin, rfl⟩, rfl, h2, h3, h4⟩)⟩)
        clear hxe hxlt hbit hlow ht hdiv hmod hfr hmin hx
        go_wp2_with fail
        refine HTZ.out.mono ?_
        rintro e w' ⟨rfl, hw⟩
        subst w'
        go_wp2_with fail
        refine HTN.out.mono ?_
        rintro e w' ⟨rfl, hp⟩
        go_wp2
        go_ret
        exact hp.out
    · obtain rfl : k = 64 := by omega
      have hnf : ∀ j, h.isFree j = false := fun j => by
        cases hf : h.isFree j with
        | false => rfl
        | true =>
          have hj := (HK.out.isFree_lt hf).2.2
          unfold Hd.isFree at hf
          rw [hz0.out _ (by omega)] at hf
          simp at hf
      have HNF := Lib.hid hnf; clear hnf
      by_cases hfull : c = 4095
      · have HE := Lib.hid (show TakePost b o h w (.returned (.int .i64 0)) w from .inr ⟨HNF.out, by rw [← HCE.out, hfull], rfl, rfl⟩)
        subst hfull
        go_wp2
        go_ret
        exact HE.out
      · have hne : ((c : Int) == 4095) = false := by simp; omega
        have HS : Hid (TakePost b o h w (.returned (.int .i64 ((c : Int) + 1))) (w.setCell ⟨b, o, none⟩ (.int .i64 ((c : Int) + 1)))) := Lib.hid (by
          refine .inl ⟨c + 1, h.setCount (c + 1), .inr ⟨HNF.out, by rw [← HCE.out]; omega, by rw [← HCE.out], rfl⟩, rfl, ?_, Touch.setCell (fb := b) (o := o) (n := 81) (i := o) w _ (by omega) (by omega), Kept.setCell (fun k => k = b) w (b := b) rfl _⟩
          exact HA.out.set (i := 0) (v := .int .i64 ((c + 1 : Nat) : Int)) (by rw [Hd.cells_length HK.out]; omega) (Hd.cells_setCount h (c + 1)))
        go_wp2
        go_ret
        exact HS.out
end Go.Proofs.YtgboeolnojpehaaGreatDoor

/- A pool as whoever uses it sees it, and of its disk's raw writes what J says of them: Pin, Unpin, Read, Write, Pins, Held so said. -/
set_option maxRecDepth 100000
namespace Go.Proofs.YtgboeolnojpehaaGreatDoor
open Go.RowKit

/-- A pool that New gave, as it is seen from outside; its disk's raw writes are as J says; all its blocks, the disk's too, are of S, and lie from B on. -/
def PoolJ (J : List RawOp → Prop) (B : Nat) (S : Nat → Prop) (p d n : Nat) (C : Nat → List UInt8) (P : Nat → Nat) (N : Nat) (w : World) : Prop :=
  ∃ fb mb hand m fr Sd ops, J ops ∧ PoolG p d fb mb n hand m fr w ∧ Filled n m fr ∧ DiskAt Sd d ops w ∧ View n fr ops C P N ∧ (¬ Sd p ∧ ¬ Sd fb ∧ ¬ Sd mb) ∧ (∀ k, Sd k ∨ k = p ∨ k = fb ∨ k = mb → S k) ∧ ∀ k, S k → B ≤ k ∧ k < w.heap.size

section
variable {B p d n N : Nat} {S : Nat → Prop} {w w' : World} {C : Nat → List UInt8} {P : Nat → Nat} {J : List RawOp → Prop}
theorem PoolJ.size (h : PoolJ J B S p d n C P N w) : B ≤ w.heap.size := by
  obtain ⟨fb, mb, hand, m, fr, Sd, ops, hJ, h1, _, _, _, _, h6, h7⟩ := h
  have := h7 p (h6 p (.inr (.inl rfl)))
  omega
theorem PoolJ.low (h : PoolJ J B S p d n C P N w) : ∀ k, S k → B ≤ k ∧ k < w.heap.size := by
  obtain ⟨fb, mb, hand, m, fr, Sd, ops, hJ, h1, _, _, _, _, h6, h7⟩ := h
  exact h7
theorem PoolJ.more (h : PoolJ J B S p d n C P N w) {M : Nat} (hM : N ≤ M) : PoolJ J B S p d n C P M w := by
  obtain ⟨fb, mb, hand, m, fr, Sd, ops, hJ, h1, h2, h3, h4, h5⟩ := h
  exact ⟨fb, mb, hand, m, fr, Sd, ops, hJ, h1, h2, h3, h4.more hM, h5⟩
theorem PoolJ.kept {T : Nat → Prop} (h : PoolJ J B S p d n C P N w) (hk : Kept T w w') (hd : ∀ k, k < w.heap.size → S k → ¬ T k) : PoolJ J B S p d n C P N w' := by
  obtain ⟨fb, mb, hand, m, fr, Sd, ops, hJ, h1, h2, h3, h4, h5, h6, h7⟩ := h
  have hn : ∀ k, Sd k ∨ k = p ∨ k = fb ∨ k = mb → ¬ T k := fun k hk' => hd k (h7 k (h6 k hk')).2 (h6 k hk')
  refine ⟨fb, mb, hand, m, fr, Sd, ops, hJ, h1.kept hk (hn p (.inr (.inl rfl))) (hn fb (.inr (.inr (.inl rfl)))) (hn mb (.inr (.inr (.inr rfl)))), h2, h3.kept hk (fun k _ hs => hn k (.inl hs)), h4, h5, h6, fun k hs => ⟨(h7 k hs).1, Nat.lt_of_lt_of_le (h7 k hs).2 hk.size⟩⟩
theorem PoolJ.below (h : PoolJ J B S p d n C P N w) (hk : Below w.heap.size w w') : PoolJ J B S p d n C P N w' :=
  h.kept (Kept.ofBelow (S := fun _ => False) hk) (fun _ _ _ => id)
theorem PoolJ.toBelow {S' : Nat → Prop} (h : PoolJ J B S p d n C P N w) (ht : Turn S w S' w') : Below B w w' := ht.1.toBelow h.size (fun k hk => (h.low k hk).1)

/-- A pool's state out of its parts, behind a turn. -/
theorem poolJ_mk {fb mb hand m : Nat} {fr : Nat → Option Fr} {Sd : Nat → Prop} {ops : List RawOp} (hJ : J ops) (h1 : PoolG p d fb mb n hand m fr w') (h2 : Filled n m fr) (h3 : DiskAt Sd d ops w') (h4 : View n fr ops C P N) (h5 : ¬ Sd p ∧ ¬ Sd fb ∧ ¬ Sd mb)
    (h6 : ∀ k, Sd k → S k ∨ w.heap.size ≤ k) (h7 : S p ∧ S fb ∧ S mb) (h8 : ∀ k, S k → B ≤ k ∧ k < w.heap.size) (h9 : Kept S w w') : ∃ S', Turn S w S' w' ∧ PoolJ J B S' p d n C P N w' := by
  refine ⟨fun k => (S k ∨ w.heap.size ≤ k) ∧ k < w'.heap.size, ⟨h9, fun k hk hs => hs.1.elim id (by omega)⟩, fb, mb, hand, m, fr, fun k => Sd k ∧ k < w'.heap.size, ops, hJ, h1, h2, h3.bound, h4, ⟨fun h => h5.1 h.1, fun h => h5.2.1 h.1, fun h => h5.2.2 h.1⟩, ?_, ?_⟩
  · rintro k (⟨h, hlt⟩ | rfl | rfl | rfl)
    · exact ⟨h6 k h, hlt⟩
    · exact ⟨.inl h7.1, h1.lt⟩
    · exact ⟨.inl h7.2.1, h1.ltF⟩
    · exact ⟨.inl h7.2.2, h1.ltM⟩
  · rintro k ⟨hk, hlt⟩
    refine ⟨hk.elim (fun h => (h8 k h).1) (fun h => ?_), hlt⟩
    have := h8 p h7.1
    omega
end

def PinPostJ (J : List RawOp → Prop) (B : Nat) (S : Nat → Prop) (p d n : Nat) (C : Nat → List UInt8) (P : Nat → Nat) (N q : Nat) (w : World) (e : Ending) (w' : World) : Prop :=
  ∃ S', Turn S w S' w' ∧ (e = .returned (.int .i64 40) ∧ P q = 0 ∧ pinnedN P = n ∧ PoolJ J B S' p d n C P N w' ∨ e = .returned (.int .i64 0) ∧ ¬ (P q = 0 ∧ pinnedN P = n) ∧ PoolJ J B S' p d n C (upd P q (P q + 1)) (N + 1) w')

theorem pin_j (J : List RawOp → Prop) (B : Nat) (S : Nat → Prop) (p d n : Nat) (C : Nat → List UInt8) (P : Nat → Nat) (N q : Nat) (w : World) (h : PoolJ J B S p d n C P N w) (hN : N ≤ 4398046511104) (hq : q < 4096) (hcl : ∀ ops q, J ops → J (ops ++ [.put 1 (q * 512) ⟨(C q).toArray⟩])) :
    Calls Tryz.prog 49 #[.pointer (some ⟨p, 0, none⟩), .int .i64 q] w (PinPostJ J B S p d n C P N q w) := by
  obtain ⟨fb, mb, hand, m, fr, Sd, ops, hJ, hG, hF, hD, hV, hO, hS, hB⟩ := h
  have hSS : S p ∧ S fb ∧ S mb := ⟨hS p (.inr (.inl rfl)), hS fb (.inr (.inr (.inl rfl))), hS mb (.inr (.inr (.inr rfl)))⟩
  by_cases hx : ∃ i f, fr i = some f ∧ f.page = q
  · -- a frame holds it
    obtain ⟨i, f, hi, rfl⟩ := hx
    obtain ⟨hin, _, hfb, _⟩ := hG.at_ i f hi
    obtain ⟨hC, hP, _⟩ := hV.held i f hi
    have hpn : f.pins ≤ N := by rw [← hP]; exact hV.bnd _
    refine (pin_held p d fb mb n hand m i fr f w hG hi (by omega)).mono ?_
    rintro e w' ⟨rfl, g1, g2⟩
    have hV2 := hV.turn hG.one hi hin (f' := { f with pins := f.pins + 1, lately := true }) rfl (fun h => ⟨h, rfl⟩) (by show f.pins + 1 ≤ N + 1; omega)
    have hC2 : upd C f.page f.bytes = C := by rw [← hC]; exact upd_self _ _
    have hV3 : View n (upd fr i (some { f with pins := f.pins + 1, lately := true })) ops C (upd P f.page (P f.page + 1)) (N + 1) := by
      rw [hP]; rw [show ({ f with pins := f.pins + 1, lately := true } : Fr).bytes = f.bytes from rfl, hC2] at hV2; exact hV2
    obtain ⟨S', hT, hSt⟩ := poolJ_mk (S := S) (B := B) (w := w) hJ g1 ⟨hF.1, fun j => by
      rw [hF.2 j]
      by_cases hj : j = i
      · subst hj; rw [upd_same]; exact ⟨fun _ => ⟨_, rfl⟩, fun _ => ⟨f, hi⟩⟩
      · rw [upd_other _ _ hj]⟩ (hD.kept g2 (fun k _ hs e => hO.2.1 (e ▸ hs))) hV3 hO (fun k hk => .inl (hS k (.inl hk))) hSS hB (g2.mono (fun k hk => hk ▸ hSS.2.1))
    refine ⟨S', hT, .inr ⟨rfl, ?_, hSt⟩⟩
    rintro ⟨h0, h1⟩
    exact full_no hG hV hin (fun g hg => by rw [hi] at hg; cases hg; omega) h1
  · have hno : ∀ j f, fr j = some f → f.page ≠ q := fun j f hj e => hx ⟨j, f, hj, e⟩
    have hP0 := (hV.free q hno).2
    by_cases hm : m < n
    · -- a frame is free
      have hnone : fr m = none := by
        cases hf : fr m with
        | none => rfl
        | some f => have := (hF.2 m).2 ⟨f, hf⟩; omega
      have hs : Calls Tryz.prog 73 #[.pointer (some ⟨p, 0, none⟩)] w fun e w' => ∃ i hand' m' fr' S ops', e = .returned (ptrFr fb i) ∧ Spared S p d fb mb n q hand' m' fr' ops' i w' ∧ (i = m ∧ m' = m ∧ fr' = fr ∧ S = Sd ∧ ops' = ops ∧ w' = w) :=
        (spare_free p d fb mb n hand m fr w hG hm).mono fun e w' ⟨h1, h2⟩ => ⟨m, hand, m, fr, Sd, ops, h1, by subst h2; exact ⟨hG, hnone, hm, hF.1, hno, hD, hO.1, hO.2.1, hO.2.2⟩, rfl, rfl, rfl, rfl, rfl, h2⟩
      refine (pin_new p d fb mb n hand m fr q (fun i m' fr' S ops' w' => i = m ∧ m' = m ∧ fr' = fr ∧ S = Sd ∧ ops' = ops ∧ w' = w) w hG hq hno hs).mono ?_
      rintro e w' ⟨rfl, i, hand', m', fr', S2, ops', w1, _, ⟨hX1, hX2, hX3, hX4, hX5, hX6⟩, g1, g2, g3⟩
      subst hX2 hX3 hX4 hX5 hX6
      rw [hX1] at g1
      obtain ⟨S', hT, hSt⟩ := poolJ_mk (S := S) (B := B) (w := w1) hJ g1 ⟨hm, fun j => by
        by_cases hj : j = m'
        · subst hj; rw [upd_same]; exact ⟨fun _ => ⟨_, rfl⟩, fun _ => by omega⟩
        · rw [upd_other _ _ hj, ← hF.2 j]; omega⟩ g2 (hV.load hnone hm hno) hO (fun k hk => .inl (hS k (.inl hk))) hSS hB (g3.mono (fun k hk => by rcases hk with rfl | rfl; exact hSS.2.1; exact hSS.2.2))
      refine ⟨S', hT, .inr ⟨rfl, ?_, ?_⟩⟩
      · rintro ⟨_, h1⟩
        exact full_no hG hV hm (fun g hg => by rw [hnone] at hg; cases hg) h1
      · rw [hP0]; exact hSt
    · have hmn : m = n := by have := hF.1; omega
      have hsp := spare_full p d fb mb n hand m fr Sd ops w hG hF hmn hD (by have := hV.cost; omega) hO.1 hO.2.1 hO.2.2
      by_cases hall : ∀ i, i < n → ∃ f, fr i = some f ∧ 0 < f.pins
      · -- all are pinned
        have hs : Calls Tryz.prog 73 #[.pointer (some ⟨p, 0, none⟩)] w fun e w' => e = .returned (.pointer none) ∧ ∃ hand' fr', Late fr fr' ∧ PoolG p d fb mb n hand' m fr' w' ∧ Kept (fun k => k = p ∨ k = fb) w w' := by
          refine hsp.mono ?_
          rintro e w' ⟨hand', fr', hL, he | ⟨i, f, S', hin, hi, hp, _⟩⟩
          · exact ⟨he.1, hand', fr', hL, he.2.1, he.2.2.2⟩
          · exfalso
            obtain ⟨f0, hf0, _, e2, _⟩ := late_some hL hi
            obtain ⟨g, hg, hgp⟩ := hall i hin
            rw [hf0] at hg; cases hg
            omega
        refine (pin_nil p d fb mb n hand m fr q (fun w' => ∃ hand' fr', Late fr fr' ∧ PoolG p d fb mb n hand' m fr' w' ∧ Kept (fun k => k = p ∨ k = fb) w w') w hG hq hno hs).mono ?_
        rintro e w' ⟨rfl, hand', fr', hL, g1, g2⟩
        obtain ⟨S', hT, hSt⟩ := poolJ_mk (S := S) (B := B) (w := w) hJ g1 ⟨hF.1, fun j => by
          rw [hF.2 j]
          constructor
          · rintro ⟨f, hf⟩; obtain ⟨b, hb⟩ := late_back hL hf; exact ⟨_, hb⟩
          · rintro ⟨f, hf⟩; obtain ⟨f0, hf0, _⟩ := late_some hL hf; exact ⟨_, hf0⟩⟩ (hD.kept g2 (fun k _ hsd e => by rcases e with rfl | rfl; exact hO.1 hsd; exact hO.2.1 hsd)) (hV.late hL) hO (fun k hk => .inl (hS k (.inl hk))) hSS hB (g2.mono (fun k hk => by rcases hk with rfl | rfl; exact hSS.1; exact hSS.2.1))
        exact ⟨S', hT, .inl ⟨rfl, hP0, full_yes hG hV hall, hSt⟩⟩
      · -- one is taken from another page
        obtain ⟨i0, hi0, hp0⟩ : ∃ i, i < n ∧ ∀ f, fr i = some f → f.pins = 0 := by
          refine Classical.byContradiction fun hc => hall fun i hi => ?_
          obtain ⟨f, hf⟩ := (hF.2 i).1 (by omega)
          refine ⟨f, hf, ?_⟩
          refine Classical.byContradiction fun hc2 => hc ⟨i, hi, fun g hg => ?_⟩
          rw [hf] at hg; cases hg; omega
        have hs : Calls Tryz.prog 73 #[.pointer (some ⟨p, 0, none⟩)] w fun e w' => ∃ i hand' m' fr2 S2 ops', e = .returned (ptrFr fb i) ∧ Spared S2 p d fb mb n q hand' m' fr2 ops' i w' ∧
            (m' = m - 1 ∧ (∃ fr1 f, Late fr fr1 ∧ fr1 i = some f ∧ f.pins = 0 ∧ fr2 = upd fr1 i none ∧ ops' = saved f ops ∧ f.bytes.length = 512) ∧ Kept (fun k => Sd k ∨ k = p ∨ k = fb ∨ k = mb) w w' ∧ ∀ k, S2 k → Sd k ∨ w.heap.size ≤ k) := by
          refine hsp.mono ?_
          rintro e w' ⟨hand', fr', hL, ⟨_, _, ha, _⟩ | ⟨i, f, S2, hin, hi, hp, he, g1, g2, g3, g4⟩⟩
          · exfalso
            obtain ⟨f, hf⟩ := (hF.2 i0).1 (by omega)
            obtain ⟨b, hb⟩ := late_back hL hf
            have h1 := ha i0 _ hi0 hb
            have h2 := hp0 f hf
            simp only at h1
            omega
          · obtain ⟨f0, hf0, _, _, _, e4⟩ := late_some hL hi
            have hbl : f.bytes.length = 512 := by rw [e4]; exact (hG.at_ i f0 hf0).2.2.1
            refine ⟨i, hand', m - 1, upd fr' i none, S2, saved f ops, he, ⟨g1, upd_same _ _ _, hin, by omega, fun j g hg => ?_, g2, ?_, ?_, ?_⟩, rfl, ⟨fr', f, hL, hi, hp, rfl, rfl, hbl⟩, g3, g4⟩
            · by_cases hj : j = i
              · subst hj; rw [upd_same] at hg; cases hg
              · rw [upd_other _ _ hj] at hg
                obtain ⟨g0, hg0, e1, _⟩ := late_some hL hg
                rw [e1]; exact hno j g0 hg0
            · exact fun hh => (g4 p hh).elim hO.1 (by have := hG.lt; omega)
            · exact fun hh => (g4 fb hh).elim hO.2.1 (by have := hG.ltF; omega)
            · exact fun hh => (g4 mb hh).elim hO.2.2 (by have := hG.ltM; omega)
        refine (pin_new p d fb mb n hand m fr q _ w hG hq hno hs).mono ?_
        rintro e w' ⟨rfl, i, hand', m', fr2, S2, ops', w1, hSp, ⟨rfl, ⟨fr1, f, hL, hi, hp, rfl, rfl, hbl⟩, k1, k2⟩, g1, g2, g3⟩
        have one1 : ∀ a b x y, fr1 a = some x → fr1 b = some y → x.page = y.page → a = b := fun a b x y hx hy hxy => by
          obtain ⟨x0, hx0, ex, _⟩ := late_some hL hx
          obtain ⟨y0, hy0, ey, _⟩ := late_some hL hy
          exact hG.one a b x0 y0 hx0 hy0 (by omega)
        have hV1 := (hV.late hL).evict one1 hi hSp.lt hbl hp
        have hV2 := hV1.load hSp.none_ hSp.lt hSp.no
        have hn1 := hG.n1
        have hJ2 : J (saved f ops) := by
          unfold saved
          cases hc : f.changed
          · exact hJ
          · have := hcl ops f.page hJ
            rwa [((hV.late hL).held i f hi).1] at this
        obtain ⟨S', hT, hSt⟩ := poolJ_mk (S := S) (B := B) (w := w) hJ2 g1 ⟨by omega, fun j => by
          by_cases hj : j = i
          · subst hj; rw [upd_same]
            have := hSp.lt
            exact ⟨fun _ => ⟨_, rfl⟩, fun _ => by omega⟩
          · rw [upd_other _ _ hj, upd_other _ _ hj]
            rw [show j < m - 1 + 1 ↔ j < m from by omega, hF.2 j]
            constructor
            · rintro ⟨f, hf⟩; obtain ⟨b, hb⟩ := late_back hL hf; exact ⟨_, hb⟩
            · rintro ⟨f, hf⟩; obtain ⟨f0, hf0, _⟩ := late_some hL hf; exact ⟨_, hf0⟩⟩ g2 hV2 ⟨hSp.oP, hSp.oF, hSp.oM⟩ (fun k hk => (k2 k hk).imp (fun h => hS k (.inl h)) id) hSS hB
          ((k1.mono (fun k hk => hS k hk)).trans g3 (fun k hk => by rcases hk with rfl | rfl; exact .inl hSS.2.1; exact .inl hSS.2.2))
        refine ⟨S', hT, .inr ⟨rfl, ?_, ?_⟩⟩
        · rintro ⟨_, h1⟩
          exact full_no hG hV hi0 hp0 h1
        · rw [hP0]; exact hSt
section
variable {B p d n N : Nat} {S : Nat → Prop} {w : World} {C : Nat → List UInt8} {P : Nat → Nat} {J : List RawOp → Prop}

theorem pinned_j_no (h : PoolJ J B S p d n C P N w) (q : Int) (hq : (Lit.int .i64 q).wf = true) (hn : NoPins P q) :
    Calls Tryz.prog 65 #[.pointer (some ⟨p, 0, none⟩), .int .i64 q] w fun e w' => e = .returned (.tuple #[.pointer none, .int .i64 3]) ∧ w' = w := by
  obtain ⟨fb, mb, hand, m, fr, Sd, ops, hJ, hG, _, _, hV, _⟩ := h
  exact pinned_no p d fb mb n hand m fr q w hG hq (fun i f hi e => by rw [← (hV.held i f hi).2.1]; exact hn _ e)

theorem unpin_j_no (h : PoolJ J B S p d n C P N w) (q : Int) (hq : (Lit.int .i64 q).wf = true) (hn : NoPins P q) :
    Calls Tryz.prog 51 #[.pointer (some ⟨p, 0, none⟩), .int .i64 q] w fun e w' => e = .returned (.int .i64 3) ∧ w' = w := unpin_code _ q 3 w (.inr rfl) (pinned_j_no h q hq hn)
theorem read_j_no (h : PoolJ J B S p d n C P N w) (q : Int) (hq : (Lit.int .i64 q).wf = true) (hn : NoPins P q) :
    Calls Tryz.prog 50 #[.pointer (some ⟨p, 0, none⟩), .int .i64 q] w fun e w' => e = .returned (.tuple #[.string ⟨#[]⟩, .int .i64 3]) ∧ w' = w := pread_code _ q 3 w (.inr rfl) (pinned_j_no h q hq hn)
theorem pins_j_no (h : PoolJ J B S p d n C P N w) (q : Int) (hq : (Lit.int .i64 q).wf = true) (hn : NoPins P q) :
    Calls Tryz.prog 39 #[.pointer (some ⟨p, 0, none⟩), .int .i64 q] w fun e w' => e = .returned (.int .i64 0) ∧ w' = w := pins_code _ q 3 w (.inr rfl) (pinned_j_no h q hq hn)
theorem write_j_no (h : PoolJ J B S p d n C P N w) (q a : Int) (s : ByteArray) (hq : (Lit.int .i64 q).wf = true) (hn : NoPins P q) :
    Calls Tryz.prog 71 #[.pointer (some ⟨p, 0, none⟩), .int .i64 q, .int .i64 a, .string s] w fun e w' => e = .returned (.int .i64 3) ∧ w' = w := pwrite_code _ q a 3 s w (.inr rfl) (pinned_j_no h q hq hn)

theorem read_j (h : PoolJ J B S p d n C P N w) (q : Nat) (hp : 0 < P q) :
    Calls Tryz.prog 50 #[.pointer (some ⟨p, 0, none⟩), .int .i64 q] w fun e w' => e = .returned (.tuple #[.string ⟨(C q).toArray⟩, .int .i64 0]) ∧ w' = w := by
  obtain ⟨fb, mb, hand, m, fr, Sd, ops, hJ, hG, _, _, hV, _⟩ := h
  obtain ⟨i, f, hi, rfl, _, hfp, _⟩ := holder hG hV hp
  rw [(hV.held i f hi).1]
  exact pread_yes p d fb mb n hand m i fr f w hG hi (by omega)
theorem pins_j (h : PoolJ J B S p d n C P N w) (q : Nat) (hp : 0 < P q) :
    Calls Tryz.prog 39 #[.pointer (some ⟨p, 0, none⟩), .int .i64 q] w fun e w' => e = .returned (.int .i64 (P q)) ∧ w' = w := by
  obtain ⟨fb, mb, hand, m, fr, Sd, ops, hJ, hG, _, _, hV, _⟩ := h
  obtain ⟨i, f, hi, rfl, _, hfp, _⟩ := holder hG hV hp
  rw [← hfp]
  exact pins_yes p d fb mb n hand m i fr f w hG hi (by omega)
theorem write_j_bad (h : PoolJ J B S p d n C P N w) (q : Nat) (a : Int) (s : ByteArray) (hp : 0 < P q) (hs : s.size ≤ 9223372036854775807) (hn : ¬ (0 ≤ a ∧ a + s.size ≤ 512)) :
    Calls Tryz.prog 71 #[.pointer (some ⟨p, 0, none⟩), .int .i64 q, .int .i64 a, .string s] w fun e w' => e = .returned (.int .i64 1) ∧ w' = w := by
  obtain ⟨fb, mb, hand, m, fr, Sd, ops, hJ, hG, _, _, hV, _⟩ := h
  obtain ⟨i, f, hi, rfl, _, hfp, _⟩ := holder hG hV hp
  exact pwrite_no p d fb mb n hand m i fr f a s w hG hi (by omega) hs hn

theorem len_j (h : PoolJ J B S p d n C P N w) (hp : ∀ q, C q = C q) (q : Nat) (hq : 0 < P q) : (C q).length = 512 := by
  obtain ⟨fb, mb, hand, m, fr, Sd, ops, hJ, hG, _, _, hV, _⟩ := h
  obtain ⟨i, f, hi, rfl, _⟩ := holder hG hV hq
  rw [(hV.held i f hi).1]
  have := hp
  exact (hG.at_ i f hi).2.2.1

/-- What a call leaves that turns one pinned page. -/
def StPostJ (J : List RawOp → Prop) (B : Nat) (S : Nat → Prop) (p d n : Nat) (C : Nat → List UInt8) (P : Nat → Nat) (N : Nat) (w : World) (e : Ending) (w' : World) : Prop :=
  e = .returned (.int .i64 0) ∧ ∃ S', Turn S w S' w' ∧ PoolJ J B S' p d n C P N w'

theorem turn_j {fb mb hand m i : Nat} {fr : Nat → Option Fr} {Sd : Nat → Prop} {ops : List RawOp} {f f' : Fr} {w' : World} (hJ : J ops) (hG : PoolG p d fb mb n hand m fr w) (hF : Filled n m fr) (hD : DiskAt Sd d ops w) (hV : View n fr ops C P N) (hO : ¬ Sd p ∧ ¬ Sd fb ∧ ¬ Sd mb) (hS : ∀ k, Sd k ∨ k = p ∨ k = fb ∨ k = mb → S k) (hB : ∀ k, S k → B ≤ k ∧ k < w.heap.size)
    (hi : fr i = some f) (hFr : FrAt w' fb (i * 516) f') (hT : Touch fb (i * 516) 516 w w') (hK : Kept (fun k => k = fb) w w') (hb : f'.bytes.length = 512) (hpg : f'.page = f.page) (hc : f'.changed = false → f.changed = false ∧ f'.bytes = f.bytes) (hN : f'.pins ≤ N + 1) :
    ∃ S', Turn S w S' w' ∧ PoolJ J B S' p d n (upd C f.page f'.bytes) (upd P f.page f'.pins) (N + 1) w' := by
  have hSS : S p ∧ S fb ∧ S mb := ⟨hS p (.inr (.inl rfl)), hS fb (.inr (.inr (.inl rfl))), hS mb (.inr (.inr (.inr rfl)))⟩
  exact poolJ_mk hJ (hG.turnFr hi hT hK hFr hb hpg) ⟨hF.1, fun j => by
      rw [hF.2 j]
      by_cases hj : j = i
      · subst hj; rw [upd_same]; exact ⟨fun _ => ⟨_, rfl⟩, fun _ => ⟨f, hi⟩⟩
      · rw [upd_other _ _ hj]⟩ (hD.kept hK (fun k _ hs e => hO.2.1 (e ▸ hs))) (hV.turn hG.one hi (hG.at_ i f hi).1 hpg hc hN) hO (fun k hk => .inl (hS k (.inl hk))) hSS hB (hK.mono (fun k hk => hk ▸ hSS.2.1))

theorem unpin_j (h : PoolJ J B S p d n C P N w) (q : Nat) (hp : 0 < P q) (hN : N ≤ 4398046511104) :
    Calls Tryz.prog 51 #[.pointer (some ⟨p, 0, none⟩), .int .i64 q] w (StPostJ J B S p d n C (upd P q (P q - 1)) (N + 1) w) := by
  obtain ⟨fb, mb, hand, m, fr, Sd, ops, hJ, hG, hF, hD, hV, hO, hS, hB⟩ := h
  obtain ⟨i, f, hi, rfl, _, hfp, _⟩ := holder hG hV hp
  have hb := hV.bnd f.page
  refine (unpin_yes p d fb mb n hand m i fr f w hG hi (by omega) (by omega)).mono ?_
  rintro e w' ⟨rfl, g1, g2, g3⟩
  obtain ⟨S', hT, hSt⟩ := turn_j hJ hG hF hD hV hO hS hB hi g1 g2 g3 (hG.at_ i f hi).2.2.1 rfl (fun h => ⟨h, rfl⟩) (by show f.pins - 1 ≤ N + 1; omega)
  refine ⟨rfl, S', hT, ?_⟩
  have hC := (hV.held i f hi).1
  rw [show ({ f with pins := f.pins - 1 } : Fr).bytes = C f.page from hC.symm, upd_self] at hSt
  rw [← hfp]; exact hSt

theorem write_j (h : PoolJ J B S p d n C P N w) (q a : Nat) (s : ByteArray) (hp : 0 < P q) (ha : a + s.size ≤ 512) :
    Calls Tryz.prog 71 #[.pointer (some ⟨p, 0, none⟩), .int .i64 q, .int .i64 a, .string s] w (StPostJ J B S p d n (upd C q (splice (C q) a s.data.toList)) P (N + 1) w) := by
  obtain ⟨fb, mb, hand, m, fr, Sd, ops, hJ, hG, hF, hD, hV, hO, hS, hB⟩ := h
  obtain ⟨i, f, hi, rfl, _, hfp, _⟩ := holder hG hV hp
  have hb := hV.bnd f.page
  have hbl := (hG.at_ i f hi).2.2.1
  refine (pwrite_yes p d fb mb n hand m i a fr f s w hG hi (by omega) ha).mono ?_
  rintro e w' ⟨rfl, g1, g2, g3⟩
  have he : s.data.toList.length = s.size := rfl
  obtain ⟨S', hT, hSt⟩ := turn_j hJ hG hF hD hV hO hS hB hi g1 g2 g3 (by show (splice f.bytes a s.data.toList).length = 512; rw [length_splice _ _ _ (by rw [he, hbl]; exact ha)]; exact hbl) rfl (fun h => by
    simp only [Bool.or_eq_false_iff, decide_eq_false_iff_not, ne_eq, Classical.not_not] at h
    refine ⟨h.1, ?_⟩
    have : s.data.toList = [] := List.eq_nil_of_length_eq_zero (by rw [he, h.2])
    show splice f.bytes a s.data.toList = f.bytes
    rw [this, splice_nil]) (by show f.pins ≤ N + 1; omega)
  refine ⟨rfl, S', hT, ?_⟩
  have hC := (hV.held i f hi).1
  have hP := (hV.held i f hi).2.1
  rw [show ({ f with bytes := splice f.bytes a s.data.toList, changed := f.changed || decide (s.size ≠ 0) } : Fr).bytes = splice f.bytes a s.data.toList from rfl, show ({ f with bytes := splice f.bytes a s.data.toList, changed := f.changed || decide (s.size ≠ 0) } : Fr).pins = P f.page from hP.symm, upd_self] at hSt
  rw [hC]; exact hSt

theorem held_j (h : PoolJ J B S p d n C P N w) :
    Calls Tryz.prog 38 #[.pointer (some ⟨p, 0, none⟩)] w fun e w' => ∃ v l, e = .returned v ∧ RowAt w.heap.size w' v (asInts l) ∧ l.length ≤ n ∧ l.Pairwise (· < ·) ∧ (∀ q : Nat, 0 < P q → (q : Int) ∈ l) ∧ (∀ q : Int, q ∈ l → 0 ≤ q ∧ q < 4096) ∧ Below w.heap.size w w' := by
  obtain ⟨fb, mb, hand, m, fr, Sd, ops, hJ, hG, hF, hD, hV, hO, hS, hB⟩ := h
  refine (held_any p d fb mb n hand m fr w hG hF.1).mono ?_
  rintro e w' ⟨v, l, he, h1, h2, h3, h4, h5⟩
  refine ⟨v, l, he, h1, h2, h3, fun q hq => (h4 q).2 ?_, fun q hq => ?_, h5⟩
  rotate_left
  · obtain ⟨i, f, hi, rfl⟩ := (h4 q).1 hq
    have := (hG.at_ i f hi).2.2.2
    omega
  obtain ⟨i, f, hi, e1, _⟩ := holder hG hV hq
  exact ⟨i, f, hi, by rw [e1]⟩

end
end Go.Proofs.YtgboeolnojpehaaGreatDoor

/- The log's Append on a disk of whatever history; the disk under a pool that is in use. -/
set_option maxRecDepth 100000
namespace Go.Proofs.YtgboeolnojpehaaGreatDoor
open Go.RowKit

/-- What Append leaves of a disk. -/
def LogPost (S : Nat → Prop) (d : Nat) (ops : List RawOp) (rs : List ByteArray) (s : ByteArray) (w : World) (e : Ending) (w' : World) : Prop :=
  e = .returned (.int .i64 (appCode rs s)) ∧ ∃ S' ops', DiskAt S' d ops' w' ∧ (ops' = if appCode rs s = 0 then ops ++ [.put 0 (logB rs).length ⟨(frm s (rs.length + 1)).toArray⟩] else ops) ∧ Kept S w w' ∧ ∀ k, S' k → S k ∨ w.heap.size ≤ k

theorem log_same {S : Nat → Prop} {d : Nat} {ops : List RawOp} {rs : List ByteArray} {s : ByteArray} {w w' : World} (h : DiskAt S d ops w) (hb : Below w.heap.size w w') (hc : appCode rs s ≠ 0) :
    ∃ S' ops', DiskAt S' d ops' w' ∧ (ops' = if appCode rs s = 0 then ops ++ [.put 0 (logB rs).length ⟨(frm s (rs.length + 1)).toArray⟩] else ops) ∧ Kept S w w' ∧ ∀ k, S' k → S k ∨ w.heap.size ≤ k :=
  ⟨S, ops, h.below hb, by rw [if_neg hc], Kept.ofBelow hb, fun _ hk => .inl hk⟩

set_option maxHeartbeats 400000 in
theorem lappend_bad (l d : Nat) (S : Nat → Prop) (ops : List RawOp) (rs : List ByteArray) (s : ByteArray) (w : World) (h : DiskAt S d ops w) (hl : LogOn l d w) (hs : s.size = 0 ∨ 1048576 < s.size) :
    Calls Tryz.prog 57 #[.pointer (some ⟨l, 0, none⟩), .string s] w (LogPost S d ops rs s w) := by
  have HG := Lib.hid (lgiven_self l w hl.self)
  have hc : appCode rs s = 30 := by rw [appCode, if_pos hs]
  have HP := Lib.hid (show LogPost S d ops rs s w (.returned (.int .i64 30)) w from ⟨by rw [hc], log_same h (Below.refl _ _) (by rw [hc]; decide)⟩)
  have hcase : s.toList.isEmpty = true ∨ s.toList.isEmpty = false ∧ (1048576 : Int) < s.size := by
    cases he : s.toList.isEmpty
    · refine .inr ⟨rfl, ?_⟩
      rcases hs with h0 | h0
      · exfalso
        have : s.data.toList = [] := List.eq_nil_of_length_eq_zero (show s.size = 0 from h0)
        rw [ByteArray.toList_eq, this] at he
        cases he
      · omega
    · exact .inl rfl
  clear h hl hs hc
  rcases hcase with he | ⟨he, hgt⟩
  all_goals
    go_enter Tryz.func57, Tryz.ntmps57
    go_wp2_with fail
    refine HG.out.mono ?_
    rintro e w' ⟨rfl, hw⟩
    subst w'
    go_wp2
    go_ret
    exact HP.out

set_option maxHeartbeats 3200000 in
theorem lappend_good (l d : Nat) (S : Nat → Prop) (ops : List RawOp) (rs : List ByteArray) (s : ByteArray) (w : World) (h : DiskAt S d ops w) (hl : LogOn l d w) (ho : ¬ S l) (hp : play ops 0 = logB rs) (hrs : Recs rs) (hll : ops.length ≤ 4398046511104) (hs : ¬ (s.size = 0 ∨ 1048576 < s.size)) :
    Calls Tryz.prog 57 #[.pointer (some ⟨l, 0, none⟩), .string s] w (LogPost S d ops rs s w) := by
  have HG := Lib.hid (lgiven_self l w hl.self)
  have hdisk := hl.disk
  have hlw := hl.lt
  obtain ⟨hlen, hn9⟩ : (logB rs).length ≤ 4194304 ∧ 9 * rs.length ≤ 4194304 := by
    have h1 := play_length h.1 0
    rw [hp] at h1
    have := logB_length hrs
    omega
  obtain ⟨L, hL⟩ : ∃ L, L = (logB rs).length := ⟨_, rfl⟩
  obtain ⟨n, hn⟩ : ∃ n, n = rs.length := ⟨_, rfl⟩
  obtain ⟨F, hF⟩ : ∃ F : ByteArray, F = ⟨(frm s (n + 1)).toArray⟩ := ⟨_, rfl⟩
  have hFs : F.size = s.size + 8 := by rw [hF, str_size, frm_length]
  have he : s.toList.isEmpty = false := by
    rw [ByteArray.toList_eq]
    cases e : s.data.toList with
    | nil => exact absurd (Or.inl (show s.size = 0 from by have : s.data.toList.length = s.size := rfl; rw [e] at this; exact this.symm)) hs
    | cons c r => rfl
  have hgt : ¬ (1048576 : Int) < s.size := by omega
  have HH := Lib.hid h
  have HPL := Lib.hid hp
  have HRS := Lib.hid hrs
  rw [← hn] at hn9
  rw [← hL] at hlen
  have hn1 : ((n : Int) + 1) = ((n + 1 : Nat) : Int) := by omega
  obtain ⟨c, hc⟩ : ∃ c, c = appCode rs s := ⟨_, rfl⟩
  have HSZ : Hid (∀ W, Below w.heap.size w W → Calls Tryz.prog 43 #[.pointer (some ⟨d, 0, none⟩), .int .i64 0] W fun e w' => e = .returned (.int .i64 L) ∧ W = w') := Lib.hid (fun W hb => (size_ok 0 S d ops W (HH.out.below hb) (by omega)).mono fun e w' ⟨h1, h2⟩ => ⟨by rw [h1, HPL.out, hL], h2.symm⟩)
  have HLN : Hid (∀ W, Below w.heap.size w W → Calls Tryz.prog 81 #[.pointer (some ⟨l, 0, none⟩)] W fun e w' => e = .returned (.int .i64 n) ∧ Below w.heap.size w w') := Lib.hid (fun W hb => (len_ok S l d ops rs W (HH.out.below hb) (hl.below hb) HPL.out HRS.out).mono fun e w' ⟨h1, h2⟩ => ⟨by rw [h1, hn], hb.trans (h2.mono hb.size)⟩)
  have HFR : Hid (∀ W, Below w.heap.size w W → Calls Tryz.prog 80 #[.string s, .int .i64 ((n : Int) + 1)] W fun e w' => e = .returned (.string F) ∧ Below w.heap.size w w') := Lib.hid (fun W hb => by
    rw [hn1]
    exact (framed_any s (n + 1) W (by omega) (by omega)).mono fun e w' ⟨h1, h2⟩ => ⟨by rw [h1, hF], hb.trans (h2.mono hb.size)⟩)
  have HK : Hid (∀ W, Below w.heap.size w W → W.cell? ⟨l, 1, none⟩ = some (.pointer (some ⟨d, 0, none⟩))) := Lib.hid (fun W hb => (hl.below hb).disk)
  have hb0 := (Below.refl w.heap.size w).drew
  have HWR : Hid (∀ W, Below w.heap.size w W → Calls Tryz.prog 60 #[.pointer (some ⟨d, 0, none⟩), .int .i64 0, .int .i64 L, .string F] W fun e w' => e = .returned (.int .i64 (if c = 0 then 0 else 1)) ∧ w'.cell? ⟨l, 1, none⟩ = some (.pointer (some ⟨d, 0, none⟩)) ∧ Hid (LogPost S d ops rs s w (.returned (.int .i64 c)) w')) := Lib.hid (fun W hb => by
    by_cases hfit : L + F.size ≤ 4194304
    · have hc0 : c = 0 := by rw [hc, appCode, if_neg hs, if_neg (by omega)]
      refine (write_ok 0 L F S d ops W (HH.out.below hb) hll (by omega) (by omega) hfit).mono ?_
      rintro e w' ⟨h1, h2, h3⟩
      refine ⟨by rw [h1, hc0]; rfl, ((hl.below hb).kept h3 ho).disk, Lib.hid ⟨by rw [hc], ?_⟩⟩
      have hW := hb.size
      refine ⟨More S W.heap.size, ops ++ [.put 0 L F], h2, ?_, (Kept.ofBelow hb).trans h3 (fun _ hi => .inl hi), ?_⟩
      · rw [if_pos (by rw [← hc, hc0]), hL, hF, hn]
      · rintro k (hk | hk)
        · exact .inl hk
        · exact .inr (by omega)
    · have hc2 : c = 2 := by rw [hc, appCode, if_neg hs, if_pos (by omega)]
      refine (write_no 0 L F S d ops W (HH.out.below hb) (by omega) (by omega)).mono ?_
      rintro e w' ⟨h1, h2⟩
      subst h2
      exact ⟨by rw [h1, hc2]; rfl, (hl.below hb).disk, Lib.hid ⟨by rw [hc], log_same HH.out hb (by rw [← hc, hc2]; decide)⟩⟩)
  have hc3 : c = 0 ∨ c = 2 := by
    rw [hc, appCode, if_neg hs]
    split <;> simp
  have hw1 : IntKind.i64.wrap ((n : Int) + 1) = (n : Int) + 1 := IntWalk.i64_in _ (by omega)
  clear h hl hs hL hn hF hc hn1 hFs hp hrs
  obtain ⟨k, hk, HW⟩ : ∃ k : Int, (k = 0 ∧ c = 0 ∨ k = 1 ∧ c = 2) ∧ Hid (∀ W, Below w.heap.size w W → Calls Tryz.prog 60 #[.pointer (some ⟨d, 0, none⟩), .int .i64 0, .int .i64 L, .string F] W fun e w' => e = .returned (.int .i64 k) ∧ w'.cell? ⟨l, 1, none⟩ = some (.pointer (some ⟨d, 0, none⟩)) ∧ Hid (LogPost S d ops rs s w (.returned (.int .i64 c)) w')) := by
    rcases hc3 with rfl | rfl
    · exact ⟨0, .inl ⟨rfl, rfl⟩, HWR⟩
    · exact ⟨1, .inr ⟨rfl, rfl⟩, HWR⟩
  clear HWR hc3
  rcases hk with ⟨rfl, rfl⟩ | ⟨rfl, rfl⟩
  all_goals
    go_enter Tryz.func57, Tryz.ntmps57
    go_wp2_with fail
    refine HG.out.mono ?_
    rintro e w' ⟨rfl, hw⟩
    subst w'
    go_wp2_with fail
    go_region_held3 (fun w' => w'.cell? ⟨l, 1, none⟩ = some (.pointer (some ⟨d, 0, none⟩))) (first | assumption | exact HK.out _ (by assumption))
      (first
        | (go_at_call 43; refine (HSZ.out _ (by assumption)).mono ?_; rintro e w' ⟨rfl, rfl⟩)
        | (go_at_call 81; refine (HLN.out _ (by assumption)).mono ?_; rintro e w' ⟨rfl, hb'⟩)
        | (go_at_call 80; refine (HFR.out _ (by assumption)).mono ?_; rintro e w' ⟨rfl, hb'⟩)
        | (go_at_call 60; refine (HW.out _ (by assumption)).mono ?_; rintro e w' ⟨rfl, hcl, hpost⟩))
    all_goals go_wp2
    all_goals go_ret
    all_goals exact Hid.out (by assumption)

theorem lappend_any (l d : Nat) (S : Nat → Prop) (ops : List RawOp) (rs : List ByteArray) (s : ByteArray) (w : World) (h : DiskAt S d ops w) (hl : LogOn l d w) (ho : ¬ S l) (hp : play ops 0 = logB rs) (hrs : Recs rs) (hll : ops.length ≤ 4398046511104) :
    Calls Tryz.prog 57 #[.pointer (some ⟨l, 0, none⟩), .string s] w (LogPost S d ops rs s w) := by
  by_cases hs : s.size = 0 ∨ 1048576 < s.size
  · exact lappend_bad l d S ops rs s w h hl hs
  · exact lappend_good l d S ops rs s w h hl ho hp hrs hll hs

/-- The disk under a pool, and the pool behind a raw write that leaves the pages' file alone. -/
theorem PoolJ.disk {J : List RawOp → Prop} {B p d n N : Nat} {S : Nat → Prop} {C : Nat → List UInt8} {P : Nat → Nat} {w : World} (h : PoolJ J B S p d n C P N w) :
    ∃ Sd ops, J ops ∧ DiskAt Sd d ops w ∧ (∀ k, Sd k → S k) ∧ ops.length ≤ N ∧
      ∀ (J' : List RawOp → Prop) (w' : World) (ops' : List RawOp) (S2 : Nat → Prop), DiskAt S2 d ops' w' → Kept Sd w w' → (∀ k, S2 k → Sd k ∨ w.heap.size ≤ k) → play ops' 1 = play ops 1 → ops'.length ≤ ops.length + 1 → J' ops' →
        ∃ S', Turn S w S' w' ∧ PoolJ J' B S' p d n C P (N + 1) w' := by
  obtain ⟨fb, mb, hand, m, fr, Sd, ops, hJ, hG, hF, hD, hV, hO, hS, hB⟩ := h
  refine ⟨Sd, ops, hJ, hD, fun k hk => hS k (.inl hk), by have := hV.cost; omega, fun J' w' ops' S2 hD2 hK hS2 hpl hlen hJ' => ?_⟩
  refine poolJ_mk (S := S) (B := B) (w := w) hJ' (hG.kept hK hO.1 hO.2.1 hO.2.2) hF hD2 ⟨fun i f hi => ?_, fun q hq => ?_, ?_, fun q => Nat.le_succ_of_le (hV.bnd q)⟩ ⟨fun hh => (hS2 p hh).elim hO.1 (by have := hG.lt; omega), fun hh => (hS2 fb hh).elim hO.2.1 (by have := hG.ltF; omega), fun hh => (hS2 mb hh).elim hO.2.2 (by have := hG.ltM; omega)⟩ (fun k hk => (hS2 k hk).imp (fun h => hS k (.inl h)) id) ⟨hS p (.inr (.inl rfl)), hS fb (.inr (.inr (.inl rfl))), hS mb (.inr (.inr (.inr rfl)))⟩ hB (hK.mono (fun k hk => hS k (.inl hk)))
  · rw [hpl]; exact hV.held i f hi
  · rw [hpl]; exact hV.free q hq
  · have := hV.cost; omega

/-- A new pool, so said. -/
theorem pnew_j (J : List RawOp → Prop) (B d n N : Nat) (S : Nat → Prop) (ops : List RawOp) (w : World) (h : DiskAt S d ops w) (hS : ∀ k, S k → B ≤ k ∧ k < w.heap.size) (h1 : 1 ≤ n) (h2 : n ≤ 1024) (hN : ops.length ≤ N) (hJ : J ops) :
    Calls Tryz.prog 22 #[.pointer (some ⟨d, 0, none⟩), .int .i64 n] w fun e w' => ∃ p S', e = .returned (.tuple #[.pointer (some ⟨p, 0, none⟩), .int .i64 0]) ∧ PoolJ J B S' p d n (fun q => pageOf (play ops 1) q) (fun _ => 0) N w' ∧ Below w.heap.size w w' ∧ S' p ∧ (∀ k, S k → S' k) ∧ ∀ k, k < w.heap.size → S' k → S k := by
  refine (pnew_ok d n S ops w h h1 h2).mono ?_
  rintro e w' ⟨p, fb, mb, rfl, hG, hp, hb⟩
  have hdB := hS d h.at
  refine ⟨p, fun k => (S k ∨ w.heap.size ≤ k) ∧ k < w'.heap.size, rfl, ⟨fb, mb, 0, 0, fun _ => none, S, ops, hJ, hG, ⟨by omega, fun i => ⟨fun hi => by omega, (fun ⟨f, hf⟩ => by cases hf)⟩⟩, h.below hb, ⟨(fun i f hf => by cases hf), fun q _ => ⟨rfl, rfl⟩, by rw [chg_none]; omega, fun q => by omega⟩, ⟨fun hs => ?_, fun hs => ?_, fun hs => ?_⟩, ?_, ?_⟩, hb, ⟨.inr hp.1, hG.lt⟩, fun k hk => ⟨.inl hk, Nat.lt_of_lt_of_le (hS k hk).2 hb.size⟩, fun k hk hs => hs.1.elim id (by omega)⟩
  · have := hS p hs; omega
  · have := hS fb hs; omega
  · have := hS mb hs; omega
  · rintro k (hk | rfl | rfl | rfl)
    · exact ⟨.inl hk, Nat.lt_of_lt_of_le (hS k hk).2 hb.size⟩
    · exact ⟨.inr hp.1, hG.lt⟩
    · exact ⟨.inr hp.2.1, hG.ltF⟩
    · exact ⟨.inr hp.2.2, hG.ltM⟩
  · rintro k ⟨hk, hlt⟩
    exact ⟨hk.elim (fun h => (hS k h).1) (fun h => by omega), hlt⟩
end Go.Proofs.YtgboeolnojpehaaGreatDoor

/- A space and an action as they lie in memory; the calls on what is none; what ends an action; Begin. -/
set_option maxRecDepth 100000
namespace Go.Proofs.YtgboeolnojpehaaGreatDoor
open Go.RowKit

/-- A space lies at block s. -/
structure SpaceAt (w : World) (s d l p : Nat) (h : Hd) (cur : Option Nat) : Prop where
  self : w.cell? ⟨s, 0, none⟩ = some (.pointer (some ⟨s, 0, none⟩))
  dk : w.cell? ⟨s, 1, none⟩ = some (.pointer (some ⟨d, 0, none⟩))
  lg : w.cell? ⟨s, 2, none⟩ = some (.pointer (some ⟨l, 0, none⟩))
  pl : w.cell? ⟨s, 3, none⟩ = some (.pointer (some ⟨p, 0, none⟩))
  hd : HdAt w s 4 h
  cur_ : w.cell? ⟨s, 85, none⟩ = some (.pointer (cur.map fun a => ⟨a, 0, none⟩))
  froz : ∀ j, w.frozen? ⟨s, j, none⟩ = false

/-- An action lies at block a, of the space at block s. -/
structure ActAt (w : World) (a s : Nat) (h : Hd) (dv : Value) : Prop where
  self : w.cell? ⟨a, 0, none⟩ = some (.pointer (some ⟨a, 0, none⟩))
  st : w.cell? ⟨a, 1, none⟩ = some (.pointer (some ⟨s, 1, none⟩))
  hd : HdAt w a 2 h
  dr : w.cell? ⟨a, 83, none⟩ = some dv
  froz : ∀ j, w.frozen? ⟨a, j, none⟩ = false

section
variable {w w' : World} {s d l p a : Nat} {h : Hd} {cur : Option Nat} {dv : Value}
theorem SpaceAt.lt (x : SpaceAt w s d l p h cur) : s < w.heap.size := World.block_lt_of_cell? w _ x.self
theorem ActAt.lt (x : ActAt w a s h dv) : a < w.heap.size := World.block_lt_of_cell? w _ x.self
theorem SpaceAt.block (x : SpaceAt w s d l p h cur) (hb : w'.heap[s]? = w.heap[s]?) : SpaceAt w' s d l p h cur :=
  ⟨(World.cell?_of_block hb).trans x.self, (World.cell?_of_block hb).trans x.dk, (World.cell?_of_block hb).trans x.lg, (World.cell?_of_block hb).trans x.pl, x.hd.block hb, (World.cell?_of_block hb).trans x.cur_, fun j => (World.frozen?_of_block hb).trans (x.froz j)⟩
theorem ActAt.block (x : ActAt w a s h dv) (hb : w'.heap[a]? = w.heap[a]?) : ActAt w' a s h dv :=
  ⟨(World.cell?_of_block hb).trans x.self, (World.cell?_of_block hb).trans x.st, x.hd.block hb, (World.cell?_of_block hb).trans x.dr, fun j => (World.frozen?_of_block hb).trans (x.froz j)⟩
theorem SpaceAt.kept {S : Nat → Prop} (x : SpaceAt w s d l p h cur) (hk : Kept S w w') (hs : ¬ S s) : SpaceAt w' s d l p h cur := x.block (hk.block s x.lt hs)
theorem ActAt.kept {S : Nat → Prop} (x : ActAt w a s h dv) (hk : Kept S w w') (hs : ¬ S a) : ActAt w' a s h dv := x.block (hk.block a x.lt hs)
theorem SpaceAt.below (x : SpaceAt w s d l p h cur) (hk : Below w.heap.size w w') : SpaceAt w' s d l p h cur := x.block (hk.block s x.lt)
theorem ActAt.below (x : ActAt w a s h dv) (hk : Below w.heap.size w w') : ActAt w' a s h dv := x.block (hk.block a x.lt)
/-- The action's head has turned, and nothing besides. -/
theorem ActAt.turnHd (x : ActAt w a s h dv) {h' : Hd} (hd : HdAt w' a 2 h') (ht : Touch a 2 81 w w') : ActAt w' a s h' dv :=
  ⟨(ht.out 0 (by omega)).trans x.self, (ht.out 1 (by omega)).trans x.st, hd, (ht.out 83 (by omega)).trans x.dr, fun j => (ht.froz j).trans (x.froz j)⟩
theorem SpaceAt.setCur (x : SpaceAt w s d l p h cur) (k : h.Ok) (c : Option Nat) : SpaceAt (w.setCell ⟨s, 85, none⟩ (.pointer (c.map fun a => ⟨a, 0, none⟩))) s d l p h c := by
  have ht : Touch s 85 1 w (w.setCell ⟨s, 85, none⟩ (.pointer (c.map fun a => ⟨a, 0, none⟩))) := Touch.setCell w _ (by omega) (by omega)
  refine ⟨(ht.out 0 (by omega)).trans x.self, (ht.out 1 (by omega)).trans x.dk, (ht.out 2 (by omega)).trans x.lg, (ht.out 3 (by omega)).trans x.pl, rangeAt_touch x.hd ht (by rw [Hd.cells_length k]; omega), World.cell?_setCell_same _ _ _ x.cur_, fun j => (ht.froz j).trans (x.froz j)⟩
theorem ActAt.setDr (x : ActAt w a s h dv) (k : h.Ok) (v : Value) : ActAt (w.setCell ⟨a, 83, none⟩ v) a s h v := by
  have ht : Touch a 83 1 w (w.setCell ⟨a, 83, none⟩ v) := Touch.setCell w _ (by omega) (by omega)
  refine ⟨(ht.out 0 (by omega)).trans x.self, (ht.out 1 (by omega)).trans x.st, rangeAt_touch x.hd ht (by rw [Hd.cells_length k]; omega), World.cell?_setCell_same _ _ _ x.dr, fun j => (ht.froz j).trans (x.froz j)⟩
end

theorem sizeSp : (Tryz.prog.info? 55).map (·.size) = some 86 := by kernel_rfl
theorem sizeAc : (Tryz.prog.info? 40).map (·.size) = some 84 := by kernel_rfl
theorem sizeHd : (Tryz.prog.info? 37).map (·.size) = some 81 := by kernel_rfl

/-! ### given, refuses -/
set_option maxHeartbeats 400000 in
theorem sgiven_nil (w : World) : Calls Tryz.prog 35 #[.pointer none] w fun e w' => e = .returned (.bool false) ∧ w' = w := by
  go_enter Tryz.func35, Tryz.ntmps35
  go_wp2
  go_ret
  exact ⟨rfl, rfl⟩
set_option maxHeartbeats 400000 in
theorem sgiven_self (l : Nat) (w : World) (h : w.cell? ⟨l, 0, none⟩ = some (.pointer (some ⟨l, 0, none⟩))) :
    Calls Tryz.prog 35 #[.pointer (some ⟨l, 0, none⟩)] w fun e w' => e = .returned (.bool true) ∧ w' = w := by
  obtain ⟨j, hj, _⟩ := Option.map_eq_some_iff.1 sizeSp
  have hq := run_eql_ptr_same (P := Tryz.prog) w (tp := 22) (te := 55) ⟨l, 0, none⟩ Tryz.underlying22 hj
  go_enter Tryz.func35, Tryz.ntmps35
  go_wp2
  go_ret
  exact ⟨rfl, rfl⟩
theorem eql_nil_space (w : World) (a : Addr) : (binOp .eql 22 (.pointer none) (.pointer (some a))).run Tryz.prog w = .ok (.bool false) w := by
  have h : ∀ d : Nat, (Op.equalIn (d + 1) 22 (.pointer none) (.pointer (some a))).run Tryz.prog w = .ok false w := fun d => by
    simp [Op.equalIn, run_underlying Tryz.underlying22, sizeOf, typeInfo]
  simp only [binOp]
  simp [Op.equal, Op.maxDepth, h 9999]
set_option maxHeartbeats 400000 in
theorem sgiven_zero (l : Nat) (w : World) (h : w.cell? ⟨l, 0, none⟩ = some (.pointer none)) :
    Calls Tryz.prog 35 #[.pointer (some ⟨l, 0, none⟩)] w fun e w' => e = .returned (.bool false) ∧ w' = w := by
  have hq := eql_nil_space w ⟨l, 0, none⟩
  go_enter Tryz.func35, Tryz.ntmps35
  go_wp2
  go_ret
  exact ⟨rfl, rfl⟩

/-- What is no space. -/
def NoSpace (v : Value) (w : World) : Prop := Calls Tryz.prog 35 #[v] w fun e w' => e = .returned (.bool false) ∧ w' = w

set_option maxHeartbeats 400000 in
theorem srefuses_nobody (v : Value) (w : World) (hp : NoSpace v w) : Calls Tryz.prog 24 #[v] w fun e w' => e = .returned (.int .i64 1) ∧ w' = w := by
  have HP : Hid (Calls Tryz.prog 35 #[v] w fun e w' => e = .returned (.bool false) ∧ w' = w) := Lib.hid hp; clear hp
  go_enter Tryz.func24, Tryz.ntmps24
  go_wp2_with fail
  refine HP.out.mono ?_
  rintro e w' ⟨rfl, hw⟩
  subst w'
  go_wp2
  go_ret
  exact ⟨rfl, rfl⟩
set_option maxHeartbeats 400000 in
theorem srefuses_free (s d l p : Nat) (h : Hd) (w : World) (x : SpaceAt w s d l p h none) : Calls Tryz.prog 24 #[.pointer (some ⟨s, 0, none⟩)] w fun e w' => e = .returned (.int .i64 0) ∧ w' = w := by
  have HP := Lib.hid (sgiven_self s w x.self)
  have hc : w.cell? ⟨s, 85, none⟩ = some (.pointer none) := x.cur_
  clear x
  go_enter Tryz.func24, Tryz.ntmps24
  go_wp2_with fail
  refine HP.out.mono ?_
  rintro e w' ⟨rfl, hw⟩
  subst w'
  go_wp2
  go_ret
  exact ⟨rfl, rfl⟩
set_option maxHeartbeats 400000 in
theorem srefuses_busy (s d l p a : Nat) (h : Hd) (w : World) (x : SpaceAt w s d l p h (some a)) : Calls Tryz.prog 24 #[.pointer (some ⟨s, 0, none⟩)] w fun e w' => e = .returned (.int .i64 50) ∧ w' = w := by
  have HP := Lib.hid (sgiven_self s w x.self)
  have hc : w.cell? ⟨s, 85, none⟩ = some (.pointer (some ⟨a, 0, none⟩)) := x.cur_
  clear x
  go_enter Tryz.func24, Tryz.ntmps24
  go_wp2_with fail
  refine HP.out.mono ?_
  rintro e w' ⟨rfl, hw⟩
  subst w'
  go_wp2
  go_ret
  exact ⟨rfl, rfl⟩

/-! ### Begin -/
set_option maxHeartbeats 400000 in
theorem begin_code (v : Value) (c : Int) (w : World) (hc : c = 1 ∨ c = 50) (hp : Calls Tryz.prog 24 #[v] w fun e w' => e = .returned (.int .i64 c) ∧ w' = w) :
    Calls Tryz.prog 7 #[v] w fun e w' => e = .returned (.tuple #[.pointer none, .int .i64 c]) ∧ w' = w := by
  have HP := Lib.hid hp; clear hp
  rcases hc with rfl | rfl
  all_goals
    go_enter Tryz.func7, Tryz.ntmps7
    go_wp2_with fail
    refine HP.out.mono ?_
    rintro e w' ⟨rfl, hw⟩
    subst w'
    go_wp2
    go_ret2
    exact ⟨rfl, rfl⟩

theorem built_action (s m : Nat) (X : List Value) (hX : X.length = 81) :
    Tryz.prog.built 40 [(1, .pointer (some ⟨s, 1, none⟩)), (2, .agg X.toArray), (3, .map (some m))] = some (([Value.pointer none, .pointer (some ⟨s, 1, none⟩)] ++ X ++ [Value.map (some m)]).toArray) :=
  match X, hX with
  | c0 :: c1 :: c2 :: c3 :: c4 :: c5 :: c6 :: c7 :: c8 :: c9 :: c10 :: c11 :: c12 :: c13 :: c14 :: c15 :: c16 :: c17 :: c18 :: c19 :: c20 :: c21 :: c22 :: c23 :: c24 :: c25 :: c26 :: c27 :: c28 :: c29 :: c30 :: c31 :: c32 :: c33 :: c34 :: c35 :: c36 :: c37 :: c38 :: c39 :: c40 :: c41 :: c42 :: c43 :: c44 :: c45 :: c46 :: c47 :: c48 :: c49 :: c50 :: c51 :: c52 :: c53 :: c54 :: c55 :: c56 :: c57 :: c58 :: c59 :: c60 :: c61 :: c62 :: c63 :: c64 :: c65 :: c66 :: c67 :: c68 :: c69 :: c70 :: c71 :: c72 :: c73 :: c74 :: c75 :: c76 :: c77 :: c78 :: c79 :: c80 :: [], _ => by kernel_rfl
end Go.Proofs.YtgboeolnojpehaaGreatDoor

/- Begin of a space whose actions are over. -/
set_option maxRecDepth 100000
namespace Go.Proofs.YtgboeolnojpehaaGreatDoor
open Go.RowKit

theorem exec_build {P : Program} {a : Act} {o : Oper} {t : TypeId} {parts : Array (Nat × Operand)} (ho : o.op = .build t parts) (vals : List (Nat × Value)) (hv : (parts.map fun (i, x) => (i, a.eval x)) = vals.toArray) (cells : Array Value) (hb : P.built t vals = some cells) (W : World) :
    (execOp a.eval o).run P W = .ok (.value (.agg cells)) W := by
  have h := run_build (P := P) W t vals.toArray cells (by simpa using hb)
  unfold execOp
  simp only [ho, hv]
  simp [h]

def BeginPost (s d l p : Nat) (h : Hd) (w : World) (e : Ending) (w' : World) : Prop :=
  ∃ a db, e = .returned (.tuple #[.pointer (some ⟨a, 0, none⟩), .int .i64 0]) ∧ ActAt w' a s h (.map (some db)) ∧ PMap w' db 0 (fun _ => none) ∧ SpaceAt w' s d l p h (some a) ∧ w.heap.size ≤ a ∧ w.heap.size ≤ db ∧ a ≠ db ∧ Kept (fun k => k = s) w w'

set_option maxHeartbeats 1600000 in
theorem begin_ok (s d l p : Nat) (h : Hd) (w : World) (x : SpaceAt w s d l p h none) (k : h.Ok) :
    Calls Tryz.prog 7 #[.pointer (some ⟨s, 0, none⟩)] w (BeginPost s d l p h w) := by
  have HR := Lib.hid (srefuses_free s d l p h w x)
  have HX := Lib.hid x
  have HK := Lib.hid k
  have hlt := x.lt
  obtain ⟨X, hX⟩ : ∃ X : List Value, X = h.cells := ⟨_, rfl⟩
  have HXX : Hid (∀ W : World, W.heap[s]? = w.heap[s]? → W.rangeAt s 4 X) := Lib.hid (fun W hb => by rw [hX]; exact HX.out.hd.block hb)
  have HXL : Hid ((Tryz.prog.info? 37).map (·.size) = some X.length) := Lib.hid (by rw [hX, Hd.cells_length k]; exact sizeHd)
  have hmm := @run_makeMap Tryz.prog
  obtain ⟨Y, hY⟩ : ∃ Y : Array Value, Y = ([Value.pointer none, .pointer (some ⟨s, 1, none⟩)] ++ X ++ [Value.map (some w.heap.size)]).toArray := ⟨_, rfl⟩
  have HY := Lib.hid (built_action s w.heap.size X (by rw [hX, Hd.cells_length k]))
  rw [← hY] at HY
  have HYE := Lib.hid hY; have HXE := Lib.hid hX
  clear x k hY hX
  go_enter Tryz.func7, Tryz.ntmps7
  go_wp2_with fail
  refine HR.out.mono ?_
  rintro e w' ⟨rfl, hw⟩
  subst w'
  go_wp2
  refine wp_region_held_drew (S := fun W => Below w.heap.size w W) (by kernel_rfl) ((Below.refl _ _).drew) (fun hHeld => ?_)
  refine wpAnyH_take (i := 0) (v := .pointer (some ⟨s, 0, none⟩)) rfl (by kernel_rfl) (by kernel_rfl) (by kernel_rfl) (fun _ _ _ h => h) (Or.inl ⟨by rfl, fun W hW => by go_simp⟩) hHeld ?_
  refine wpAnyH_take (i := 1) (v := .pointer (some ⟨s, 0, none⟩)) rfl (by kernel_rfl) (by kernel_rfl) (by kernel_rfl) (fun _ _ _ h => h) (Or.inl ⟨by rfl, fun W hW => by go_simp⟩) hHeld ?_
  refine wpAnyH_take (i := 2) (v := .pointer (some ⟨s, 1, none⟩)) rfl (by kernel_rfl) (by kernel_rfl) (by kernel_rfl) (fun _ _ _ h => h) (Or.inl ⟨by rfl, fun W hW => by go_simp⟩) hHeld ?_
  refine wpAnyH_take (i := 3) (v := .pointer (some ⟨s, 0, none⟩)) rfl (by kernel_rfl) (by kernel_rfl) (by kernel_rfl) (fun _ _ _ h => h) (Or.inl ⟨by rfl, fun W hW => by go_simp⟩) hHeld ?_
  refine wpAnyH_take (i := 4) (v := .pointer (some ⟨s, 0, none⟩)) rfl (by kernel_rfl) (by kernel_rfl) (by kernel_rfl) (fun _ _ _ h => h) (Or.inl ⟨by rfl, fun W hW => by go_simp⟩) hHeld ?_
  refine wpAnyH_take (i := 5) (v := .pointer (some ⟨s, 1, none⟩)) rfl (by kernel_rfl) (by kernel_rfl) (by kernel_rfl) (fun _ _ _ h => h) (Or.inl ⟨by rfl, fun W hW => by go_simp⟩) hHeld ?_
  refine wpAnyH_take (i := 6) (v := .pointer (some ⟨s, 4, none⟩)) rfl (by kernel_rfl) (by kernel_rfl) (by kernel_rfl) (fun _ _ _ h => h) (Or.inl ⟨by rfl, fun W hW => by go_simp⟩) hHeld ?_
  refine wpAnyH_take (i := 7) (v := .agg X.toArray) rfl (by kernel_rfl) (by kernel_rfl) (by kernel_rfl) (fun _ _ _ h => h) (yieldsIf_load_mid (by rfl) 37 _ rfl s 4 rfl X _ (fun W hW => HXX.out W (hW.block s hlt)) Tryz.underlying37 rfl HXL.out) hHeld ?_
  refine wpAnyH_ready (rs := [8]) (by kernel_rfl) (by simp) ?_
  refine AllReadyH.cons rfl (fun K hK => ?_) AllReadyH.nil
  go_simp
  refine hK.out _ _ (((Below.refl _ w).alloc (Nat.le_refl _) _).drew) (fun hHeld2 => ?_)
  clear hK K
  refine wpAnyH_take (i := 9) (v := .agg Y) rfl (by kernel_rfl) (by kernel_rfl) (by kernel_rfl) (fun _ _ _ h => h) (Or.inl ⟨by rfl, fun W hW => exec_build rfl _ (by simp [go_sem]) Y HY.out W⟩) hHeld2 ?_
  refine wpAnyH_ready (rs := [10]) (by kernel_rfl) (by simp) ?_
  refine AllReadyH.cons rfl (fun K hK => ?_) AllReadyH.nil
  go_simp
  refine hK.out _ _ ((((Below.refl _ w).alloc (Nat.le_refl _) _).alloc (by simp) _).drew) (fun hHeld3 => ?_)
  clear hK K
  refine wpAnyH_take (i := 11) (v := .pointer (some ⟨w.heap.size + 1, 0, none⟩)) rfl (by kernel_rfl) (by kernel_rfl) (by kernel_rfl) (fun _ _ _ h => h) (Or.inl ⟨by rfl, fun W hW => by go_simp⟩) hHeld3 ?_
  refine wpAnyH_done (by kernel_rfl) ?_ _
  clear hHeld hHeld2 hHeld3
  generalize hWW : ((w.alloc (Obj.map #[] 0)).alloc (Obj.cells Y 40)).drew = W
  have hW : ∀ W, W = ((w.alloc (Obj.map #[] 0)).alloc (Obj.cells Y 40)).drew → W.heap[w.heap.size + 1]? = some (.cells Y 40 (0, 0)) ∧ PMap W w.heap.size 0 (fun _ => none) ∧ W.heap.size = w.heap.size + 2 ∧ Below w.heap.size w W := by
    rintro W rfl
    refine ⟨?_, ?_, by simp, (((Below.refl _ w).alloc (Nat.le_refl _) _).alloc (by simp) _).drew⟩
    · exact heap_alloc2_new w (Obj.map #[] 0) (Obj.cells Y 40)
    · exact (pmap_made w).block (Below.heap_alloc _ _ _ (by simp))
  obtain ⟨g1, g2, g3, g4⟩ := hW W hWW.symm
  clear hW
  have hY0 : ∀ i v, (([Value.pointer none, .pointer (some ⟨s, 1, none⟩)] ++ X ++ [Value.map (some w.heap.size)])[i]? = some v) → W.cell? ⟨w.heap.size + 1, i, none⟩ = some v := fun i v hi => by
    rw [Lib.cell_of_heap g1, HYE.out, List.getElem?_toArray]; exact hi
  have hXl : X.length = 81 := by rw [HXE.out, Hd.cells_length HK.out]
  have hA : ActAt (W.setCell ⟨w.heap.size + 1, 0, none⟩ (.pointer (some ⟨w.heap.size + 1, 0, none⟩))) (w.heap.size + 1) s h (.map (some w.heap.size)) := by
    have ht : Touch (w.heap.size + 1) 0 1 W (W.setCell ⟨w.heap.size + 1, 0, none⟩ (.pointer (some ⟨w.heap.size + 1, 0, none⟩))) := Touch.setCell W _ (by omega) (by omega)
    refine ⟨World.cell?_setCell_same _ _ _ (hY0 0 _ rfl), (ht.out 1 (by omega)).trans (hY0 1 _ rfl), fun j v hj => ?_, (ht.out 83 (by omega)).trans (hY0 83 _ ?_), fun j => (ht.froz j).trans (Lib.frozen_of_heap g1 _)⟩
    · rw [ht.out (2 + j) (by omega)]
      rw [← HXE.out] at hj
      have hjl := (List.getElem?_eq_some_iff.1 hj).1
      refine hY0 (2 + j) v ?_
      rw [List.append_assoc, List.getElem?_append_right (by simp), List.getElem?_append_left (by simp; omega)]
      simpa using hj
    · rw [List.getElem?_append_right (by simp [hXl])]; simp [hXl]
  have hS : SpaceAt (W.setCell ⟨w.heap.size + 1, 0, none⟩ (.pointer (some ⟨w.heap.size + 1, 0, none⟩))) s d l p h none := (HX.out.below g4).block (Below.heap_setCell _ _ _ _ (by simp; omega))
  have hE : BeginPost s d l p h w (.returned (.tuple #[.pointer (some ⟨w.heap.size + 1, 0, none⟩), .int .i64 0])) ((W.setCell ⟨w.heap.size + 1, 0, none⟩ (.pointer (some ⟨w.heap.size + 1, 0, none⟩))).setCell ⟨s, 85, none⟩ (.pointer (some ⟨w.heap.size + 1, 0, none⟩))) := by
    refine ⟨w.heap.size + 1, w.heap.size, rfl, hA.block (Below.heap_setCell _ _ _ _ (by simp; omega)), (g2.block (Below.heap_setCell _ _ _ _ (by simp))).block (Below.heap_setCell _ _ _ _ (by simp; omega)), hS.setCur HK.out (some (w.heap.size + 1)), by omega, by omega, by omega, ?_⟩
    refine ((Kept.ofBelow g4).trans (Kept.setCell (fun k => w.heap.size ≤ k) W (b := w.heap.size + 1) (by show w.heap.size ≤ w.heap.size + 1; omega) _) (fun i hi => .inr hi)).trans (Kept.setCell (fun k => k = s) _ (b := s) rfl _) (fun i hi => .inl hi)
  have HE := Lib.hid hE; clear hE
  have c0 := hY0 0 _ rfl
  have f0 : W.frozen? ⟨w.heap.size + 1, 0, none⟩ = false := Lib.frozen_of_heap g1 _
  have c1 : W.cell? ⟨s, 85, none⟩ = some (.pointer none) := (HX.out.below g4).cur_
  have f1 : W.frozen? ⟨s, 85, none⟩ = false := (HX.out.below g4).froz _
  have hsz : s < W.heap.size := by omega
  have hne : s ≠ w.heap.size + 1 := by omega
  clear hWW g1 g2 g3 g4 hY0 hXl hA hS hmm
  go_wp2
  go_ret2
  exact HE.out
end Go.Proofs.YtgboeolnojpehaaGreatDoor

/- The calls on an action that nobody began, or that is over; what ends one; roots. -/
set_option maxRecDepth 100000
namespace Go.Proofs.YtgboeolnojpehaaGreatDoor
open Go.RowKit

section
variable {P : Program} {w w' : World} {ops : Array Oper} {rest : List Oper} {o : Oper} {a : Act} {Q : Exit → Act → World → Prop}
/-- An operation whose run is known. -/
theorem wpList_val (hg : o.guard = none) (v : Value) (hr : (execOp a.eval o).run P w = .ok (.value v) w') (h : wpList P ops Q rest (a.put o.dst v) w') : wpList P ops Q (o :: rest) a w :=
  wpList_plain hg fun K hK => by unfold Oper.wp; rw [hr]; exact hK _ _ h
end

theorem eql_nil_act (w : World) (a : Addr) : (binOp .eql 28 (.pointer none) (.pointer (some a))).run Tryz.prog w = .ok (.bool false) w := by
  have h : ∀ d : Nat, (Op.equalIn (d + 1) 28 (.pointer none) (.pointer (some a))).run Tryz.prog w = .ok false w := fun d => by
    simp [Op.equalIn, run_underlying Tryz.underlying28, sizeOf, typeInfo]
  simp only [binOp]
  simp [Op.equal, Op.maxDepth, h 9999]
theorem neq_nil_act (w : World) (a : Addr) : (binOp .neq 28 (.pointer none) (.pointer (some a))).run Tryz.prog w = .ok (.bool true) w := by
  have h : ∀ d : Nat, (Op.equalIn (d + 1) 28 (.pointer none) (.pointer (some a))).run Tryz.prog w = .ok false w := fun d => by
    simp [Op.equalIn, run_underlying Tryz.underlying28, sizeOf, typeInfo]
  simp only [binOp]
  simp [Op.equal, Op.maxDepth, h 9999]

set_option maxHeartbeats 400000 in
theorem arefuses_nil (w : World) : Calls Tryz.prog 25 #[.pointer none] w fun e w' => e = .returned (.int .i64 1) ∧ w' = w := by
  go_enter Tryz.func25, Tryz.ntmps25
  go_wp2
  go_ret
  exact ⟨rfl, rfl⟩
set_option maxHeartbeats 400000 in
theorem arefuses_zero (a : Nat) (w : World) (h : w.cell? ⟨a, 0, none⟩ = some (.pointer none)) : Calls Tryz.prog 25 #[.pointer (some ⟨a, 0, none⟩)] w fun e w' => e = .returned (.int .i64 1) ∧ w' = w := by
  have hq := neq_nil_act w ⟨a, 0, none⟩
  go_enter Tryz.func25, Tryz.ntmps25
  go_wp2
  go_ret
  exact ⟨rfl, rfl⟩
set_option maxHeartbeats 400000 in
theorem arefuses_over (a s : Nat) (w : World) (h0 : w.cell? ⟨a, 0, none⟩ = some (.pointer (some ⟨a, 0, none⟩))) (h1 : w.cell? ⟨a, 1, none⟩ = some (.pointer (some ⟨s, 1, none⟩))) (h2 : w.cell? ⟨s, 85, none⟩ = some (.pointer none)) :
    Calls Tryz.prog 25 #[.pointer (some ⟨a, 0, none⟩)] w fun e w' => e = .returned (.int .i64 5) ∧ w' = w := by
  obtain ⟨j, hj, _⟩ := Option.map_eq_some_iff.1 sizeAc
  have hq := Lib.run_neq_ptr_same (P := Tryz.prog) w (tp := 28) (te := 40) ⟨a, 0, none⟩ Tryz.underlying28 hj
  have hq2 := neq_nil_act w ⟨a, 0, none⟩
  go_enter Tryz.func25, Tryz.ntmps25
  go_wp2
  go_ret
  exact ⟨rfl, rfl⟩
set_option maxHeartbeats 400000 in
theorem arefuses_live (a s : Nat) (w : World) (h0 : w.cell? ⟨a, 0, none⟩ = some (.pointer (some ⟨a, 0, none⟩))) (h1 : w.cell? ⟨a, 1, none⟩ = some (.pointer (some ⟨s, 1, none⟩))) (h2 : w.cell? ⟨s, 85, none⟩ = some (.pointer (some ⟨a, 0, none⟩))) :
    Calls Tryz.prog 25 #[.pointer (some ⟨a, 0, none⟩)] w fun e w' => e = .returned (.int .i64 0) ∧ w' = w := by
  obtain ⟨j, hj, _⟩ := Option.map_eq_some_iff.1 sizeAc
  have hq := Lib.run_neq_ptr_same (P := Tryz.prog) w (tp := 28) (te := 40) ⟨a, 0, none⟩ Tryz.underlying28 hj
  go_enter Tryz.func25, Tryz.ntmps25
  go_wp2
  go_ret
  exact ⟨rfl, rfl⟩

/-- What refuses all calls, with a code. -/
def Refused (v : Value) (c : Int) (w : World) : Prop := Calls Tryz.prog 25 #[v] w fun e w' => e = .returned (.int .i64 c) ∧ w' = w

section
variable (v : Value) (c : Int) (w : World) (hc : c = 1 ∨ c = 5) (hp : Refused v c w)
include hc hp

set_option maxHeartbeats 400000 in
theorem refusesPage_code (q : Int) : Calls Tryz.prog 27 #[v, .int .i64 q] w fun e w' => e = .returned (.int .i64 c) ∧ w' = w := by
  have HP : Hid (Calls Tryz.prog 25 #[v] w fun e w' => e = .returned (.int .i64 c) ∧ w' = w) := Lib.hid hp; clear hp
  rcases hc with rfl | rfl
  all_goals
    go_enter Tryz.func27, Tryz.ntmps27
    go_wp2_with fail
    refine HP.out.mono ?_
    rintro e w' ⟨rfl, hw⟩
    subst w'
    go_wp2
    go_ret
    exact ⟨rfl, rfl⟩
set_option maxHeartbeats 400000 in
theorem aread_code (q : Int) : Calls Tryz.prog 9 #[v, .int .i64 q] w fun e w' => e = .returned (.tuple #[.string ⟨#[]⟩, .int .i64 c]) ∧ w' = w := by
  have HP := Lib.hid (refusesPage_code v c w hc hp q); clear hp
  rcases hc with rfl | rfl
  all_goals
    go_enter Tryz.func9, Tryz.ntmps9
    go_wp2_with fail
    refine HP.out.mono ?_
    rintro e w' ⟨rfl, hw⟩
    subst w'
    go_wp2
    go_ret2
    exact ⟨rfl, rfl⟩
set_option maxHeartbeats 400000 in
theorem awrite_code (q at' : Int) (s : ByteArray) : Calls Tryz.prog 12 #[v, .int .i64 q, .int .i64 at', .string s] w fun e w' => e = .returned (.int .i64 c) ∧ w' = w := by
  have HP := Lib.hid (refusesPage_code v c w hc hp q); clear hp
  rcases hc with rfl | rfl
  all_goals
    go_enter Tryz.func12, Tryz.ntmps12
    go_wp2_with fail
    refine HP.out.mono ?_
    rintro e w' ⟨rfl, hw⟩
    subst w'
    go_wp2
    go_ret
    exact ⟨rfl, rfl⟩
set_option maxHeartbeats 400000 in
theorem afree_code (q : Int) : Calls Tryz.prog 13 #[v, .int .i64 q] w fun e w' => e = .returned (.int .i64 c) ∧ w' = w := by
  have HP := Lib.hid (refusesPage_code v c w hc hp q); clear hp
  rcases hc with rfl | rfl
  all_goals
    go_enter Tryz.func13, Tryz.ntmps13
    go_wp2_with fail
    refine HP.out.mono ?_
    rintro e w' ⟨rfl, hw⟩
    subst w'
    go_wp2
    go_ret
    exact ⟨rfl, rfl⟩
set_option maxHeartbeats 400000 in
theorem aalloc_code : Calls Tryz.prog 10 #[v] w fun e w' => e = .returned (.tuple #[.int .i64 0, .int .i64 c]) ∧ w' = w := by
  have HP : Hid (Calls Tryz.prog 25 #[v] w fun e w' => e = .returned (.int .i64 c) ∧ w' = w) := Lib.hid hp; clear hp
  rcases hc with rfl | rfl
  all_goals
    go_enter Tryz.func10, Tryz.ntmps10
    go_wp2_with fail
    refine HP.out.mono ?_
    rintro e w' ⟨rfl, hw⟩
    subst w'
    go_wp2
    go_ret2
    exact ⟨rfl, rfl⟩
set_option maxHeartbeats 400000 in
theorem aroot_code (q : Int) : Calls Tryz.prog 11 #[v, .int .i64 q] w fun e w' => e = .returned (.tuple #[.int .i64 0, .int .i64 c]) ∧ w' = w := by
  have HP : Hid (Calls Tryz.prog 25 #[v] w fun e w' => e = .returned (.int .i64 c) ∧ w' = w) := Lib.hid hp; clear hp
  rcases hc with rfl | rfl
  all_goals
    go_enter Tryz.func11, Tryz.ntmps11
    go_wp2_with fail
    refine HP.out.mono ?_
    rintro e w' ⟨rfl, hw⟩
    subst w'
    go_wp2
    go_ret2
    exact ⟨rfl, rfl⟩
set_option maxHeartbeats 400000 in
theorem asetRoot_code (q n : Int) : Calls Tryz.prog 14 #[v, .int .i64 q, .int .i64 n] w fun e w' => e = .returned (.int .i64 c) ∧ w' = w := by
  have HP : Hid (Calls Tryz.prog 25 #[v] w fun e w' => e = .returned (.int .i64 c) ∧ w' = w) := Lib.hid hp; clear hp
  rcases hc with rfl | rfl
  all_goals
    go_enter Tryz.func14, Tryz.ntmps14
    go_wp2_with fail
    refine HP.out.mono ?_
    rintro e w' ⟨rfl, hw⟩
    subst w'
    go_wp2
    go_ret
    exact ⟨rfl, rfl⟩
set_option maxHeartbeats 400000 in
theorem acommit_code : Calls Tryz.prog 15 #[v] w fun e w' => e = .returned (.int .i64 c) ∧ w' = w := by
  have HP : Hid (Calls Tryz.prog 25 #[v] w fun e w' => e = .returned (.int .i64 c) ∧ w' = w) := Lib.hid hp; clear hp
  rcases hc with rfl | rfl
  all_goals
    go_enter Tryz.func15, Tryz.ntmps15
    go_wp2_with fail
    refine HP.out.mono ?_
    rintro e w' ⟨rfl, hw⟩
    subst w'
    go_wp2
    go_ret
    exact ⟨rfl, rfl⟩
set_option maxHeartbeats 400000 in
theorem aabort_code : Calls Tryz.prog 8 #[v] w fun e w' => e = .returned (.int .i64 c) ∧ w' = w := by
  have HP : Hid (Calls Tryz.prog 25 #[v] w fun e w' => e = .returned (.int .i64 c) ∧ w' = w) := Lib.hid hp; clear hp
  rcases hc with rfl | rfl
  all_goals
    go_enter Tryz.func8, Tryz.ntmps8
    go_wp2_with fail
    refine HP.out.mono ?_
    rintro e w' ⟨rfl, hw⟩
    subst w'
    go_wp2
    go_ret
    exact ⟨rfl, rfl⟩
end

/-! ### What ends an action -/
set_option maxHeartbeats 400000 in
theorem end_any (a s d l p : Nat) (h last : Hd) (dv : Value) (cur : Option Nat) (w : World) (x : ActAt w a s h dv) (y : SpaceAt w s d l p last cur) (k : h.Ok) (kl : last.Ok) (hne : a ≠ s) :
    Calls Tryz.prog 26 #[.pointer (some ⟨a, 0, none⟩)] w fun e w' => e = .returned (.tuple #[]) ∧ ActAt w' a s h (.map none) ∧ SpaceAt w' s d l p last none ∧ Kept (fun k => k = s ∨ k = a) w w' := by
  have HE : Hid (ActAt ((w.setCell ⟨s, 85, none⟩ (.pointer none)).setCell ⟨a, 83, none⟩ (.map none)) a s h (.map none) ∧ SpaceAt ((w.setCell ⟨s, 85, none⟩ (.pointer none)).setCell ⟨a, 83, none⟩ (.map none)) s d l p last none ∧ Kept (fun k => k = s ∨ k = a) w ((w.setCell ⟨s, 85, none⟩ (.pointer none)).setCell ⟨a, 83, none⟩ (.map none))) := Lib.hid (by
    have h1 : ActAt (w.setCell ⟨s, 85, none⟩ (.pointer none)) a s h dv := x.block (Below.heap_setCell _ _ _ _ hne)
    have h2 : SpaceAt (w.setCell ⟨s, 85, none⟩ (.pointer none)) s d l p last none := y.setCur kl none
    exact ⟨h1.setDr k _, h2.block (Below.heap_setCell _ _ _ _ (fun e => hne e.symm)), (Kept.setCell (fun k => k = s ∨ k = a) w (b := s) (.inl rfl) _).trans (Kept.setCell (fun k => k = s ∨ k = a) _ (b := a) (.inr rfl) _) (fun _ hi => .inl hi)⟩)
  have c1 := x.st
  have c2 := y.cur_
  have f1 := y.froz 85
  have c3 := x.dr
  have f2 := x.froz 83
  have hne2 : ¬ s = a := fun e => hne e.symm
  clear x y k kl
  go_enter Tryz.func26, Tryz.ntmps26
  go_wp2
  go_end0
  exact ⟨rfl, HE.out⟩

set_option maxHeartbeats 400000 in
theorem aabort_live (a s d l p : Nat) (h last : Hd) (dv : Value) (w : World) (x : ActAt w a s h dv) (y : SpaceAt w s d l p last (some a)) (k : h.Ok) (kl : last.Ok) (hne : a ≠ s) :
    Calls Tryz.prog 8 #[.pointer (some ⟨a, 0, none⟩)] w fun e w' => e = .returned (.int .i64 0) ∧ ActAt w' a s h (.map none) ∧ SpaceAt w' s d l p last none ∧ Kept (fun k => k = s ∨ k = a) w w' := by
  have HR := Lib.hid (arefuses_live a s w x.self x.st y.cur_)
  have HE := Lib.hid (end_any a s d l p h last dv _ w x y k kl hne)
  clear x y k kl
  go_enter Tryz.func8, Tryz.ntmps8
  go_wp2_with fail
  refine HR.out.mono ?_
  rintro e w' ⟨rfl, hw⟩
  subst w'
  go_wp2_with fail
  refine HE.out.mono ?_
  rintro e w' ⟨rfl, hp⟩
  have HP := Lib.hid hp; clear hp
  go_wp2
  go_ret
  exact ⟨rfl, HP.out⟩

/-! ### Roots -/
set_option maxHeartbeats 400000 in
theorem aroot_bad (a : Nat) (q : Int) (w : World) (hr : Refused (.pointer (some ⟨a, 0, none⟩)) 0 w) (hq : ¬ (0 ≤ q ∧ q < 16)) :
    Calls Tryz.prog 11 #[.pointer (some ⟨a, 0, none⟩), .int .i64 q] w fun e w' => e = .returned (.tuple #[.int .i64 0, .int .i64 1]) ∧ w' = w := by
  have HR : Hid (Calls Tryz.prog 25 #[.pointer (some ⟨a, 0, none⟩)] w fun e w' => e = .returned (.int .i64 0) ∧ w' = w) := Lib.hid hr; clear hr
  have h1 := isRoot_any q w
  rw [decide_eq_false hq] at h1
  have HI := Lib.hid h1; clear h1 hq
  go_enter Tryz.func11, Tryz.ntmps11
  go_wp2_with fail
  refine HR.out.mono ?_
  rintro e w' ⟨rfl, hw⟩
  subst w'
  go_wp2_with fail
  refine HI.out.mono ?_
  rintro e w' ⟨rfl, hw⟩
  subst w'
  go_wp2
  go_ret2
  exact ⟨rfl, rfl⟩
set_option maxHeartbeats 400000 in
theorem aroot_good (a : Nat) (h : Hd) (q : Nat) (w : World) (hr : Refused (.pointer (some ⟨a, 0, none⟩)) 0 w) (x : HdAt w a 2 h) (k : h.Ok) (hq : q < 16) :
    Calls Tryz.prog 11 #[.pointer (some ⟨a, 0, none⟩), .int .i64 q] w fun e w' => e = .returned (.tuple #[.int .i64 (h.root q), .int .i64 0]) ∧ w' = w := by
  have HR : Hid (Calls Tryz.prog 25 #[.pointer (some ⟨a, 0, none⟩)] w fun e w' => e = .returned (.int .i64 0) ∧ w' = w) := Lib.hid hr; clear hr
  have h1 := isRoot_any q w
  rw [decide_eq_true (by omega)] at h1
  have HI := Lib.hid h1; clear h1
  have hc := x.root k hq
  rw [show 2 + 65 + q = 67 + q by omega] at hc
  obtain ⟨r, hr⟩ : ∃ r, r = h.root q := ⟨_, rfl⟩
  rw [← hr] at hc ⊢
  have hq16 : (q : Int) < 16 := by omega
  clear x k hr
  go_enter Tryz.func11, Tryz.ntmps11
  go_wp2_with fail
  refine HR.out.mono ?_
  rintro e w' ⟨rfl, hw⟩
  subst w'
  go_wp2_with fail
  refine HI.out.mono ?_
  rintro e w' ⟨rfl, hw⟩
  subst w'
  go_wp2
  go_ret2
  exact ⟨rfl, rfl⟩
end Go.Proofs.YtgboeolnojpehaaGreatDoor

/- Drafts of pages in a map; an action that goes on: SetRoot, Alloc, Free. -/
set_option maxRecDepth 100000
namespace Go.Proofs.YtgboeolnojpehaaGreatDoor
open Go.RowKit Go.Maps

theorem PMap.del_none {w : World} {b m : Nat} {F : Int → Option Value} (h : PMap w b m F) {t e : TypeId} (ht : Tryz.prog.underlying t = some (.map 3 e)) (q : Int) (hq : (Lit.int .i64 q).wf = true) (hF : F q = none) (ty : TypeId) :
    ∃ w', (Builtin.delete_ #[t, 3] ty #[.map (some b), .int .i64 q]).run Tryz.prog w = .ok (.tuple #[]) w' ∧ PMap w' b m F ∧ w.mapTurned w' b := by
  obtain ⟨D, h1, h2, h3⟩ := h
  obtain ⟨w', hr, ho, ht'⟩ := h1.drop keyI ht (keyOf_int_mk (P := Tryz.prog) Tryz.underlying3 hq) ty
  have hn : Maps.has D (.int .i64 q) = false := by
    rcases h3 q hq with ⟨_, hn⟩ | ⟨u, hu, _⟩
    · exact hn
    · rw [hF] at hu; cases hu
  have hsz : Maps.size (D.del (.int .i64 q)) = m := by
    have := Maps.size_del (k := .int .i64 q) (h1.tidy keyI)
    rw [hn, h2] at this
    simpa using this
  refine ⟨w', hr, ⟨_, by rw [← hsz]; exact own_size ho, hsz, fun i hi => ?_⟩, ht'⟩
  by_cases hiq : i = q
  · subst hiq
    exact .inl ⟨hF, Maps.has_del_same⟩
  · have hne : (Lit.int .i64 i) ≠ .int .i64 q := fun e => hiq (by injection e)
    rw [Maps.has_del_other hne]
    exact (h3 i hi).imp id (fun ⟨u, hu, h4, h5⟩ => ⟨u, hu, h4, fun z => by rw [Maps.atKey_del_other hne]; exact h5 z⟩)

/-- A draft. -/
structure Dr where
  blk : Nat
  fresh : Bool
  was : List UInt8
  now : List UInt8
def Dr.cells (x : Dr) : List Value := .bool x.fresh :: (Lib.byteCells x.was ++ Lib.byteCells x.now)
theorem Dr.cells_length (x : Dr) (h1 : x.was.length = 512) (h2 : x.now.length = 512) : x.cells.length = 1025 := by simp [Dr.cells, Lib.byteCells_length, h1, h2]
def noughts : List UInt8 := List.replicate 512 0
theorem noughts_length : noughts.length = 512 := by simp [noughts]
def Dr.ptr (x : Dr) : Value := .pointer (some ⟨x.blk, 0, none⟩)

/-- Drafts by their pages: m of them, in the map at block db. -/
structure DraftsAt (w : World) (db m : Nat) (D : Nat → Option Dr) : Prop where
  map : ∃ F, PMap w db m F ∧ (∀ q x, D q = some x → F q = some x.ptr) ∧ ∀ q v, F q = some v → ∃ (n : Nat) (x : Dr), (n : Int) = q ∧ D n = some x ∧ v = x.ptr
  at_ : ∀ q x, D q = some x → q < 4096 ∧ w.rangeAt x.blk 0 x.cells ∧ (∀ j, w.frozen? ⟨x.blk, j, none⟩ = false) ∧ x.was.length = 512 ∧ x.now.length = 512 ∧ x.blk ≠ db ∧ x.blk < w.heap.size
  one : ∀ q q' x y, D q = some x → D q' = some y → x.blk = y.blk → q = q'

section
variable {w w' : World} {db m : Nat} {D : Nat → Option Dr}
theorem DraftsAt.ltM (h : DraftsAt w db m D) : db < w.heap.size := by
  obtain ⟨F, hF, _⟩ := h.map
  exact hF.lt
theorem DraftsAt.keep (h : DraftsAt w db m D) (h1 : w'.heap[db]? = w.heap[db]?) (h2 : ∀ q x, D q = some x → w'.heap[x.blk]? = w.heap[x.blk]?) : DraftsAt w' db m D := by
  obtain ⟨F, hF, h4, h5⟩ := h.map
  refine ⟨⟨F, hF.block h1, h4, h5⟩, fun q x hq => ?_, h.one⟩
  obtain ⟨a, b, c, d, e, f, g⟩ := h.at_ q x hq
  have hb := h2 q x hq
  exact ⟨a, fun j v hv => (World.cell?_of_block hb).trans (b j v hv), fun j => (World.frozen?_of_block hb).trans (c j), d, e, f, by
    have : x.blk < w'.heap.size := by
      rw [Array.getElem?_eq_getElem g] at hb
      exact (Array.getElem?_eq_some_iff.1 hb).1
    exact this⟩
theorem DraftsAt.kept {S : Nat → Prop} (h : DraftsAt w db m D) (hk : Kept S w w') (h1 : ¬ S db) (h2 : ∀ q x, D q = some x → ¬ S x.blk) : DraftsAt w' db m D :=
  h.keep (hk.block db h.ltM h1) (fun q x hq => hk.block x.blk (h.at_ q x hq).2.2.2.2.2.2 (h2 q x hq))
theorem DraftsAt.below (h : DraftsAt w db m D) (hk : Below w.heap.size w w') : DraftsAt w' db m D :=
  h.keep (hk.block db h.ltM) (fun q x hq => hk.block x.blk (h.at_ q x hq).2.2.2.2.2.2)

theorem DraftsAt.look (h : DraftsAt w db m D) {q : Nat} {x : Dr} (hq : D q = some x) : (Instr.lookup 38 (.map (some db)) (.int .i64 q) false).run Tryz.prog w = .ok x.ptr w := by
  obtain ⟨F, hF, h4, _⟩ := h.map
  have := hF.look Tryz.underlying38 (by kernel_rfl) q (WalkArith.wf_i64 (by have := (h.at_ q x hq).1; omega))
  rw [this, h4 q x hq]; rfl
theorem DraftsAt.look_none (h : DraftsAt w db m D) {q : Nat} (hq4 : q < 4096) (hq : D q = none) : (Instr.lookup 38 (.map (some db)) (.int .i64 q) false).run Tryz.prog w = .ok (.pointer none) w := by
  obtain ⟨F, hF, _, h5⟩ := h.map
  have := hF.look Tryz.underlying38 (by kernel_rfl) q (WalkArith.wf_i64 (by omega))
  rw [this]
  cases hv : F q with
  | none => rfl
  | some v =>
    obtain ⟨n, x, e, hx, _⟩ := h5 q v hv
    have : n = q := by omega
    subst this
    rw [hq] at hx; cases hx

/-- A draft comes in. -/
theorem DraftsAt.put (h : DraftsAt w db m D) (hm : m < 4611686018427387904) {q : Nat} (hq4 : q < 4096) (hq : D q = none) (x : Dr) (hr : w.rangeAt x.blk 0 x.cells) (hf : ∀ j, w.frozen? ⟨x.blk, j, none⟩ = false) (h1 : x.was.length = 512) (h2 : x.now.length = 512) (hdb : x.blk ≠ db) (hlt : x.blk < w.heap.size) (hno : ∀ q y, D q = some y → y.blk ≠ x.blk) :
    ∃ w', (Instr.mapUpdate 38 (.map (some db)) (.int .i64 q) x.ptr).run Tryz.prog w = .ok () w' ∧ DraftsAt w' db (m + 1) (upd D q (some x)) ∧ Kept (fun k => k = db) w w' := by
  obtain ⟨F, hF, h4, h5⟩ := h.map
  have hFq : F q = none := by
    cases hv : F q with
    | none => rfl
    | some v =>
      obtain ⟨n, y, e, hy, _⟩ := h5 q v hv
      have : n = q := by omega
      subst this
      rw [hq] at hy; cases hy
  obtain ⟨w', hr', hF', ht⟩ := hF.put Tryz.underlying38 (by unfold maxLen; omega) q (WalkArith.wf_i64 (by omega)) hFq x.ptr
  have hk : Kept (fun k => k = db) w w' := Kept.ofTurned ht rfl
  refine ⟨w', hr', ⟨⟨_, hF', fun j y hj => ?_, fun j v hj => ?_⟩, fun j y hj => ?_, fun j j' y y' hj hj' e => ?_⟩, hk⟩
  · by_cases hjq : j = q
    · subst hjq; rw [upd_same] at hj; cases hj; exact updI_same _ _ _
    · rw [upd_other _ _ hjq] at hj; rw [updI_other _ _ (by omega)]; exact h4 j y hj
  · by_cases hjq : j = q
    · subst hjq; rw [updI_same] at hj; cases hj; exact ⟨q, x, rfl, upd_same _ _ _, rfl⟩
    · rw [updI_other _ _ hjq] at hj
      obtain ⟨n, y, e1, e2, e3⟩ := h5 j v hj
      exact ⟨n, y, e1, by rw [upd_other _ _ (by omega)]; exact e2, e3⟩
  · have hh : ∀ y : Dr, w.rangeAt y.blk 0 y.cells → (∀ j, w.frozen? ⟨y.blk, j, none⟩ = false) → y.blk ≠ db → y.blk < w.heap.size → w'.rangeAt y.blk 0 y.cells ∧ (∀ j, w'.frozen? ⟨y.blk, j, none⟩ = false) ∧ y.blk < w'.heap.size := fun y a b c d => by
      have hb := hk.block y.blk d c
      exact ⟨fun j v hv => (World.cell?_of_block hb).trans (a j v hv), fun j => (World.frozen?_of_block hb).trans (b j), Nat.lt_of_lt_of_le d hk.size⟩
    by_cases hjq : j = q
    · subst hjq; rw [upd_same] at hj; cases hj
      obtain ⟨a, b, c⟩ := hh x hr hf hdb hlt
      exact ⟨hq4, a, b, h1, h2, hdb, c⟩
    · rw [upd_other _ _ hjq] at hj
      obtain ⟨a, b, c, d, e, f, g⟩ := h.at_ j y hj
      obtain ⟨a', b', c'⟩ := hh y b c f g
      exact ⟨a, a', b', d, e, f, c'⟩
  · by_cases hjq : j = q <;> by_cases hjq' : j' = q
    · omega
    · subst hjq; rw [upd_same] at hj; rw [upd_other _ _ hjq'] at hj'; cases hj; exact absurd e.symm (hno j' y' hj')
    · subst hjq'; rw [upd_same] at hj'; rw [upd_other _ _ hjq] at hj; cases hj'; exact absurd e (hno j y hj)
    · rw [upd_other _ _ hjq] at hj; rw [upd_other _ _ hjq'] at hj'; exact h.one j j' y y' hj hj' e

/-- A draft goes, if there is one. -/
theorem DraftsAt.del (h : DraftsAt w db m D) {q : Nat} (hq4 : q < 4096) (ty : TypeId) :
    ∃ w' m', (Builtin.delete_ #[38, 3] ty #[.map (some db), .int .i64 q]).run Tryz.prog w = .ok (.tuple #[]) w' ∧ DraftsAt w' db m' (upd D q none) ∧ m' ≤ m ∧ Kept (fun k => k = db) w w' := by
  obtain ⟨F, hF, h4, h5⟩ := h.map
  have hrest : ∀ (w' : World) (m' : Nat) (F' : Int → Option Value), PMap w' db m' F' → F' q = none → (∀ j, j ≠ (q : Int) → F' j = F j) → Kept (fun k => k = db) w w' → DraftsAt w' db m' (upd D q none) := fun w' m' F' hF' g1 g2 hk => by
    refine ⟨⟨F', hF', fun j y hj => ?_, fun j v hj => ?_⟩, fun j y hj => ?_, fun j j' y y' hj hj' e => ?_⟩
    · by_cases hjq : j = q
      · subst hjq; rw [upd_same] at hj; cases hj
      · rw [upd_other _ _ hjq] at hj; rw [g2 _ (by omega)]; exact h4 j y hj
    · by_cases hjq : j = q
      · rw [hjq, g1] at hj; cases hj
      · rw [g2 _ hjq] at hj
        obtain ⟨n, y, e1, e2, e3⟩ := h5 j v hj
        exact ⟨n, y, e1, by rw [upd_other _ _ (by omega)]; exact e2, e3⟩
    · by_cases hjq : j = q
      · subst hjq; rw [upd_same] at hj; cases hj
      · rw [upd_other _ _ hjq] at hj
        obtain ⟨a, b, c, d, e, f, g⟩ := h.at_ j y hj
        have hb := hk.block y.blk g f
        exact ⟨a, fun j v hv => (World.cell?_of_block hb).trans (b j v hv), fun j => (World.frozen?_of_block hb).trans (c j), d, e, f, Nat.lt_of_lt_of_le g hk.size⟩
    · by_cases hjq : j = q
      · subst hjq; rw [upd_same] at hj; cases hj
      · by_cases hjq' : j' = q
        · subst hjq'; rw [upd_same] at hj'; cases hj'
        · rw [upd_other _ _ hjq] at hj; rw [upd_other _ _ hjq'] at hj'; exact h.one j j' y y' hj hj' e
  cases hv : F q with
  | none =>
    obtain ⟨w', hr', hF', ht⟩ := hF.del_none Tryz.underlying38 q (WalkArith.wf_i64 (by omega)) hv ty
    have hk : Kept (fun k => k = db) w w' := Kept.ofTurned ht rfl
    exact ⟨w', m, hr', hrest w' m F hF' hv (fun _ _ => rfl) hk, Nat.le_refl _, hk⟩
  | some v =>
    have hm0 : ∃ m0, m = m0 + 1 := by
      obtain ⟨Dd, g1, g2, g3⟩ := hF
      cases m with
      | succ n => exact ⟨n, rfl⟩
      | zero =>
        exfalso
        rcases g3 q (WalkArith.wf_i64 (by omega)) with ⟨e, _⟩ | ⟨u, _, e, _⟩
        · rw [hv] at e; cases e
        · have := Maps.size_del (k := .int .i64 (q : Int)) (g1.tidy keyI)
          rw [e, g2] at this
          simp at this
    obtain ⟨m0, rfl⟩ := hm0
    obtain ⟨w', hr', hF', ht⟩ := hF.del Tryz.underlying38 q (WalkArith.wf_i64 (by omega)) hv ty
    have hk : Kept (fun k => k = db) w w' := Kept.ofTurned ht rfl
    exact ⟨w', m0, hr', hrest w' m0 _ hF' (updI_same _ _ _) (fun j hj => updI_other _ _ hj) hk, by omega, hk⟩
end
end Go.Proofs.YtgboeolnojpehaaGreatDoor

/- An action that goes on: SetRoot, Alloc, Free. -/
set_option maxRecDepth 100000
namespace Go.Proofs.YtgboeolnojpehaaGreatDoor
open Go.RowKit

/-- An action that goes on, at block a, of the space at block s; last is the space's head, h its own; D its drafts. -/
structure ActSt (w : World) (a s d l p db m : Nat) (last h : Hd) (D : Nat → Option Dr) : Prop where
  sp : SpaceAt w s d l p last (some a)
  ac : ActAt w a s h (.map (some db))
  dr : DraftsAt w db m D
  okl : last.Ok
  ok : h.Ok
  has : ∀ q x, D q = some x → h.has q
  ne : a ≠ s ∧ a ≠ db ∧ s ≠ db
  blk : ∀ q x, D q = some x → x.blk ≠ a ∧ x.blk ≠ s

section
variable {w w' : World} {a s d l p db m : Nat} {last h : Hd} {D : Nat → Option Dr}
theorem ActSt.live (x : ActSt w a s d l p db m last h D) : Refused (.pointer (some ⟨a, 0, none⟩)) 0 w := arefuses_live a s w x.ac.self x.ac.st x.sp.cur_
theorem ActSt.below (x : ActSt w a s d l p db m last h D) (hb : Below w.heap.size w w') : ActSt w' a s d l p db m last h D :=
  ⟨x.sp.below hb, x.ac.below hb, x.dr.below hb, x.okl, x.ok, x.has, x.ne, x.blk⟩
/-- Whatever is no action's may turn. -/
theorem ActSt.kept {S : Nat → Prop} (x : ActSt w a s d l p db m last h D) (hk : Kept S w w') (h1 : ¬ S a) (h2 : ¬ S s) (h3 : ¬ S db) (h4 : ∀ q x, D q = some x → ¬ S x.blk) : ActSt w' a s d l p db m last h D :=
  ⟨x.sp.kept hk h2, x.ac.kept hk h1, x.dr.kept hk h3 h4, x.okl, x.ok, x.has, x.ne, x.blk⟩
/-- The head has turned, and nothing besides. -/
theorem ActSt.turnHd (x : ActSt w a s d l p db m last h D) {h' : Hd} (hd : HdAt w' a 2 h') (ht : Touch a 2 81 w w') (hk : Kept (fun k => k = a) w w') (k : h'.Ok) (hh : ∀ q x, D q = some x → h'.has q) : ActSt w' a s d l p db m last h' D :=
  ⟨x.sp.kept hk (fun e => x.ne.1 e.symm), x.ac.turnHd hd ht, x.dr.kept hk (fun e => x.ne.2.1 e.symm) (fun q y hq => (x.blk q y hq).1), x.okl, k, hh, x.ne, x.blk⟩

/-! ### SetRoot -/
set_option maxHeartbeats 800000 in
theorem asetRoot_bad (q n : Int) (x : ActSt w a s d l p db m last h D) (hn : ¬ (0 ≤ q ∧ q < 16 ∧ 0 ≤ n ∧ n ≤ 2147483647)) :
    Calls Tryz.prog 14 #[.pointer (some ⟨a, 0, none⟩), .int .i64 q, .int .i64 n] w fun e w' => e = .returned (.int .i64 1) ∧ w' = w := by
  have HR : Hid (Calls Tryz.prog 25 #[.pointer (some ⟨a, 0, none⟩)] w fun e w' => e = .returned (.int .i64 0) ∧ w' = w) := Lib.hid x.live
  have h1 := isRoot_any q w
  clear x
  by_cases hq : 0 ≤ q ∧ q < 16
  · rw [decide_eq_true hq] at h1
    have HI := Lib.hid h1; clear h1
    by_cases hn0 : n < 0
    · clear hn hq
      go_enter Tryz.func14, Tryz.ntmps14
      go_wp2_with fail
      refine HR.out.mono ?_
      rintro e w' ⟨rfl, hw⟩
      subst w'
      go_wp2_with fail
      refine HI.out.mono ?_
      rintro e w' ⟨rfl, hw⟩
      subst w'
      go_wp2
      go_ret
      exact ⟨rfl, rfl⟩
    · have hn1 : (2147483647 : Int) < n := by omega
      clear hn hq
      go_enter Tryz.func14, Tryz.ntmps14
      go_wp2_with fail
      refine HR.out.mono ?_
      rintro e w' ⟨rfl, hw⟩
      subst w'
      go_wp2_with fail
      refine HI.out.mono ?_
      rintro e w' ⟨rfl, hw⟩
      subst w'
      go_wp2
      go_ret
      exact ⟨rfl, rfl⟩
  · rw [decide_eq_false hq] at h1
    have HI := Lib.hid h1; clear h1 hn hq
    go_enter Tryz.func14, Tryz.ntmps14
    go_wp2_with fail
    refine HR.out.mono ?_
    rintro e w' ⟨rfl, hw⟩
    subst w'
    go_wp2_with fail
    refine HI.out.mono ?_
    rintro e w' ⟨rfl, hw⟩
    subst w'
    go_wp2
    go_ret
    exact ⟨rfl, rfl⟩

theorem Hd.Ok.setRoot {h : Hd} (k : h.Ok) {i x : Nat} (hi : i < 16) (hx : x < 2147483648) : (h.setRoot i x).Ok :=
  ⟨k.nf, by simp [Hd.setRoot, k.nr], k.cnt, k.lt, fun j => by
    rw [Hd.root_setRoot h k i x j hi]
    split
    · exact hx
    · exact k.rt j, k.in_⟩

set_option maxHeartbeats 800000 in
theorem asetRoot_good (q n : Nat) (x : ActSt w a s d l p db m last h D) (hq : q < 16) (hn : n < 2147483648) :
    Calls Tryz.prog 14 #[.pointer (some ⟨a, 0, none⟩), .int .i64 q, .int .i64 n] w fun e w' => e = .returned (.int .i64 0) ∧ ActSt w' a s d l p db m last (h.setRoot q n) D ∧ Kept (fun k => k = a) w w' := by
  have HR : Hid (Calls Tryz.prog 25 #[.pointer (some ⟨a, 0, none⟩)] w fun e w' => e = .returned (.int .i64 0) ∧ w' = w) := Lib.hid x.live
  have h1 := isRoot_any q w
  rw [decide_eq_true (by omega)] at h1
  have HI := Lib.hid h1; clear h1
  have hc := x.ac.hd.root x.ok hq
  have hf := x.ac.froz (2 + 65 + q)
  have HE : Hid (ActSt (w.setCell ⟨a, 2 + 65 + q, none⟩ (.int .i64 n)) a s d l p db m last (h.setRoot q n) D ∧ Kept (fun k => k = a) w (w.setCell ⟨a, 2 + 65 + q, none⟩ (.int .i64 n))) := Lib.hid (by
    have hk : Kept (fun k => k = a) w (w.setCell ⟨a, 2 + 65 + q, none⟩ (.int .i64 n)) := Kept.setCell (fun k => k = a) w (b := a) rfl _
    refine ⟨x.turnHd ?_ (Touch.setCell (fb := a) (o := 2) (n := 81) (i := 2 + 65 + q) w _ (by omega) (by omega)) hk (x.ok.setRoot hq hn) (fun j y hj => x.has j y hj), hk⟩
    have := x.ac.hd.set (h' := h.setRoot q n) (i := 65 + q) (v := .int .i64 n) (by rw [Hd.cells_length x.ok]; omega) (Hd.cells_setRoot x.ok n)
    rwa [← Nat.add_assoc] at this)
  rw [show 2 + 65 + q = 67 + q by omega] at hc hf HE
  have hq16 : (q : Int) < 16 := by omega
  have hn31 : (n : Int) ≤ 2147483647 := by omega
  obtain ⟨r, hr⟩ : ∃ r, r = h.root q := ⟨_, rfl⟩
  rw [← hr] at hc
  clear x hr
  go_enter Tryz.func14, Tryz.ntmps14
  go_wp2_with fail
  refine HR.out.mono ?_
  rintro e w' ⟨rfl, hw⟩
  subst w'
  go_wp2_with fail
  refine HI.out.mono ?_
  rintro e w' ⟨rfl, hw⟩
  subst w'
  go_wp2
  go_ret
  exact ⟨rfl, HE.out⟩

/-! ### Alloc -/
theorem built_fresh : Tryz.prog.built 83 [(0, .bool true)] = some (Dr.cells ⟨0, true, noughts, noughts⟩).toArray := by kernel_rfl

/-- What Alloc leaves. -/
def AllocPost (a s d l p db m : Nat) (last h : Hd) (D : Nat → Option Dr) (w : World) (e : Ending) (w' : World) : Prop :=
  (∃ q h' b, h.NextIs q h' ∧ e = .returned (.tuple #[.int .i64 q, .int .i64 0]) ∧ w.heap.size ≤ b ∧ ActSt w' a s d l p db (m + 1) last h' (upd D q (some ⟨b, true, noughts, noughts⟩)) ∧ Kept (fun k => k = a ∨ k = db) w w') ∨
  ((∀ j, h.isFree j = false) ∧ h.count = 4095 ∧ e = .returned (.tuple #[.int .i64 0, .int .i64 2]) ∧ w' = w)

set_option maxHeartbeats 1600000 in
theorem aalloc_live (x : ActSt w a s d l p db m last h D) (hT : Tab w) (hm : m < 4611686018427387904) :
    Calls Tryz.prog 10 #[.pointer (some ⟨a, 0, none⟩)] w (AllocPost a s d l p db m last h D w) := by
  have HR : Hid (Calls Tryz.prog 25 #[.pointer (some ⟨a, 0, none⟩)] w fun e w' => e = .returned (.int .i64 0) ∧ w' = w) := Lib.hid x.live
  have HT := Lib.hid (take_any a 2 h w x.ac.hd x.ok hT x.ac.froz)
  have HX := Lib.hid x
  have c83 : ∀ W, Touch a 2 81 w W → W.cell? ⟨a, 83, none⟩ = some (.map (some db)) := fun W ht => (ht.out 83 (by omega)).trans HX.out.ac.dr
  have HC := Lib.hid c83
  obtain ⟨Y, hY⟩ : ∃ Y : Array Value, Y = (Dr.cells ⟨0, true, noughts, noughts⟩).toArray := ⟨_, rfl⟩
  have HB := Lib.hid built_fresh
  rw [← hY] at HB
  have HY := Lib.hid hY
  clear x hT c83 hY
  go_enter Tryz.func10, Tryz.ntmps10
  go_wp2_with fail
  refine HR.out.mono ?_
  rintro e w' ⟨rfl, hw⟩
  subst w'
  go_wp2_with fail
  refine HT.out.mono ?_
  rintro e w1 (⟨q, h', hn, rfl, hd, ht, hk⟩ | ⟨h1, h2, rfl, hw⟩)
  · obtain ⟨k', hq1, hq4, hno, hhas, _⟩ := hn.spec HX.out.ok
    have hq0 : ((q : Int) == 0) = false := by simp; omega
    have c83 := HC.out w1 ht
    have hX1 : ActSt w1 a s d l p db m last h' D := HX.out.turnHd hd ht hk k' (fun j y hj => (hhas j).2 (.inl (HX.out.has j y hj)))
    have hDq : D q = none := by
      cases hv : D q with
      | none => rfl
      | some y => exact absurd (HX.out.has q y hv) hno
    obtain ⟨w2, hw2⟩ : ∃ w2, w2 = w1.alloc (.cells Y 83) := ⟨_, rfl⟩
    have hb2 : Below w1.heap.size w1 w2 := by rw [hw2]; exact (Below.refl _ _).alloc (Nat.le_refl _) _
    have hX2 := hX1.below hb2
    have hnew : w2.heap[w1.heap.size]? = some (.cells Y 83 (0, 0)) := by rw [hw2]; exact heap_alloc_new w1 _
    have hrg : w2.rangeAt w1.heap.size 0 (Dr.cells ⟨w1.heap.size, true, noughts, noughts⟩) := fun j v hv => by
      rw [Nat.zero_add, Lib.cell_of_heap hnew, HY.out, List.getElem?_toArray]; exact hv
    have hsz := hk.size
    have hdl := hX1.dr.ltM
    obtain ⟨w3, hr, hD3, hk3⟩ := hX2.dr.put hm hq4 hDq ⟨w1.heap.size, true, noughts, noughts⟩ hrg (fun j => Lib.frozen_of_heap hnew _) noughts_length noughts_length (by show w1.heap.size ≠ db; omega) (by show w1.heap.size < w2.heap.size; rw [hw2]; simp) (fun j y hj => by
      have := (hX1.dr.at_ j y hj).2.2.2.2.2.2
      show y.blk ≠ w1.heap.size
      omega)
    have hend : AllocPost a s d l p db m last h D w (.returned (.tuple #[.int .i64 q, .int .i64 0])) w3 := by
      refine .inl ⟨q, h', w1.heap.size, hn, rfl, hsz, ⟨hX2.sp.kept hk3 hX2.ne.2.2, hX2.ac.kept hk3 hX2.ne.2.1, hD3, hX2.okl, k', fun j y hj => ?_, hX2.ne, fun j y hj => ?_⟩, ?_⟩
      · by_cases hjq : j = q
        · exact (hhas j).2 (.inr hjq)
        · rw [upd_other _ _ hjq] at hj; exact hX2.has j y hj
      · by_cases hjq : j = q
        · subst hjq; rw [upd_same] at hj; cases hj
          have h1 := hX1.ac.lt; have h2 := hX1.sp.lt
          show w1.heap.size ≠ a ∧ w1.heap.size ≠ s
          omega
        · rw [upd_other _ _ hjq] at hj; exact hX2.blk j y hj
      · exact ((hk.mono (T := fun k => k = a ∨ k = db) (fun k e => .inl e)).trans (Kept.ofBelow (S := fun k => k = a ∨ k = db) hb2) (fun _ hi => .inl hi)).trans (hk3.mono (T := fun k => k = a ∨ k = db) (fun k e => .inr e)) (fun _ hi => .inl hi)
    have HE := Lib.hid hend
    rw [hw2] at hr
    have hr' : (Instr.mapUpdate 38 (.map (some db)) (.int .i64 q) (.pointer (some ⟨w1.heap.size, 0, none⟩))).run Tryz.prog (w1.alloc (.cells Y 83)) = .ok () w3 := hr
    have HRR := Lib.hid hr'
    clear hd ht hk hn k' hq1 hq4 hno hhas hX1 hDq hw2 hb2 hX2 hnew hrg hr hD3 hk3 hend hr' hsz hdl
    go_wp2_with (first
      | (refine wpList_val rfl (.agg Y) (exec_build rfl _ (by simp [go_sem]) Y HB.out w1) ?_)
      | (refine wpList_mapUpdate_run rfl _ _ _ 38 rfl _ _ _ (by rfl) (by rfl) (by rfl) HRR.out ?_))
    go_ret2
    exact HE.out
  · subst w1
    have HE := Lib.hid (show AllocPost a s d l p db m last h D w (.returned (.tuple #[.int .i64 0, .int .i64 2])) w from .inr ⟨h1, h2, rfl, rfl⟩)
    clear h1 h2
    go_wp2
    go_ret2
    exact HE.out

/-! ### Free -/
set_option maxHeartbeats 800000 in
theorem refusesPage_live (q : Int) (x : ActSt w a s d l p db m last h D) :
    Calls Tryz.prog 27 #[.pointer (some ⟨a, 0, none⟩), .int .i64 q] w fun e w' => e = .returned (.int .i64 (if 1 ≤ q ∧ h.has q.toNat then 0 else 3)) ∧ w' = w := by
  have HR : Hid (Calls Tryz.prog 25 #[.pointer (some ⟨a, 0, none⟩)] w fun e w' => e = .returned (.int .i64 0) ∧ w' = w) := Lib.hid x.live
  have h1 := has_any a 2 h q w x.ac.hd x.ok
  by_cases hq : 1 ≤ q ∧ h.has q.toNat
  · rw [decide_eq_true hq] at h1
    rw [if_pos hq]
    have HI := Lib.hid h1; clear h1 hq x
    go_enter Tryz.func27, Tryz.ntmps27
    go_wp2_with fail
    refine HR.out.mono ?_
    rintro e w' ⟨rfl, hw⟩
    subst w'
    go_wp2_with fail
    refine HI.out.mono ?_
    rintro e w' ⟨rfl, hw⟩
    subst w'
    go_wp2
    go_ret
    exact ⟨rfl, rfl⟩
  · rw [decide_eq_false hq] at h1
    rw [if_neg hq]
    have HI := Lib.hid h1; clear h1 hq x
    go_enter Tryz.func27, Tryz.ntmps27
    go_wp2_with fail
    refine HR.out.mono ?_
    rintro e w' ⟨rfl, hw⟩
    subst w'
    go_wp2_with fail
    refine HI.out.mono ?_
    rintro e w' ⟨rfl, hw⟩
    subst w'
    go_wp2
    go_ret
    exact ⟨rfl, rfl⟩

set_option maxHeartbeats 800000 in
theorem afree_none (q : Int) (x : ActSt w a s d l p db m last h D) (hq : ¬ (1 ≤ q ∧ h.has q.toNat)) :
    Calls Tryz.prog 13 #[.pointer (some ⟨a, 0, none⟩), .int .i64 q] w fun e w' => e = .returned (.int .i64 3) ∧ w' = w := by
  have h1 := refusesPage_live q x
  rw [if_neg hq] at h1
  have HP := Lib.hid h1; clear h1 x hq
  go_enter Tryz.func13, Tryz.ntmps13
  go_wp2_with fail
  refine HP.out.mono ?_
  rintro e w' ⟨rfl, hw⟩
  subst w'
  go_wp2
  go_ret
  exact ⟨rfl, rfl⟩

set_option maxHeartbeats 1600000 in
theorem afree_live (q : Nat) (x : ActSt w a s d l p db m last h D) (hq : h.has q) :
    Calls Tryz.prog 13 #[.pointer (some ⟨a, 0, none⟩), .int .i64 q] w fun e w' => e = .returned (.int .i64 0) ∧ (∃ m', m' ≤ m ∧ ActSt w' a s d l p db m' last (h.turn q) (upd D q none)) ∧ Kept (fun k => k = a ∨ k = db) w w' := by
  have h1 := refusesPage_live q x
  have hq1 := hq.1
  have hq4 : q < 4096 := by have := hq.2.1; have := x.ok.cnt; omega
  rw [if_pos (by rw [Int.toNat_natCast]; exact ⟨by omega, hq⟩)] at h1
  have HP := Lib.hid h1
  have HT := Lib.hid (hturn_any a 2 h q w x.ac.hd x.ok hq4 x.ac.froz)
  have HX := Lib.hid x
  have HQ := Lib.hid hq
  have hq0 : (0 : Int) ≤ q := by omega
  have hq5 : (q : Int) < 4096 := by omega
  clear h1 x hq
  go_enter Tryz.func13, Tryz.ntmps13
  go_wp2_with fail
  refine HP.out.mono ?_
  rintro e w' ⟨rfl, hw⟩
  subst w'
  go_wp2_with fail
  refine HT.out.mono ?_
  rintro e w1 ⟨rfl, hd, ht, hk⟩
  have c83 : w1.cell? ⟨a, 83, none⟩ = some (.map (some db)) := (ht.out 83 (by omega)).trans HX.out.ac.dr
  have hdr := HX.out.dr.kept hk (fun e => HX.out.ne.2.1 e.symm) (fun j y hj => (HX.out.blk j y hj).1)
  obtain ⟨w2, m', hr, hD2, hm, hk2⟩ := hdr.del hq4 0
  have hend : (∃ m', m' ≤ m ∧ ActSt w2 a s d l p db m' last (h.turn q) (upd D q none)) ∧ Kept (fun k => k = a ∨ k = db) w w2 := by
    have hok := HX.out.ok.turn hq4 ⟨hq1, HQ.out.2.1⟩
    refine ⟨⟨m', hm, (HX.out.sp.kept hk (fun e => HX.out.ne.1 e.symm)).kept hk2 HX.out.ne.2.2, (HX.out.ac.turnHd hd ht).kept hk2 HX.out.ne.2.1, hD2, HX.out.okl, hok, fun j y hj => ?_, HX.out.ne, fun j y hj => ?_⟩, (hk.mono (T := fun k => k = a ∨ k = db) (fun k e => .inl e)).trans (hk2.mono (T := fun k => k = a ∨ k = db) (fun k e => .inr e)) (fun _ hi => .inl hi)⟩
    · by_cases hjq : j = q
      · subst hjq; rw [upd_same] at hj; cases hj
      · rw [upd_other _ _ hjq] at hj
        have := HX.out.has j y hj
        refine ⟨this.1, this.2.1, ?_⟩
        rw [Hd.isFree_turn HX.out.ok hq4, if_neg hjq]
        exact this.2.2
    · by_cases hjq : j = q
      · subst hjq; rw [upd_same] at hj; cases hj
      · rw [upd_other _ _ hjq] at hj; exact HX.out.blk j y hj
  have HE := Lib.hid hend
  have HRR := Lib.hid hr
  clear hd ht hk hdr hr hD2 hm hk2 hend
  go_wp2_with (refine wpList_delete_run rfl _ _ 38 3 rfl _ _ (by rfl) (by rfl) HRR.out ?_)
  go_ret
  exact ⟨rfl, HE.out⟩
end
end Go.Proofs.YtgboeolnojpehaaGreatDoor

/- Pages of a space without pages; Pinned. -/
set_option maxRecDepth 100000
namespace Go.Proofs.YtgboeolnojpehaaGreatDoor
open Go.RowKit

set_option maxHeartbeats 800000 in
theorem freePages_zero (b o : Nat) (h : Hd) (w : World) (a : HdAt w b o h) (hc : h.count = 0) :
    Calls Tryz.prog 36 #[.pointer (some ⟨b, o, none⟩)] w fun e w' => e = .returned (.slice none 0 0) ∧ w' = w := by
  have c0 := a.count
  rw [hc] at c0
  have c0' : w.cell? ⟨b, o, none⟩ = some (.int .i64 0) := c0
  clear a hc c0
  go_enter Tryz.func36, Tryz.ntmps36
  go_wp2
  refine wp_loop_rounds 1 ?_
  rw [rounds_succ]
  go_wp2
  go_ret
  exact ⟨rfl, rfl⟩

set_option maxHeartbeats 800000 in
theorem pages_zero (s d l p : Nat) (h : Hd) (cur : Option Nat) (w : World) (x : SpaceAt w s d l p h cur) (hc : h.count = 0) :
    Calls Tryz.prog 16 #[.pointer (some ⟨s, 0, none⟩)] w fun e w' => e = .returned (.tuple #[.int .i64 0, .slice none 0 0]) ∧ ∃ n, w' = w.drewN n := by
  have HG := Lib.hid (sgiven_self s w x.self)
  have HF : Hid (∀ n, Calls Tryz.prog 36 #[.pointer (some ⟨s, 4, none⟩)] (w.drewN n) fun e w' => e = .returned (.slice none 0 0) ∧ w' = w.drewN n) := Lib.hid (fun n => freePages_zero s 4 h (w.drewN n) (x.hd.block rfl) hc)
  have c0 := x.hd.count
  rw [hc] at c0
  have c0' : w.cell? ⟨s, 4, none⟩ = some (.int .i64 0) := c0
  clear x hc c0
  go_enter Tryz.func16, Tryz.ntmps16
  go_wp2_with fail
  refine HG.out.mono ?_
  rintro e w' ⟨rfl, hw⟩
  subst w'
  go_wp2_with fail
  go_quiet ((go_at_call 36; exact Calls.quiet_of_same (HF.out _)))
  go_wp2
  go_ret2
  exact ⟨rfl, _, rfl⟩

set_option maxHeartbeats 400000 in
theorem pages_nobody (v : Value) (w : World) (hp : NoSpace v w) : Calls Tryz.prog 16 #[v] w fun e w' => e = .returned (.tuple #[.int .i64 0, .slice none 0 0]) ∧ w' = w := by
  have HP : Hid (Calls Tryz.prog 35 #[v] w fun e w' => e = .returned (.bool false) ∧ w' = w) := Lib.hid hp; clear hp
  go_enter Tryz.func16, Tryz.ntmps16
  go_wp2_with fail
  refine HP.out.mono ?_
  rintro e w' ⟨rfl, hw⟩
  subst w'
  go_wp2
  go_ret2
  exact ⟨rfl, rfl⟩
set_option maxHeartbeats 400000 in
theorem pinned_nospace (v : Value) (w : World) (hp : NoSpace v w) : Calls Tryz.prog 18 #[v] w fun e w' => e = .returned (.int .i64 0) ∧ w' = w := by
  have HP : Hid (Calls Tryz.prog 35 #[v] w fun e w' => e = .returned (.bool false) ∧ w' = w) := Lib.hid hp; clear hp
  go_enter Tryz.func18, Tryz.ntmps18
  go_wp2_with fail
  refine HP.out.mono ?_
  rintro e w' ⟨rfl, hw⟩
  subst w'
  go_wp2
  go_ret
  exact ⟨rfl, rfl⟩
set_option maxHeartbeats 400000 in
theorem checkpoint_nospace (v : Value) (w : World) (hp : NoSpace v w) : Calls Tryz.prog 17 #[v] w fun e w' => e = .returned (.int .i64 1) ∧ w' = w := by
  have HP := Lib.hid (srefuses_nobody v w hp); clear hp
  go_enter Tryz.func17, Tryz.ntmps17
  go_wp2_with fail
  refine HP.out.mono ?_
  rintro e w' ⟨rfl, hw⟩
  subst w'
  go_wp2
  go_ret
  exact ⟨rfl, rfl⟩

set_option maxHeartbeats 1600000 in
theorem pinned_zero (J : List RawOp → Prop) (B s d l p n N : Nat) (S : Nat → Prop) (C : Nat → List UInt8) (h : Hd) (cur : Option Nat) (w : World) (x : SpaceAt w s d l p h cur) (y : PoolJ J B S p d n C (fun _ => 0) N w) :
    Calls Tryz.prog 18 #[.pointer (some ⟨s, 0, none⟩)] w fun e w' => e = .returned (.int .i64 0) ∧ Below w.heap.size w w' := by
  have HG := Lib.hid (sgiven_self s w x.self)
  have HH := Lib.hid (held_j y)
  have HX := Lib.hid x; have HY := Lib.hid y
  have cp := x.pl
  clear x y
  go_enter Tryz.func18, Tryz.ntmps18
  go_wp2_with fail
  refine HG.out.mono ?_
  rintro e w' ⟨rfl, hw⟩
  subst w'
  go_wp2_with fail
  refine HH.out.mono ?_
  rintro e w1 ⟨v, ll, rfl, hrow, hlen, _, _, hin, hb⟩
  obtain ⟨a, c, rfl, hcell⟩ := hrow
  have hll : (asInts ll).length = ll.length := by simp [asInts]
  rw [hll]
  obtain ⟨L, hL⟩ : ∃ L, L = ll.length := ⟨_, rfl⟩
  rw [← hL]
  have HC : Hid (∀ k, k < L → ∃ g q, a = some ⟨g, 0, none⟩ ∧ w1.cell? ⟨g, k, none⟩ = some (.int .i64 q) ∧ Hid (Calls Tryz.prog 39 #[.pointer (some ⟨p, 0, none⟩), .int .i64 q] w1 fun e w' => e = .returned (.int .i64 0) ∧ w' = w1)) := Lib.hid (fun k hk => by
    rw [hL] at hk
    rcases hcell with h0 | ⟨g, rfl, _, _, hc⟩
    · exfalso
      have : (asInts ll).length = 0 := by rw [h0]; rfl
      omega
    · have hq := hin ll[k] (List.getElem_mem hk)
      exact ⟨g, ll[k], rfl, hc k _ (by simp [asInts, hk]), Lib.hid (pins_j_no (HY.out.below hb) _ (WalkArith.wf_i64 (by omega)) (fun _ _ => rfl))⟩)
  have hL2 : L ≤ 9223372036854775807 := by
    obtain ⟨fb, mb, hand, m, fr, Sd, ops, _, hG, _⟩ := HY.out
    have := hG.n2; omega
  have cp1 : w1.cell? ⟨s, 3, none⟩ = some (.pointer (some ⟨p, 0, none⟩)) := (HX.out.below hb).pl
  have HB := Lib.hid hb
  clear hin hb hcell hll hL hlen
  go_wp2
  go_loop [3, 16] (fun n i => ∃ k : Nat, k ≤ L ∧ i = .int .i64 k ∧ n = .int .i64 0) (fun _ i => L - (intOf i).toNat)
  case atStart => exact ⟨0, by omega, rfl, rfl⟩
  case round =>
    obtain ⟨k, hk, rfl, rfl⟩ := hrel
    by_cases hlt : k < L
    · obtain ⟨g, q, rfl, hc, hp⟩ := HC.out k hlt
      have hkL : (k : Int) < L := by omega
      go_wp2_with fail
      refine hp.out.mono ?_
      rintro e w' ⟨rfl, hw⟩
      subst w'
      go_wp2
      go_round
      case rel => exact ⟨k + 1, by omega, by go_num, rfl⟩
      case measure => simp [intOf]; omega
    · go_wp2
      go_ret
      exact ⟨rfl, HB.out⟩
end Go.Proofs.YtgboeolnojpehaaGreatDoor
