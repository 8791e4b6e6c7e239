/- The law's own pages: what they hold and where they lie; its find and pinned. -/
import Derived.Test.YtnmeobbbcccgjaaPO
import Derived.Laws.OwnMore
set_option maxRecDepth 100000
namespace Go.Proofs.Ytnmeobbbcccgjaa
open Go.RowKit

/-- A page of the law's: its number, its bytes, how often it is pinned. -/
structure Pg where
  page : Nat
  bytes : List UInt8
  pins : Nat

def natVals (l : List Nat) : List Value := l.map fun q : Nat => Value.int .i64 (q : Int)
theorem natVals_length (l : List Nat) : (natVals l).length = l.length := by simp [natVals]
def rowVal (b : Nat) : Value := .slice (some ⟨b, 0, none⟩) 512 512

/-- The law's pages lie at block g; all their blocks are of T. -/
structure PgF (T : Nat → Prop) (g n : Nat) (L : List Pg) (va vb vp : Value) (bs : List Nat) (w : World) : Prop where
  own : T g
  blk : w.heap[g]? = some (.cells #[.int .i64 n, va, vb, vp] 34 (0, 0))
  at_ : w.ownsRow 0 3 1 va L.length (natVals (L.map (·.page)))
  rows : w.ownsRow 0 44 1 vb L.length (bs.map rowVal)
  pins : w.ownsRow 0 3 1 vp L.length (natVals (L.map (·.pins)))
  bytes : ∀ (i b : Nat) (e : Pg), bs[i]? = some b → L[i]? = some e → w.heap[b]? = some (.cells (Lib.byteCells e.bytes).toArray 5 (0, 0))
  nodup : bs.Nodup
  footA : ∀ k, va.ownBlock = some k → T k
  footB : ∀ k, vb.ownBlock = some k → T k
  footP : ∀ k, vp.ownBlock = some k → T k
  footR : ∀ b, b ∈ bs → T b
  ap : ∀ k, va.ownBlock = some k → vp.ownBlock ≠ some k

def PgAt (T : Nat → Prop) (g n : Nat) (L : List Pg) (w : World) : Prop := ∃ va vb vp bs, PgF T g n L va vb vp bs w

/-- A row's slice, spelt out. -/
theorem row_shape {w : World} {B e n : Nat} {v : Value} {xs : List Value} (h : w.ownsRow B e 1 v n xs) : ∃ a c, v = .slice a n c ∧ n ≤ c ∧ (n = 0 ∨ ∃ g, a = some ⟨g, 0, none⟩ ∧ v.ownBlock = some g ∧ g < w.heap.size ∧ (∀ j u, xs[j]? = some u → w.cell? ⟨g, j, none⟩ = some u) ∧ ∀ j, w.frozen? ⟨g, j, none⟩ = false) := by
  rcases h.2 with ⟨rfl, h0⟩ | ⟨g, cap, cur, rfl, _, hg, hnc, _⟩
  · exact ⟨none, 0, by rw [h0], by omega, .inl h0⟩
  · refine ⟨_, cap, rfl, hnc, .inr ⟨g, rfl, rfl, (Array.getElem?_eq_some_iff.1 hg).1, fun j u hu => ?_, fun j => Lib.frozen_of_heap hg j⟩⟩
    have := h.cells (g := g) rfl j u hu
    rw [add_lit', Nat.zero_add] at this
    exact this

/-- Rows of different element types lie in different blocks. -/
theorem row_block {w : World} {B e n : Nat} {v : Value} {xs : List Value} (h : w.ownsRow B e 1 v n xs) {k : Nat} (hk : v.ownBlock = some k) : ∃ cur, w.heap[k]? = some (.cells cur e (0, 0)) := by
  rcases h.2 with ⟨rfl, _⟩ | ⟨g, cap, cur, rfl, _, hg, _⟩
  · simp [Value.ownBlock] at hk
  · obtain rfl : g = k := by simpa [Value.ownBlock] using hk
    exact ⟨cur, hg⟩
theorem block_ne {w : World} {k k' : Nat} {c c' : Array Value} {e e' : TypeId} (h : w.heap[k]? = some (.cells c e (0, 0))) (h' : w.heap[k']? = some (.cells c' e' (0, 0))) (hne : e ≠ e') : k ≠ k' := by
  rintro rfl
  rw [h] at h'
  injection h' with h'
  injection h' with _ h'
  exact hne h'

section
variable {T : Nat → Prop} {g n : Nat} {L : List Pg} {va vb vp : Value} {bs : List Nat} {w w' : World}
theorem PgF.lenB (h : PgF T g n L va vb vp bs w) : bs.length = L.length := by have := h.rows.1; simpa using this
theorem PgF.lt (h : PgF T g n L va vb vp bs w) : g < w.heap.size := (Array.getElem?_eq_some_iff.1 h.blk).1
theorem PgF.c0 (h : PgF T g n L va vb vp bs w) : w.cell? ⟨g, 0, none⟩ = some (.int .i64 n) := by rw [Lib.cell_of_heap h.blk]; rfl
theorem PgF.c1 (h : PgF T g n L va vb vp bs w) : w.cell? ⟨g, 1, none⟩ = some va := by rw [Lib.cell_of_heap h.blk]; rfl
theorem PgF.c2 (h : PgF T g n L va vb vp bs w) : w.cell? ⟨g, 2, none⟩ = some vb := by rw [Lib.cell_of_heap h.blk]; rfl
theorem PgF.c3 (h : PgF T g n L va vb vp bs w) : w.cell? ⟨g, 3, none⟩ = some vp := by rw [Lib.cell_of_heap h.blk]; rfl

/-- All the blocks of the pages. -/
theorem PgF.blocks (h : PgF T g n L va vb vp bs w) {k : Nat} (hk : k = g ∨ va.ownBlock = some k ∨ vb.ownBlock = some k ∨ vp.ownBlock = some k ∨ k ∈ bs) : T k ∧ k < w.heap.size := by
  rcases hk with rfl | hk | hk | hk | hk
  · exact ⟨h.own, h.lt⟩
  · exact ⟨h.footA k hk, (h.at_.lt k hk).2⟩
  · exact ⟨h.footB k hk, (h.rows.lt k hk).2⟩
  · exact ⟨h.footP k hk, (h.pins.lt k hk).2⟩
  · obtain ⟨i, hi, rfl⟩ := List.getElem_of_mem hk
    have := h.bytes i _ _ (List.getElem?_eq_getElem hi) (List.getElem?_eq_getElem (by rw [← h.lenB]; exact hi))
    exact ⟨h.footR _ hk, (Array.getElem?_eq_some_iff.1 this).1⟩

theorem PgF.block (h : PgF T g n L va vb vp bs w) (hb : ∀ k, T k → k < w.heap.size → w'.heap[k]? = w.heap[k]?) : PgF T g n L va vb vp bs w' := by
  have hx : ∀ k, (k = g ∨ va.ownBlock = some k ∨ vb.ownBlock = some k ∨ vp.ownBlock = some k ∨ k ∈ bs) → w'.heap[k]? = w.heap[k]? := fun k hk => hb k (h.blocks hk).1 (h.blocks hk).2
  exact ⟨h.own, (hx g (.inl rfl)).trans h.blk, ownsRow_of_block h.at_ (fun k hk => hx k (.inr (.inl hk))), ownsRow_of_block h.rows (fun k hk => hx k (.inr (.inr (.inl hk)))), ownsRow_of_block h.pins (fun k hk => hx k (.inr (.inr (.inr (.inl hk))))),
    fun i b e hi he => (hx b (.inr (.inr (.inr (.inr (List.mem_of_getElem? hi)))))).trans (h.bytes i b e hi he), h.nodup, h.footA, h.footB, h.footP, h.footR, h.ap⟩
theorem PgAt.kept {S : Nat → Prop} (h : PgAt T g n L w) (hk : Kept S w w') (hd : ∀ k, k < w.heap.size → T k → ¬ S k) : PgAt T g n L w' := by
  obtain ⟨va, vb, vp, bs, h⟩ := h
  exact ⟨va, vb, vp, bs, h.block (fun k ht hlt => hk.block k hlt (hd k hlt ht))⟩
theorem PgAt.below (h : PgAt T g n L w) (hk : Below w.heap.size w w') : PgAt T g n L w' := h.kept (Kept.ofBelow (S := fun _ => False) hk) (fun _ _ _ => id)
end

set_option maxHeartbeats 800000 in
theorem find_yes (T : Nat → Prop) (g n i0 : Nat) (L : List Pg) (e0 : Pg) (w : World) (h : PgAt T g n L w) (hnd : (L.map (·.page)).Nodup) (hp : ∀ e ∈ L, e.page < 4096) (hL : L.length ≤ 4096) (hi : L[i0]? = some e0) :
    Calls Try.prog 27 #[.pointer (some ⟨g, 0, none⟩), .int .i64 e0.page] w fun e w' => e = .returned (.int .i64 i0) ∧ w' = w := by
  obtain ⟨va, vb, vp, bs, h⟩ := h
  have c1 := h.c1
  obtain ⟨a, c, rfl, hlc, hsh⟩ := row_shape h.at_
  have hil : i0 < L.length := (List.getElem?_eq_some_iff.1 hi).1
  obtain ⟨b, rfl, hbl, hcell⟩ : ∃ b, a = some ⟨b, 0, none⟩ ∧ True ∧ ∀ j (hj : j < L.length), w.cell? ⟨b, j, none⟩ = some (.int .i64 L[j].page) := by
    rcases hsh with h0 | ⟨b, rfl, _, _, hc, _⟩
    · omega
    · exact ⟨b, rfl, trivial, fun j hj => hc j _ (by simp [natVals, hj])⟩
  have HC : Hid (∀ j, j < i0 → ∃ q : Nat, w.cell? ⟨b, j, none⟩ = some (.int .i64 q) ∧ q ≠ e0.page ∧ q < 4096) := Lib.hid (fun j hj => by
    have hjl : j < L.length := by omega
    refine ⟨L[j].page, hcell j hjl, fun e => ?_, hp _ (List.getElem_mem hjl)⟩
    have h1 := (List.pairwise_iff_getElem.1 hnd) j i0 (by simpa using hjl) (by simpa using hil) hj
    obtain ⟨_, hi'⟩ := List.getElem?_eq_some_iff.1 hi
    simp only [List.getElem_map, hi'] at h1
    exact h1 e)
  have d0 : w.cell? ⟨b, i0, none⟩ = some (.int .i64 e0.page) := by
    obtain ⟨_, hi'⟩ := List.getElem?_eq_some_iff.1 hi
    rw [hcell i0 hil, hi']
  have hq : e0.page < 4096 := hp e0 (List.mem_of_getElem? hi)
  obtain ⟨q0, hq0⟩ : ∃ q0, q0 = e0.page := ⟨_, rfl⟩
  rw [← hq0] at d0 hq HC ⊢
  obtain ⟨ll, hll⟩ : ∃ ll, ll = L.length := ⟨_, rfl⟩
  rw [← hll] at c1 hil hL hlc
  clear hq0 hll hcell hbl h hsh hi hp hnd
  go_enter Try.func27, Try.ntmps27
  go_wp2
  go_loop [5] (fun i => ∃ j : Nat, j ≤ i0 ∧ i = .int .i64 j) (fun i => i0 - (intOf i).toNat)
  case atStart => exact ⟨0, by omega, rfl⟩
  case round =>
    obtain ⟨j, hj, rfl⟩ := hrel
    by_cases hlt : j < i0
    · obtain ⟨q, hc, hne, hq4⟩ := HC.out j hlt
      have hqq : ((q : Int) == (q0 : Int)) = false := by simp; omega
      clear hne
      go_wp2
      go_round
      case rel => exact ⟨j + 1, by omega, by go_num⟩
      case measure => simp [intOf]; omega
    · obtain rfl : j = i0 := by omega
      go_wp2
      go_ret
      exact ⟨rfl, rfl⟩

set_option maxHeartbeats 800000 in
theorem find_no (T : Nat → Prop) (g n : Nat) (L : List Pg) (x : Int) (w : World) (h : PgAt T g n L w) (hp : ∀ e ∈ L, e.page < 4096 ∧ (e.page : Int) ≠ x) (hL : L.length ≤ 4096) :
    Calls Try.prog 27 #[.pointer (some ⟨g, 0, none⟩), .int .i64 x] w fun e w' => e = .returned (.int .i64 (-1)) ∧ w' = w := by
  obtain ⟨va, vb, vp, bs, h⟩ := h
  have c1 := h.c1
  obtain ⟨a, c, rfl, hlc, hsh⟩ := row_shape h.at_
  have HC : Hid (∀ j, j < L.length → ∃ (b q : Nat), a = some ⟨b, 0, none⟩ ∧ w.cell? ⟨b, j, none⟩ = some (.int .i64 q) ∧ (q : Int) ≠ x ∧ q < 4096) := Lib.hid (fun j hj => by
    rcases hsh with h0 | ⟨b, rfl, _, _, hc, _⟩
    · omega
    · exact ⟨b, L[j].page, rfl, hc j _ (by simp [natVals, hj]), (hp _ (List.getElem_mem hj)).2, (hp _ (List.getElem_mem hj)).1⟩)
  obtain ⟨ll, hll⟩ : ∃ ll, ll = L.length := ⟨_, rfl⟩
  rw [← hll] at c1 hL hlc HC
  clear hll h hsh hp
  go_enter Try.func27, Try.ntmps27
  go_wp2
  go_loop [5] (fun i => ∃ j : Nat, j ≤ ll ∧ i = .int .i64 j) (fun i => ll - (intOf i).toNat)
  case atStart => exact ⟨0, by omega, rfl⟩
  case round =>
    obtain ⟨j, hj, rfl⟩ := hrel
    by_cases hlt : j < ll
    · obtain ⟨b, q, rfl, hc, hne, hq4⟩ := HC.out j hlt
      have hqq : ((q : Int) == x) = false := by simpa using hne
      clear hne
      go_wp2
      go_round
      case rel => exact ⟨j + 1, by omega, by go_num⟩
      case measure => simp [intOf]; omega
    · go_wp2
      go_ret
      exact ⟨rfl, rfl⟩

/-- How many of the law's pages are pinned. -/
def pinL (L : List Pg) : Nat := (L.filter fun e => decide (0 < e.pins)).length
theorem pinL_take (L : List Pg) (j : Nat) (h : j < L.length) : pinL (L.take (j + 1)) = pinL (L.take j) + if 0 < L[j].pins then 1 else 0 := by
  unfold pinL
  rw [List.take_succ_eq_append_getElem h, List.filter_append, List.length_append]
  by_cases hp : 0 < L[j].pins <;> simp [hp]
theorem pinL_le (L : List Pg) : pinL L ≤ L.length := List.length_filter_le _ _

set_option maxHeartbeats 800000 in
theorem lawPinned_any (T : Nat → Prop) (g n : Nat) (L : List Pg) (w : World) (h : PgAt T g n L w) (hL : L.length ≤ 4096) :
    Calls Try.prog 28 #[.pointer (some ⟨g, 0, none⟩)] w fun e w' => e = .returned (.int .i64 (pinL L)) ∧ w' = w := by
  obtain ⟨va, vb, vp, bs, h⟩ := h
  have c3 := h.c3
  obtain ⟨a, c, rfl, hlc, hsh⟩ := row_shape h.pins
  have HC : Hid (∀ j (hj : j < L.length), ∃ b, a = some ⟨b, 0, none⟩ ∧ w.cell? ⟨b, j, none⟩ = some (.int .i64 L[j].pins)) := Lib.hid (fun j hj => by
    rcases hsh with h0 | ⟨b, rfl, _, _, hc, _⟩
    · omega
    · exact ⟨b, rfl, hc j _ (by simp [natVals, hj])⟩)
  have HTK := Lib.hid (pinL_take L)
  have HLE : Hid (∀ j, pinL (L.take j) ≤ j) := Lib.hid (fun j => Nat.le_trans (pinL_le _) (List.length_take_le _ _))
  have HALL : Hid (pinL (L.take L.length) = pinL L) := Lib.hid (by rw [List.take_length])
  obtain ⟨ll, hll⟩ : ∃ ll, ll = L.length := ⟨_, rfl⟩
  rw [← hll] at c3 hL hlc
  have HLL := Lib.hid hll
  clear hll h hsh
  go_enter Try.func28, Try.ntmps28
  go_wp2
  go_loop [3, 4] (fun m i => ∃ j k : Nat, j ≤ ll ∧ i = .int .i64 j ∧ m = .int .i64 k ∧ k ≤ j ∧ Hid (k = pinL (L.take j))) (fun _ i => ll - (intOf i).toNat)
  case atStart => exact ⟨0, 0, by omega, rfl, rfl, by omega, Lib.hid (by simp [pinL])⟩
  case round =>
    obtain ⟨j, k, hj, rfl, rfl, hkj, HK⟩ := hrel
    by_cases hlt : j < ll
    · have hjl : j < L.length := by have := HLL.out; omega
      obtain ⟨b, rfl, hc⟩ := HC.out j hjl
      have HT := Lib.hid (HTK.out j hjl)
      obtain ⟨q, hq⟩ : ∃ q, q = L[j].pins := ⟨_, rfl⟩
      rw [← hq] at hc HT
      clear hq
      by_cases hp : 0 < q
      · have hp' : (0 : Int) < q := by omega
        go_wp2
        go_round
        case rel => exact ⟨j + 1, k + 1, by omega, by go_num, by go_num, by omega, Lib.hid (by rw [HT.out, if_pos hp, HK.out])⟩
        case measure => simp [intOf]; omega
      · have hp' : (q : Int) ≤ 0 := by omega
        go_wp2
        go_round
        case rel => exact ⟨j + 1, k, by omega, by go_num, rfl, by omega, Lib.hid (by rw [HT.out, if_neg hp, HK.out]; rfl)⟩
        case measure => simp [intOf]; omega
    · have hjl : j = ll := by omega
      have HJ := Lib.hid hjl; clear hjl
      go_wp2
      go_ret
      refine ⟨?_, rfl⟩
      have e : k = pinL L := by rw [HK.out, HJ.out, HLL.out, HALL.out]
      rw [← e]; rfl
end Go.Proofs.Ytnmeobbbcccgjaa
