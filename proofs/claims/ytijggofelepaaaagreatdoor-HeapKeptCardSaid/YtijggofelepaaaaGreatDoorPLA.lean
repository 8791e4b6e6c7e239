/- Texts of the same proof, one behind the other: IA, IE, IF, IG, IH. -/
import Derived.Test.YtijggofelepaaaaGreatDoorMAT
import Derived.BigQuiet
/- Rows of addresses beside a heap: one that only grows, one whose head is dropped; the list without a row that came and went. -/
set_option maxRecDepth 100000
namespace Go.Proofs.YtijggofelepaaaaGreatDoor
open Go Go.RowKit

section
variable {J : List RawOp → Prop} {B : Nat} {S S' : Nat → Prop} {c : Ac} {w w' : World} {hb r : Nat} {l : List Rw} {m : Nat}
theorem HpL.kept {T : Nat → Prop} (x : HpL J B c hb r S l m w) (hk : Kept T w w') (hT : ∀ k, T k → k < w.heap.size → ¬ S k ∧ 1 ≤ k ∧ k ≠ hb) : HpL J B c hb r S l m w' := by
  obtain ⟨L, ⟨h, G, hA, ht, hS, hs⟩, y⟩ := x
  exact ⟨L, ⟨h, G, hA.kept hk (fun k h1 h2 => ⟨(hT k h1 h2).1, (hT k h1 h2).2.1⟩), ht.kept hk (fun h1 => (hT hb h1 ht.lt).2.2 rfl), hS, hs⟩, y⟩
theorem HpL.lt (x : HpL J B c hb r S l m w) : hb < w.heap.size := by
  obtain ⟨L, ⟨h, G, hA, ht, hS, hs⟩, y⟩ := x
  exact ht.lt
theorem HpL.blk (x : HpL J B c hb r S l m w) : ∀ k, S k → k < w.heap.size := by
  obtain ⟨L, ⟨h, G, hA, ht, hS, hs⟩, y⟩ := x
  exact fun k hk => (hA.low k hk).2
end

/-- Numbers in a row, wherever it begins; its spare cells are there. -/
def TailI (w : World) (v : Value) (xs : List Nat) : Prop := (v = .slice none 0 0 ∧ xs = []) ∨
  ∃ g o cap, v = .slice (some ⟨g, o, none⟩) xs.length cap ∧ xs.length ≤ cap ∧ g < w.heap.size ∧ (∀ j, j < cap → (w.cell? ⟨g, o + j, none⟩).isSome = true ∧ w.frozen? ⟨g, o + j, none⟩ = false) ∧ ∀ j x : Nat, xs[j]? = some x → w.cell? ⟨g, o + j, none⟩ = some (.int .i64 (x : Int))
section
variable {w w' : World} {v : Value} {xs : List Nat}
end
theorem withoutR_one {x : Rw} : ∀ {l : List Rw}, l.Pairwise (fun a b => a.tid < b.tid) → x ∈ l → (withoutR l x.tid).length + 1 = l.length
  | [], _, h => by cases h
  | a :: l, hs, h => by
    obtain ⟨h1, h2⟩ := List.pairwise_cons.1 hs
    rcases List.mem_cons.1 h with rfl | h
    · have e : withoutR (x :: l) x.tid = l := by
        unfold withoutR
        rw [List.filter_cons, if_neg (by simp)]
        exact List.filter_eq_self.2 fun y hy => by have := h1 y hy; simp; omega
      rw [e]; rfl
    · have := withoutR_one h2 h
      have hne : a.tid ≠ x.tid := by have := h1 x h; omega
      unfold withoutR at this ⊢
      rw [List.filter_cons, if_pos (by simpa using hne), List.length_cons, List.length_cons]
      omega
end Go.Proofs.YtijggofelepaaaaGreatDoor

/- Rows of the document's list, as they lie: three cells each; what is put behind them. No walk is met here. -/
set_option maxRecDepth 100000
namespace Go.Proofs.YtijggofelepaaaaGreatDoor
open Go.RowKit

theorem add_plain7 (b off i : Nat) : (⟨b, off, none⟩ : Addr).add i = ⟨b, off + i, none⟩ := Addr.add_lit _ _ _
def rwC (x : Rw) : List Value := [.int .i64 (x.tid : Int), .string ⟨x.row.toArray⟩, .bool x.lives]
/-- A list of rows: none, or a row of its own. -/
def RwV (w : World) (v : Value) (l : List Rw) : Prop := w.ownsRow 0 119 3 v l.length (l.flatMap rwC)
theorem infoRow7 : (Tryz.prog.info? 119).map (fun i => (i.zero, i.size, i.bytes)) = some (some (.agg #[.int .i64 0, .string ⟨#[]⟩, .bool false]), 3, 32) := by kernel_rfl
theorem rwC_len (l : List Rw) : (l.flatMap rwC).length = l.length * 3 := by
  induction l with
  | nil => rfl
  | cons x r ih => rw [List.flatMap_cons, List.length_append, ih]; simp [rwC]; omega
theorem RwV.nil_ (w : World) : RwV w (.slice none 0 0) [] := World.ownsRow_nil _ _ _ _
theorem rwC_at {e : Rw} : ∀ (l : List Rw) (j : Nat), l[j]? = some e → (l.flatMap rwC)[j * 3]? = some (.int .i64 (e.tid : Int)) ∧ (l.flatMap rwC)[j * 3 + 1]? = some (.string ⟨e.row.toArray⟩) ∧ (l.flatMap rwC)[j * 3 + 2]? = some (.bool e.lives)
  | [], _, h => by cases h
  | y :: r, 0, h => by
    simp only [List.getElem?_cons_zero, Option.some.injEq] at h
    subst h
    simp [rwC]
  | y :: r, j + 1, h => by
    have := rwC_at r j (by simpa using h)
    rw [List.flatMap_cons]
    have e1 : (j + 1) * 3 = (rwC y).length + j * 3 := by simp [rwC]; omega
    rw [e1, List.getElem?_append_right (by omega), Nat.add_sub_cancel_left, Nat.add_assoc, List.getElem?_append_right (by omega), Nat.add_sub_cancel_left, Nat.add_assoc, List.getElem?_append_right (by omega), Nat.add_sub_cancel_left]
    exact this
section
variable {w w' : World} {v : Value} {l : List Rw}
theorem RwV.shape (h : RwV w v l) : (v = .slice none 0 0 ∧ l = []) ∨ ∃ g c, v = .slice (some ⟨g, 0, none⟩) l.length c ∧ g < w.heap.size ∧ l.length ≤ c ∧ c ≤ maxLen := by
  rcases h.2 with ⟨h1, h2⟩ | ⟨g, cap, cur, h1, _, hh, h3, h4, _⟩
  · exact .inl ⟨h1, List.eq_nil_of_length_eq_zero h2⟩
  · exact .inr ⟨g, cap, h1, (Array.getElem?_eq_some_iff.1 hh).1, h3, h4⟩
theorem RwV.slice (h : RwV w v l) : ∃ A c, v = .slice A l.length c ∧ l.length ≤ c ∧ c ≤ maxLen := by
  rcases h.shape with ⟨h1, rfl⟩ | ⟨g, c, h1, _, h2, h3⟩
  · exact ⟨none, 0, h1, Nat.le_refl _, Nat.zero_le _⟩
  · exact ⟨_, c, h1, h2, h3⟩
theorem RwV.at_ (h : RwV w v l) {j : Nat} {e : Rw} (hj : l[j]? = some e) : ∃ g c, v = .slice (some ⟨g, 0, none⟩) l.length c ∧ g < w.heap.size ∧ w.cell? ⟨g, j * 3, none⟩ = some (.int .i64 (e.tid : Int)) ∧ w.cell? ⟨g, j * 3 + 1, none⟩ = some (.string ⟨e.row.toArray⟩) ∧ w.cell? ⟨g, j * 3 + 2, none⟩ = some (.bool e.lives) := by
  rcases h.shape with ⟨_, rfl⟩ | ⟨g, c, rfl, h2, _⟩
  · cases hj
  · have hcell : ∀ i u, (l.flatMap rwC)[i]? = some u → w.cell? ⟨g, i, none⟩ = some u := fun i u hu => by
      have := World.ownsRow.cells (w := w) h (g := g) rfl i u hu
      rw [add_plain7, Nat.zero_add] at this
      exact this
    obtain ⟨c1, c2, c3⟩ := rwC_at l j hj
    exact ⟨g, c, rfl, h2, hcell _ _ c1, hcell _ _ c2, hcell _ _ c3⟩
theorem RwV.lt (h : RwV w v l) : ∀ g, v.ownBlock = some g → g < w.heap.size := fun g hg => (World.ownsRow.lt h g hg).2
theorem RwV.kept {T : Nat → Prop} (h : RwV w v l) (hk : Kept T w w') (hT : ∀ g, v.ownBlock = some g → ¬ T g) : RwV w' v l :=
  ownsRow_of_block h fun k hk' => hk.block k (h.lt k hk') (hT k hk')
theorem RwV.below (h : RwV w v l) (hb : Below w.heap.size w w') : RwV w' v l := h.kept (Kept.ofBelow (S := fun _ => False) hb) (fun _ _ h => h)

/-- A list that is made by a call: in new blocks alone. -/
structure NewR (n : Nat) (w : World) (v : Value) (l : List Rw) : Prop where
  is : RwV w v l
  new : ∀ g, v.ownBlock = some g → n ≤ g
theorem NewR.nil_ (n : Nat) (w : World) : NewR n w (.slice none 0 0) [] := ⟨RwV.nil_ w, fun g hg => by simp [Value.ownBlock] at hg⟩
theorem NewR.below {n : Nat} (h : NewR n w v l) (hb : Below w.heap.size w w') : NewR n w' v l := ⟨h.is.below hb, h.new⟩
/-- One more row behind a new list; what was there ahead stands. -/
theorem rows_push {n : Nat} (ty : TypeId) (h : NewR n w v l) (hn : n ≤ w.heap.size) (x : Rw) (hl : l.length ≤ 100000) :
    ∃ v' w', (Builtin.append_ #[73, 73] ty #[v, .slice (some ⟨w.heap.size, 0, none⟩) 1 1]).run Tryz.prog (w.alloc (.cells #[.int .i64 (x.tid : Int), .string ⟨x.row.toArray⟩, .bool x.lives] 119)) = .ok v' w' ∧ NewR n w' v' (l ++ [x]) ∧ Below n w w' := by
  obtain ⟨i0, hi, q0, q1, q2⟩ := info_parts infoRow7
  have hba := (Below.refl w.heap.size w).alloc (Nat.le_refl _) (.cells #[.int .i64 (x.tid : Int), .string ⟨x.row.toArray⟩, .bool x.lives] 119)
  obtain ⟨v', w', hr, h1, h2⟩ := append_own2 (w.alloc (.cells #[.int .i64 (x.tid : Int), .string ⟨x.row.toArray⟩, .bool x.lives] 119)) 73 ty 119 i0 (.agg #[.int .i64 0, .string ⟨#[]⟩, .bool false]) 3 32 Tryz.underlying73 hi q0 q1 q2 rfl (by decide) v l.length (l.flatMap rwC) (h.is.below hba) ⟨w.heap.size, 0, none⟩ 1 1 ([x].flatMap rwC) (rwC_len [x]) (fun j u hu => by
    rw [add_plain7, Nat.zero_add, Lib.cell_of_heap (heap_alloc_new w _), ← hu]
    match j with
    | 0 => rfl
    | 1 => rfl
    | 2 => rfl
    | j + 3 => simp [rwC]) (fun u hu => by
    obtain ⟨e, _, he⟩ := List.mem_flatMap.1 hu
    simp only [rwC, List.mem_cons, List.not_mem_nil, or_false] at he
    rcases he with rfl | rfl | rfl <;> rfl) (by unfold maxLen; omega) (by omega) (by omega)
  refine ⟨v', w', hr, ⟨?_, fun g hg => ?_⟩, ?_⟩
  · unfold RwV
    rw [List.flatMap_append, List.length_append]
    exact h1
  · rcases h2.2 g hg with h3 | h3
    · exact h.new g h3
    · simp at h3; omega
  · refine ⟨h2.1.os, h2.1.tape, h2.1.output, ?_, fun k hk => ?_⟩
    · have := h2.1.size; simp at this; omega
    · exact (h2.1.block k (by simp; omega) (fun e => by have := h.new k e.symm; omega)).trans (Below.heap_alloc w _ k (by omega))
end
end Go.Proofs.YtijggofelepaaaaGreatDoor

/- Contracts: the document's list: where an address stands, the list without it, its addresses, whether two lists of numbers are the same. -/
set_option maxRecDepth 100000
namespace Go.Proofs.YtijggofelepaaaaGreatDoor
open Go Go.RowKit

/-- Where an address stands; else -1. -/
def FindIs (l : List Rw) (t r : Int) : Prop := (∃ (j : Nat) (x : Rw), r = j ∧ l[j]? = some x ∧ (x.tid : Int) = t) ∨ (r = -1 ∧ ∀ x ∈ l, (x.tid : Int) ≠ t)
section
variable {w : World} {v : Value} {l : List Rw}
theorem RwV.all (h : RwV w v l) {A : Option Addr} {n c : Nat} (hv : v = .slice A n c) : ∀ j, j < n → ∃ g, ∃ x : Rw, A = some ⟨g, 0, none⟩ ∧ l[j]? = some x ∧ x ∈ l ∧ w.cell? ⟨g, j * 3, none⟩ = some (.int .i64 (x.tid : Int)) ∧ w.cell? ⟨g, j * 3 + 1, none⟩ = some (.string ⟨x.row.toArray⟩) ∧ w.cell? ⟨g, j * 3 + 2, none⟩ = some (.bool x.lives) ∧ g < w.heap.size := fun j hj => by
  obtain ⟨A', c', hs, _⟩ := h.slice
  rw [hv] at hs
  have hn : n = l.length := by injection hs
  have he : l[j]? = some (l[j]'(by omega)) := List.getElem?_eq_getElem (by omega)
  obtain ⟨g, c2, h2, hg, c1, c2', c3⟩ := h.at_ he
  rw [hv] at h2
  injection h2 with h3 _ _
  exact ⟨g, _, h3, he, List.getElem_mem _, c1, c2', c3, hg⟩
set_option maxHeartbeats 800000 in
theorem find7 (h : RwV w v l) (hl : l.length ≤ 100000) (t : Int) : Calls Tryz.prog 61 #[v, .int .i64 t] w fun e w' => (∃ r, e = .returned (.int .i64 r) ∧ FindIs l t r) ∧ w' = w := by
  obtain ⟨A, c, rfl, hc, _⟩ := h.slice
  have HAT := Lib.hid (h.all rfl)
  obtain ⟨n, hn⟩ : ∃ n, n = l.length := ⟨_, rfl⟩
  rw [← hn] at HAT hl ⊢
  have HN := Lib.hid hn
  clear h hc hn
  go_enter Tryz.func61, Tryz.ntmps61
  go_wp2
  go_loopw [5] (fun i wr => (∃ j : Nat, j ≤ n ∧ i = .int .i64 j ∧ Hid (∀ x ∈ l.take j, (x.tid : Int) ≠ t)) ∧ w = wr) (fun i _ => n - (intOf i).toNat)
  case atStart => exact ⟨⟨0, by omega, rfl, Lib.hid (fun x hx => by simp at hx)⟩, rfl⟩
  case round =>
    obtain ⟨⟨j, hj, rfl, HNO⟩, rfl⟩ := hrel
    by_cases hjn : j < n
    · obtain ⟨g, x, rfl, hx, _, h1, _⟩ := HAT.out j hjn
      have HX := Lib.hid hx
      clear HAT hx
      by_cases ht : (x.tid : Int) = t
      · subst ht
        go_wp2
        go_ret
        exact ⟨⟨_, rfl, .inl ⟨j, x, rfl, HX.out, rfl⟩⟩, rfl⟩
      · have f2 : ((x.tid : Int) == t) = false := by simpa using ht
        go_wp2
        go_roundw
        case rel => exact ⟨⟨j + 1, by omega, by go_num, Lib.hid (fun y hy => by
          rw [List.take_add_one, HX.out] at hy
          rcases List.mem_append.1 hy with hy | hy
          · exact HNO.out y hy
          · obtain rfl : y = x := by simpa using hy
            exact ht)⟩, trivial⟩
        case measure => simp [intOf]; omega
    · clear HAT
      go_wp2
      go_ret
      refine ⟨⟨_, rfl, .inr ⟨rfl, fun y hy => HNO.out y ?_⟩⟩, rfl⟩
      rw [List.take_of_length_le (by have := HN.out; omega)]; exact hy

/-- An address of those there are; else the number itself. -/
def pickT (l : List Rw) (n : Int) : Int := if 0 ≤ n ∧ n < (l.length : Int) then ((l[n.toNat]?).map fun x => (x.tid : Int)).getD 0 else n
set_option maxHeartbeats 800000 in
theorem pick7 (h : RwV w v l) (k : Int) : Calls Tryz.prog 60 #[v, .int .i64 k] w fun e w' => e = .returned (.int .i64 (pickT l k)) ∧ w' = w := by
  obtain ⟨A, c, rfl, hc, _⟩ := h.slice
  have HAT := Lib.hid (h.all rfl)
  obtain ⟨n, hn⟩ : ∃ n, n = l.length := ⟨_, rfl⟩
  rw [← hn] at HAT ⊢
  have HN := Lib.hid hn
  clear h hc hn
  by_cases h0 : 0 ≤ k
  · obtain ⟨j, rfl⟩ := Int.eq_ofNat_of_zero_le h0
    by_cases hjn : j < n
    · obtain ⟨g, x, rfl, hx, _, h1, _⟩ := HAT.out j hjn
      have f1 : (j : Int) < (n : Int) := by omega
      have HP : Hid (pickT l j = x.tid) := Lib.hid (by unfold pickT; rw [if_pos ⟨by omega, by have := HN.out; omega⟩, Int.toNat_natCast, hx]; rfl)
      clear HAT hx
      rw [HP.out]
      go_enter Tryz.func60, Tryz.ntmps60
      go_wp2
      go_ret
      exact ⟨rfl, rfl⟩
    · have f1 : ¬ (j : Int) < (n : Int) := by omega
      have HP : Hid (pickT l j = j) := Lib.hid (by unfold pickT; rw [if_neg (fun h => f1 (by have := HN.out; omega))])
      clear HAT
      rw [HP.out]
      go_enter Tryz.func60, Tryz.ntmps60
      go_wp2
      go_ret
      exact ⟨rfl, rfl⟩
  · have HP : Hid (pickT l k = k) := Lib.hid (by unfold pickT; rw [if_neg (fun h => h0 h.1)])
    clear HAT
    rw [HP.out]
    go_enter Tryz.func60, Tryz.ntmps60
    go_wp2
    go_ret
    exact ⟨rfl, rfl⟩

theorem withoutR_take {x : Rw} {t j : Nat} (hx : l[j]? = some x) : withoutR (l.take (j + 1)) t = withoutR (l.take j) t ++ if x.tid ≠ t then [x] else [] := by
  unfold withoutR
  rw [List.take_add_one, hx, List.filter_append]
  congr 1
  by_cases h : x.tid = t <;> simp [h]
set_option maxHeartbeats 1600000 in
theorem without7 (h : RwV w v l) (hl : l.length ≤ 100000) (t : Nat) : Calls Tryz.prog 63 #[v, .int .i64 t] w fun e w' => ∃ v', e = .returned v' ∧ NewR w.heap.size w' v' (withoutR l t) ∧ Below w.heap.size w w' := by
  obtain ⟨A, c, hv, hc, _⟩ := h.slice
  have HAT : Hid (∀ W, Below w.heap.size w W → ∀ j, j < l.length → ∃ g, ∃ x : Rw, A = some ⟨g, 0, none⟩ ∧ l[j]? = some x ∧ x ∈ l ∧ W.cell? ⟨g, j * 3, none⟩ = some (.int .i64 (x.tid : Int)) ∧ W.cell? ⟨g, j * 3 + 1, none⟩ = some (.string ⟨x.row.toArray⟩) ∧ W.cell? ⟨g, j * 3 + 2, none⟩ = some (.bool x.lives) ∧ g < W.heap.size) := Lib.hid fun W hb => (h.below hb).all hv
  subst hv
  have HWL : Hid (l.take l.length = l) := Lib.hid (List.take_length)
  have HTL : Hid (∀ j, (withoutR (l.take j) t).length ≤ 100000) := Lib.hid fun j => by
    have h1 := withoutR_len (l.take j) t
    have h2 := List.length_take_le j l
    have h3 := List.length_take_le' j l
    omega
  obtain ⟨n, hn⟩ : ∃ n, n = l.length := ⟨_, rfl⟩
  rw [← hn] at HAT HWL hl ⊢
  clear h hc hn
  go_enter Tryz.func63, Tryz.ntmps63
  go_wp2
  go_loopw [5, 6] (fun o i wr => ∃ (j : Nat) (a' : Option Addr) (n' c' : Nat), j ≤ n ∧ i = .int .i64 j ∧ o = .slice a' n' c' ∧ Hid (NewR w.heap.size wr (.slice a' n' c') (withoutR (l.take j) t) ∧ Below w.heap.size w wr)) (fun _ i _ => n - (intOf i).toNat)
  case atStart => exact ⟨0, none, 0, 0, by omega, rfl, rfl, Lib.hid ⟨NewR.nil_ _ _, Below.refl _ _⟩⟩
  case round =>
    obtain ⟨j, a', n', c', hj, rfl, rfl, HI⟩ := hrel
    by_cases hjn : j < n
    · obtain ⟨g, x, rfl, hx, _, h1, h2, h3, hg⟩ := HAT.out wr HI.out.2 j hjn
      have HX := Lib.hid hx
      clear hx
      by_cases ht : x.tid = t
      · have f1 : (x.tid : Int) = t := by omega
        have f2 : ((x.tid : Int) != t) = false := by simpa using f1
        have HI2 := Lib.hid (show NewR w.heap.size wr (.slice a' n' c') (withoutR (l.take (j + 1)) t) ∧ Below w.heap.size w wr by
          rw [withoutR_take HX.out, if_neg (fun h => h ht), List.append_nil]; exact HI.out)
        clear HAT HI
        go_wp2
        go_roundw
        case rel => exact ⟨j + 1, a', n', c', by omega, by go_num, rfl, HI2⟩
        case measure => simp [intOf]; omega
      · have f1 : ¬ (x.tid : Int) = t := by omega
        have f2 : ((x.tid : Int) != t) = true := by simpa using f1
        obtain ⟨v', w', hr, hN, hB⟩ := rows_push 73 HI.out.1 HI.out.2.size x (HTL.out j)
        obtain ⟨a2, c2, hv2, _⟩ := hN.is.slice
        obtain ⟨n2, hn2⟩ : ∃ n2, n2 = (withoutR (l.take j) t ++ [x]).length := ⟨_, rfl⟩
        rw [← hn2] at hv2
        subst hv2
        have HI2 := Lib.hid (show NewR w.heap.size w' (.slice a2 n2 c2) (withoutR (l.take (j + 1)) t) ∧ Below w.heap.size w w' by
          rw [withoutR_take HX.out, if_pos ht]; exact ⟨hN, HI.out.2.trans hB⟩)
        clear HAT HI hN hB hn2
        go_wp2_with (at_builtin; refine Lib.wpList_append_run _ rfl _ _ 73 73 rfl _ _ rfl rfl _ _ hr ?_)
        go_roundw
        case rel => exact ⟨j + 1, a2, n2, c2, by omega, by go_num, rfl, HI2⟩
        case measure => simp [intOf]; omega
    · obtain rfl : j = n := by omega
      have HI2 := HI.out
      rw [HWL.out] at HI2
      have HI3 := Lib.hid HI2
      clear HI HI2 HAT
      go_wp2
      go_ret
      exact ⟨_, rfl, HI3.out⟩
end
end Go.Proofs.YtijggofelepaaaaGreatDoor

/- Contract: the document's list with one row more. -/
set_option maxRecDepth 100000
namespace Go.Proofs.YtijggofelepaaaaGreatDoor
open Go Go.RowKit

theorem withR_none {r : Rw} : ∀ {l : List Rw}, (∀ a ∈ l, ¬ r.tid < a.tid) → withR l r = l ++ [r]
  | [], _ => rfl
  | a :: l, h => by
    unfold withR
    rw [if_neg (h a (by simp)), withR_none (fun b hb => h b (by simp [hb]))]; rfl
theorem withR_first {r x : Rw} : ∀ {l : List Rw}, (∀ a ∈ l, ¬ r.tid < a.tid) → r.tid < x.tid → withR (l ++ [x]) r = l ++ [r] ++ [x]
  | [], _, hx => by simp [withR, hx]
  | a :: l, h, hx => by
    rw [List.cons_append]
    unfold withR
    rw [if_neg (h a (by simp)), withR_first (fun b hb => h b (by simp [hb])) hx]; rfl
theorem withR_snoc {r x : Rw} : ∀ {l : List Rw}, (∃ a ∈ l, r.tid < a.tid) → withR (l ++ [x]) r = withR l r ++ [x]
  | [], h => by obtain ⟨a, ha, _⟩ := h; cases ha
  | a :: l, h => by
    rw [List.cons_append]
    unfold withR
    by_cases hr : r.tid < a.tid
    · rw [if_pos hr, if_pos hr]; rfl
    · rw [if_neg hr, if_neg hr, withR_snoc]
      · rfl
      · obtain ⟨b, hb, h2⟩ := h
        rcases List.mem_cons.1 hb with rfl | hb
        · exact absurd h2 hr
        · exact ⟨b, hb, h2⟩
/-- What stands behind j rows: d: has the row been put in? -/
def WithI (l : List Rw) (r : Rw) (j : Nat) (d : Bool) (out : List Rw) : Prop :=
  (d = false ∧ out = l.take j ∧ ∀ a ∈ l.take j, ¬ r.tid < a.tid) ∨ (d = true ∧ out = withR (l.take j) r ∧ ∃ a ∈ l.take j, r.tid < a.tid)
section
variable {l out : List Rw} {r x : Rw} {j : Nat}
theorem WithI.start (l : List Rw) (r : Rw) : WithI l r 0 false [] := .inl ⟨rfl, by simp, fun a ha => by simp at ha⟩
theorem WithI.skip (h : WithI l r j false out) (hx : l[j]? = some x) (hn : ¬ r.tid < x.tid) : WithI l r (j + 1) false (out ++ [x]) := by
  rcases h with ⟨_, rfl, h⟩ | ⟨h, _⟩
  · have e : l.take (j + 1) = l.take j ++ [x] := by rw [List.take_add_one, hx]; rfl
    refine .inl ⟨rfl, e.symm, fun a ha => ?_⟩
    rw [e] at ha
    rcases List.mem_append.1 ha with ha | ha
    · exact h a ha
    · rw [List.mem_singleton.1 ha]; exact hn
  · cases h
theorem WithI.here (h : WithI l r j false out) (hx : l[j]? = some x) (hn : r.tid < x.tid) : WithI l r (j + 1) true (out ++ [r] ++ [x]) := by
  rcases h with ⟨_, rfl, h⟩ | ⟨h, _⟩
  · have e : l.take (j + 1) = l.take j ++ [x] := by rw [List.take_add_one, hx]; rfl
    refine .inr ⟨rfl, ?_, x, by rw [e]; simp, hn⟩
    rw [e, withR_first h hn]
  · cases h
theorem WithI.past (h : WithI l r j true out) (hx : l[j]? = some x) : WithI l r (j + 1) true (out ++ [x]) := by
  rcases h with ⟨h, _⟩ | ⟨_, rfl, h⟩
  · cases h
  · have e : l.take (j + 1) = l.take j ++ [x] := by rw [List.take_add_one, hx]; rfl
    refine .inr ⟨rfl, ?_, ?_⟩
    · rw [e, withR_snoc h]
    · obtain ⟨a, ha, h2⟩ := h
      exact ⟨a, by rw [e]; simp [ha], h2⟩
theorem WithI.len {d : Bool} (h : WithI l r j d out) : out.length ≤ l.length + 1 := by
  have h1 := List.length_take_le' j l
  rcases h with ⟨_, rfl, _⟩ | ⟨_, rfl, _⟩
  · omega
  · rw [withR_len]; omega
theorem WithI.end0 (h : WithI l r l.length false out) : withR l r = out ++ [r] := by
  rcases h with ⟨_, rfl, h⟩ | ⟨h, _⟩
  · rw [List.take_length] at h ⊢; exact withR_none h
  · cases h
theorem WithI.end1 (h : WithI l r l.length true out) : withR l r = out := by
  rcases h with ⟨h, _⟩ | ⟨_, rfl, h⟩
  · cases h
  · rw [List.take_length]
end
/-- A new list behind so many rows. -/
def WithM (W0 : World) (l : List Rw) (r : Rw) (j : Nat) (d : Bool) (v : Value) (wr : World) : Prop := ∃ out, WithI l r j d out ∧ NewR W0.heap.size wr v out ∧ Below W0.heap.size W0 wr
section
variable {w : World} {v : Value} {l : List Rw}
theorem RwV.all_ (h : RwV w v l) {A : Option Addr} {n c : Nat} (hv : v = .slice A n c) : ∀ W, Below w.heap.size w W → ∀ j, j < n → ∃ g, ∃ x : Rw, A = some ⟨g, 0, none⟩ ∧ l[j]? = some x ∧ x ∈ l ∧ W.cell? ⟨g, j * 3, none⟩ = some (.int .i64 (x.tid : Int)) ∧ W.cell? ⟨g, j * 3 + 1, none⟩ = some (.string ⟨x.row.toArray⟩) ∧ W.cell? ⟨g, j * 3 + 2, none⟩ = some (.bool x.lives) ∧ g < W.heap.size := fun _ hb => (h.below hb).all hv
/-- One more push. -/
theorem NewR.push {W0 wr : World} (h : NewR W0.heap.size wr v l) (hb : Below W0.heap.size W0 wr) (x : Rw) (hl : l.length ≤ 100000) :
    ∃ (a' : Option Addr) (n' c' : Nat) (w' : World), (Builtin.append_ #[73, 73] 73 #[v, .slice (some ⟨wr.heap.size, 0, none⟩) 1 1]).run Tryz.prog (wr.alloc (.cells #[.int .i64 (x.tid : Int), .string ⟨x.row.toArray⟩, .bool x.lives] 119)) = .ok (.slice a' n' c') w' ∧ Hid (NewR W0.heap.size w' (.slice a' n' c') (l ++ [x])) ∧ Hid (Below W0.heap.size W0 w') := by
  obtain ⟨v', w', hr, hN, hB⟩ := rows_push 73 h hb.size x hl
  obtain ⟨a2, c2, hv2, _⟩ := hN.is.slice
  subst hv2
  exact ⟨a2, _, c2, w', hr, Lib.hid hN, Lib.hid (hb.trans hB)⟩
theorem drawn7 (w : World) (k : Nat) : ∃ W, W = w.drewN k ∧ Below w.heap.size w W := ⟨_, rfl, rfl, rfl, rfl, Nat.le_refl _, fun _ _ => rfl⟩
set_option maxHeartbeats 3200000 in
theorem with7 (h : RwV w v l) (hl : l.length ≤ 90000) (r : Rw) : Calls Tryz.prog 62 #[v, .agg #[.int .i64 (r.tid : Int), .string ⟨r.row.toArray⟩, .bool r.lives]] w fun e w' => ∃ v', e = .returned v' ∧ NewR w.heap.size w' v' (withR l r) ∧ Below w.heap.size w w' := by
  obtain ⟨A, c, hv, hc, _⟩ := h.slice
  obtain ⟨W0, hW0⟩ : ∃ W0, W0 = w.alloc (.cells #[.int .i64 (r.tid : Int), .string ⟨r.row.toArray⟩, .bool r.lives] 119) := ⟨_, rfl⟩
  obtain ⟨R, hR⟩ : ∃ R, R = w.heap.size := ⟨_, rfl⟩
  have hb0 : Below w.heap.size w W0 := by rw [hW0]; exact (Below.refl _ _).alloc (Nat.le_refl _) _
  have hz0 : W0.heap.size = R + 1 := by rw [hW0, hR]; simp
  have hnew : W0.heap[R]? = some (.cells #[.int .i64 (r.tid : Int), .string ⟨r.row.toArray⟩, .bool r.lives] 119 (0, 0)) := by rw [hW0, hR]; exact heap_alloc_new w _
  have HR : Hid (∀ W, Below W0.heap.size W0 W → W.cell? ⟨R, 0, none⟩ = some (.int .i64 (r.tid : Int)) ∧ W.cell? ⟨R, 1, none⟩ = some (.string ⟨r.row.toArray⟩) ∧ W.cell? ⟨R, 2, none⟩ = some (.bool r.lives)) := Lib.hid fun W hb => by
    have e : W.heap[R]? = W0.heap[R]? := hb.block R (by omega)
    rw [hnew] at e
    exact ⟨by rw [Lib.cell_of_heap e]; rfl, by rw [Lib.cell_of_heap e]; rfl, by rw [Lib.cell_of_heap e]; rfl⟩
  have HAT : Hid (∀ W, Below W0.heap.size W0 W → ∀ j, j < l.length → ∃ g, ∃ x : Rw, A = some ⟨g, 0, none⟩ ∧ l[j]? = some x ∧ x ∈ l ∧ W.cell? ⟨g, j * 3, none⟩ = some (.int .i64 (x.tid : Int)) ∧ W.cell? ⟨g, j * 3 + 1, none⟩ = some (.string ⟨x.row.toArray⟩) ∧ W.cell? ⟨g, j * 3 + 2, none⟩ = some (.bool x.lives) ∧ g < W.heap.size) := Lib.hid fun W hb => h.all_ hv W (hb0.trans (hb.mono hb0.size))
  subst hv
  have HFIN : Hid (∀ v' w', NewR W0.heap.size w' v' (withR l r) → Below W0.heap.size W0 w' → NewR w.heap.size w' v' (withR l r) ∧ Below w.heap.size w w') := Lib.hid fun v' w' h1 h2 => ⟨⟨h1.is, fun g hg => by have := h1.new g hg; omega⟩, hb0.trans (h2.mono hb0.size)⟩
  have HE0 : Hid (∀ out, WithI l r l.length false out → withR l r = out ++ [r]) := Lib.hid fun out h => h.end0
  have HE1 : Hid (∀ out, WithI l r l.length true out → withR l r = out) := Lib.hid fun out h => h.end1
  have HLN : Hid (∀ j d out, WithI l r j d out → out.length ≤ 99999) := Lib.hid fun j d out h => by have := h.len; omega
  obtain ⟨n, hn⟩ : ∃ n, n = l.length := ⟨_, rfl⟩
  rw [← hn] at HAT HE0 HE1 hl ⊢
  have HW0 := Lib.hid hW0
  have HRR := Lib.hid hR
  clear h hc hn hb0 hz0 hnew hR hW0
  go_enter Tryz.func62, Tryz.ntmps62
  go_wp2
  rw [← HRR.out, ← HW0.out]
  go_loopw [5, 6, 7] (fun o dn i wr => ∃ (j : Nat) (d : Bool) (a' : Option Addr) (n' c' : Nat), j ≤ n ∧ i = .int .i64 j ∧ dn = .bool d ∧ o = .slice a' n' c' ∧ Hid (WithM W0 l r j d (.slice a' n' c') wr)) (fun _ _ i _ => n - (intOf i).toNat)
  case atStart => exact ⟨0, false, none, 0, 0, by omega, rfl, rfl, rfl, Lib.hid ⟨[], WithI.start l r, NewR.nil_ _ _, Below.refl _ _⟩⟩
  case round =>
    obtain ⟨j, d, a', n', c', hj, rfl, rfl, rfl, HI⟩ := hrel
    obtain ⟨out, hI, hN, hB⟩ := HI.out
    have HIO := Lib.hid hI
    have HNO := Lib.hid hN
    have HBO := Lib.hid hB
    clear hI hN hB
    by_cases hjn : j < n
    · obtain ⟨g, x, rfl, hx, _, h1, h2, h3, hg⟩ := HAT.out wr HBO.out j hjn
      obtain ⟨r1, r2, r3⟩ := HR.out wr HBO.out
      have HX := Lib.hid hx
      clear hx hg HI
      cases d with
      | false =>
        by_cases hlt : r.tid < x.tid
        · have f1 : decide ((r.tid : Int) < (x.tid : Int)) = true := decide_eq_true (by omega)
          have f2 : (r.tid : Int) < (x.tid : Int) := by omega
          go_upto_region 6 with fail
          go_quiet (fail)
          obtain ⟨W4, hW4, hb4⟩ := drawn7 wr nq
          rw [← hW4]
          have HB4 := Lib.hid (HBO.out.trans (hb4.mono HBO.out.size))
          have hN4 := HNO.out.below hb4
          obtain ⟨a2, n2, c2, w5, hr5, HN5, HB5⟩ := hN4.push HB4.out r (by have := HLN.out _ _ _ HIO.out; omega)
          obtain ⟨a3, n3, c3, w6, hr6, HN6, HB6⟩ := HN5.out.push HB5.out x (by have := HLN.out _ _ _ HIO.out; simp; omega)
          obtain ⟨r1', r2', r3'⟩ := HR.out W4 HB4.out
          obtain ⟨g', x', hgg, hx', _, h1', h2', h3', _⟩ := HAT.out w5 HB5.out j hjn
          cases hgg
          obtain rfl : x' = x := by have := HX.out; rw [hx'] at this; exact Option.some.inj this
          have HI6 := Lib.hid (show WithM W0 l r (j + 1) true (.slice a3 n3 c3) w6 from ⟨_, HIO.out.here HX.out hlt, HN6.out, HB6.out⟩)
          clear hW4 hb4 hN4 HN5 HN6 HB6 h1 h2 h3 r1 r2 r3 hx' HIO HNO HBO hlt f1
          go_wp2_with (first
            | (at_builtin; refine Lib.wpList_append_run _ rfl _ _ 73 73 rfl _ _ rfl rfl _ _ hr5 ?_)
            | (at_builtin; refine Lib.wpList_append_run _ rfl _ _ 73 73 rfl _ _ rfl rfl _ _ hr6 ?_))
          go_roundw
          case rel => exact ⟨j + 1, true, a3, n3, c3, by omega, by go_num, rfl, rfl, HI6⟩
          case measure => simp [intOf]; omega
        · have f1 : decide ((r.tid : Int) < (x.tid : Int)) = false := decide_eq_false (by omega)
          have f2 : ¬ (r.tid : Int) < (x.tid : Int) := by omega
          go_upto_region 6 with fail
          go_quiet (fail)
          obtain ⟨W4, hW4, hb4⟩ := drawn7 wr nq
          rw [← hW4]
          have HB4 := Lib.hid (HBO.out.trans (hb4.mono HBO.out.size))
          have hN4 := HNO.out.below hb4
          obtain ⟨a3, n3, c3, w6, hr6, HN6, HB6⟩ := hN4.push HB4.out x (by have := HLN.out _ _ _ HIO.out; omega)
          obtain ⟨g', x', hgg, hx', _, h1', h2', h3', _⟩ := HAT.out W4 HB4.out j hjn
          cases hgg
          obtain rfl : x' = x := by have := HX.out; rw [hx'] at this; exact Option.some.inj this
          have HI6 := Lib.hid (show WithM W0 l r (j + 1) false (.slice a3 n3 c3) w6 from ⟨_, HIO.out.skip HX.out hlt, HN6.out, HB6.out⟩)
          clear hW4 hb4 hN4 HN6 HB6 h1 h2 h3 r1 r2 r3 hx' HIO HNO HBO hlt f1
          go_wp2_with (at_builtin; refine Lib.wpList_append_run _ rfl _ _ 73 73 rfl _ _ rfl rfl _ _ hr6 ?_)
          go_roundw
          case rel => exact ⟨j + 1, false, a3, n3, c3, by omega, by go_num, rfl, rfl, HI6⟩
          case measure => simp [intOf]; omega
      | true =>
        go_upto_region 6 with fail
        go_quiet (fail)
        obtain ⟨W4, hW4, hb4⟩ := drawn7 wr nq
        rw [← hW4]
        have HB4 := Lib.hid (HBO.out.trans (hb4.mono HBO.out.size))
        have hN4 := HNO.out.below hb4
        obtain ⟨a3, n3, c3, w6, hr6, HN6, HB6⟩ := hN4.push HB4.out x (by have := HLN.out _ _ _ HIO.out; omega)
        obtain ⟨g', x', hgg, hx', _, h1', h2', h3', _⟩ := HAT.out W4 HB4.out j hjn
        cases hgg
        obtain rfl : x' = x := by have := HX.out; rw [hx'] at this; exact Option.some.inj this
        have HI6 := Lib.hid (show WithM W0 l r (j + 1) true (.slice a3 n3 c3) w6 from ⟨_, HIO.out.past HX.out, HN6.out, HB6.out⟩)
        clear hW4 hb4 hN4 HN6 HB6 h1 h2 h3 r1 r2 r3 hx' HIO HNO HBO
        go_wp2_with (at_builtin; refine Lib.wpList_append_run _ rfl _ _ 73 73 rfl _ _ rfl rfl _ _ hr6 ?_)
        go_roundw
        case rel => exact ⟨j + 1, true, a3, n3, c3, by omega, by go_num, rfl, rfl, HI6⟩
        case measure => simp [intOf]; omega
    · obtain rfl : j = n := by omega
      clear HAT
      cases d with
      | false =>
        obtain ⟨a3, n3, c3, w6, hr6, HN6, HB6⟩ := HNO.out.push HBO.out r (by have := HLN.out _ _ _ HIO.out; omega)
        obtain ⟨r1, r2, r3⟩ := HR.out wr HBO.out
        have HQ := HFIN.out (.slice a3 n3 c3) w6 (by rw [HE0.out _ HIO.out]; exact HN6.out) HB6.out
        have HQ := Lib.hid HQ
        clear HI HFIN HE0 HE1 HN6 HB6
        go_wp2_with (at_builtin; refine Lib.wpList_append_run _ rfl _ _ 73 73 rfl _ _ rfl rfl _ _ hr6 ?_)
        go_ret
        exact ⟨_, rfl, HQ.out⟩
      | true =>
        have HQ := HFIN.out (.slice a' n' c') wr (by rw [HE1.out _ HIO.out]; exact HNO.out) HBO.out
        have HQ := Lib.hid HQ
        clear HI HFIN HE0 HE1
        go_wp2
        go_ret
        exact ⟨_, rfl, HQ.out⟩
end
end Go.Proofs.YtijggofelepaaaaGreatDoor

/- Contracts: the addresses of the document's list; two lists of the same numbers are the same. -/
set_option maxRecDepth 100000
namespace Go.Proofs.YtijggofelepaaaaGreatDoor
open Go Go.RowKit

/-- Numbers that are made by a call: in new blocks alone. -/
structure NewN (n : Nat) (w : World) (v : Value) (xs : List Nat) : Prop where
  is : NumsI w v xs
  new : ∀ g, v.ownBlock = some g → n ≤ g
theorem NumsI.kept {w w' : World} {v : Value} {xs : List Nat} {T : Nat → Prop} (h : NumsI w v xs) (hk : Kept T w w') (hT : ∀ g, v.ownBlock = some g → ¬ T g) : NumsI w' v xs :=
  ownsRow_of_block h fun k hk' => by
    obtain ⟨cur, hc⟩ := h.block k hk'
    exact hk.block k (Array.getElem?_eq_some_iff.1 hc).1 (hT k hk')
theorem NumsI.below {w w' : World} {v : Value} {xs : List Nat} (h : NumsI w v xs) (hb : Below w.heap.size w w') : NumsI w' v xs := h.kept (Kept.ofBelow (S := fun _ => False) hb) (fun _ _ h => h)
theorem NumsI.all {w : World} {v : Value} {xs : List Nat} (h : NumsI w v xs) {A : Option Addr} {n c : Nat} (hv : v = .slice A n c) : n = xs.length ∧ ∀ j, j < n → ∃ g, ∃ x : Nat, A = some ⟨g, 0, none⟩ ∧ xs[j]? = some x ∧ w.cell? ⟨g, j, none⟩ = some (.int .i64 (x : Int)) := by
  subst hv
  rcases h.2 with ⟨e, h0⟩ | ⟨g, cap, cur, e, _⟩
  · injection e with e1 e2 e3
    exact ⟨by omega, fun j hj => by omega⟩
  · injection e with e1 e2 e3
    refine ⟨e2, fun j hj => ⟨g, xs[j]'(by omega), e1, List.getElem?_eq_getElem (by omega), ?_⟩⟩
    have := World.ownsRow.cells (w := w) h (g := g) (by rw [e1]; rfl) j (.int .i64 ((xs[j]'(by omega) : Nat) : Int)) (by rw [List.getElem?_map, List.getElem?_eq_getElem (by omega)]; rfl)
    rw [add_plain7, Nat.zero_add] at this
    exact this
theorem NewN.nil_ (n : Nat) (w : World) : NewN n w (.slice none 0 0) [] := ⟨NumsI.nil w, fun g hg => by simp [Value.ownBlock] at hg⟩
theorem NewN.push {W0 wr : World} {v : Value} {xs : List Nat} (h : NewN W0.heap.size wr v xs) (hb : Below W0.heap.size W0 wr) (x : Nat) (hl : xs.length ≤ 100000) :
    ∃ (a' : Option Addr) (n' c' : Nat) (w' : World), (Builtin.append_ #[57, 57] 57 #[v, .slice (some ⟨wr.heap.size, 0, none⟩) 1 1]).run Tryz.prog (wr.alloc (.cells #[.int .i64 (x : Int)] 3)) = .ok (.slice a' n' c') w' ∧ Hid (NewN W0.heap.size w' (.slice a' n' c') (xs ++ [x])) ∧ Hid (Below W0.heap.size W0 w') := by
  obtain ⟨v', w', hr, hN, hG⟩ := nums_push wr v xs x h.is (by omega) 57
  obtain ⟨a2, c2, hv2⟩ := hN.shape
  subst hv2
  have hs := hb.size
  refine ⟨a2, _, c2, w', hr, Lib.hid ⟨hN, fun g hg => ?_⟩, Lib.hid (hb.trans ⟨hG.1.os, hG.1.tape, hG.1.output, ?_, fun k hk => ?_⟩)⟩
  · rcases hG.2 g hg with h3 | h3
    · exact h.new g h3
    · simp at h3; omega
  · have := hG.1.size; simp at this; omega
  · exact (hG.1.block k (by simp; omega) (fun e => by have := h.new k e.symm; omega)).trans (Below.heap_alloc wr _ k (by omega))

/-- The addresses: all, or those of the dead. -/
def tidsD (dead : Bool) (l : List Rw) : List Nat := (l.filter fun x => !dead || !x.lives).map (·.tid)
theorem tidsD_take {dead : Bool} {l : List Rw} {x : Rw} {j : Nat} (hx : l[j]? = some x) : tidsD dead (l.take (j + 1)) = tidsD dead (l.take j) ++ if (!dead || !x.lives) = true then [x.tid] else [] := by
  unfold tidsD
  rw [List.take_add_one, hx, List.filter_append, List.map_append]
  congr 1
  cases h : (!dead || !x.lives) <;> simp [h]
theorem tidsD_len (dead : Bool) (l : List Rw) : (tidsD dead l).length ≤ l.length := by unfold tidsD; rw [List.length_map]; exact List.length_filter_le _ _
section
variable {w : World} {v : Value} {l : List Rw}
set_option maxHeartbeats 1600000 in
theorem tids7 (h : RwV w v l) (hl : l.length ≤ 90000) (dead : Bool) : Calls Tryz.prog 68 #[v, .bool dead] w fun e w' => ∃ v', e = .returned v' ∧ NewN w.heap.size w' v' (tidsD dead l) ∧ Below w.heap.size w w' := by
  obtain ⟨A, c, hv, hc, _⟩ := h.slice
  have HAT := Lib.hid (h.all_ hv)
  subst hv
  have HWL : Hid (l.take l.length = l) := Lib.hid (List.take_length)
  have HTL : Hid (∀ j, (tidsD dead (l.take j)).length ≤ 99999) := Lib.hid fun j => by
    have h1 := tidsD_len dead (l.take j)
    have h3 := List.length_take_le' j l
    omega
  obtain ⟨n, hn⟩ : ∃ n, n = l.length := ⟨_, rfl⟩
  rw [← hn] at HAT HWL hl ⊢
  clear h hc hn
  go_enter Tryz.func68, Tryz.ntmps68
  go_wp2
  go_loopw [5, 6] (fun o i wr => ∃ (j : Nat) (a' : Option Addr) (n' c' : Nat), j ≤ n ∧ i = .int .i64 j ∧ o = .slice a' n' c' ∧ Hid (NewN w.heap.size wr (.slice a' n' c') (tidsD dead (l.take j)) ∧ Below w.heap.size w wr)) (fun _ i _ => n - (intOf i).toNat)
  case atStart => exact ⟨0, none, 0, 0, by omega, rfl, rfl, Lib.hid ⟨NewN.nil_ _ _, Below.refl _ _⟩⟩
  case round =>
    obtain ⟨j, a', n', c', hj, rfl, rfl, HI⟩ := hrel
    by_cases hjn : j < n
    · obtain ⟨g, x, rfl, hx, _, h1, h2, h3, hg⟩ := HAT.out wr HI.out.2 j hjn
      have HX := Lib.hid hx
      clear hx
      obtain ⟨lv, hlv⟩ : ∃ b, b = x.lives := ⟨_, rfl⟩
      rw [← hlv] at h3
      have HLV := Lib.hid hlv
      clear hlv
      by_cases hd : dead = true ∧ lv = true
      · obtain ⟨rfl, rfl⟩ := hd
        have HI2 := Lib.hid (show NewN w.heap.size wr (.slice a' n' c') (tidsD true (l.take (j + 1))) ∧ Below w.heap.size w wr by
          rw [tidsD_take HX.out, ← HLV.out, if_neg (by decide), List.append_nil]; exact HI.out)
        clear HAT HI
        go_wp2
        go_roundw
        case rel => exact ⟨j + 1, a', n', c', by omega, by go_num, rfl, HI2⟩
        case measure => simp [intOf]; omega
      · obtain ⟨a3, n3, c3, w6, hr6, HN6, HB6⟩ := HI.out.1.push HI.out.2 x.tid (by have := HTL.out j; omega)
        have HI2 := Lib.hid (show NewN w.heap.size w6 (.slice a3 n3 c3) (tidsD dead (l.take (j + 1))) ∧ Below w.heap.size w w6 by
          rw [tidsD_take HX.out, ← HLV.out, if_pos (by cases dead <;> cases lv <;> simp at hd ⊢)]; exact ⟨HN6.out, HB6.out⟩)
        clear HAT HI HN6 HB6
        cases dead with
        | false =>
          go_wp2_with (at_builtin; refine Lib.wpList_append_run _ rfl _ _ 57 57 rfl _ _ rfl rfl _ _ hr6 ?_)
          go_roundw
          case rel => exact ⟨j + 1, a3, n3, c3, by omega, by go_num, rfl, HI2⟩
          case measure => simp [intOf]; omega
        | true =>
          cases lv with
          | true => exact absurd ⟨rfl, rfl⟩ hd
          | false =>
            go_wp2_with (at_builtin; refine Lib.wpList_append_run _ rfl _ _ 57 57 rfl _ _ rfl rfl _ _ hr6 ?_)
            go_roundw
            case rel => exact ⟨j + 1, a3, n3, c3, by omega, by go_num, rfl, HI2⟩
            case measure => simp [intOf]; omega
    · obtain rfl : j = n := by omega
      have HI2 := HI.out
      rw [HWL.out] at HI2
      have HI3 := Lib.hid HI2
      clear HI HI2 HAT
      go_wp2
      go_ret
      exact ⟨_, rfl, HI3.out⟩
end
set_option maxHeartbeats 1600000 in
theorem ints7 {w : World} {v u : Value} {xs : List Nat} (h : NumsI w v xs) (k : NumsI w u xs) (hl : xs.length ≤ 1000000) : Calls Tryz.prog 67 #[v, u] w fun e w' => e = .returned (.bool true) ∧ Below w.heap.size w w' := by
  obtain ⟨A, c, rfl⟩ := h.shape
  obtain ⟨A2, c2, rfl⟩ := k.shape
  have H1 : Hid (∀ W, Below w.heap.size w W → ∀ j, j < xs.length → ∃ g g2, ∃ x : Nat, A = some ⟨g, 0, none⟩ ∧ A2 = some ⟨g2, 0, none⟩ ∧ W.cell? ⟨g, j, none⟩ = some (.int .i64 (x : Int)) ∧ W.cell? ⟨g2, j, none⟩ = some (.int .i64 (x : Int))) := Lib.hid fun W hb j hj => by
    obtain ⟨g, x, hA, hx, hc⟩ := ((h.below hb).all rfl).2 j hj
    obtain ⟨g2, y, hA2, hy, hc2⟩ := ((k.below hb).all rfl).2 j hj
    rw [hx] at hy
    cases hy
    exact ⟨g, g2, x, hA, hA2, hc, hc2⟩
  obtain ⟨n, hn⟩ : ∃ n, n = xs.length := ⟨_, rfl⟩
  rw [← hn] at H1 hl ⊢
  clear h k hn
  go_enter Tryz.func67, Tryz.ntmps67
  go_wp2
  go_loopw [5] (fun i wr => ∃ j : Nat, j ≤ n ∧ i = .int .i64 j ∧ Hid (Below w.heap.size w wr)) (fun i _ => n - (intOf i).toNat)
  case atStart => exact ⟨0, by omega, rfl, Lib.hid (Below.refl _ _)⟩
  case round =>
    obtain ⟨j, hj, rfl, HB⟩ := hrel
    by_cases hjn : j < n
    · obtain ⟨g, g2, x, rfl, rfl, c1, c2⟩ := H1.out wr HB.out j hjn
      go_upto_region 6 with fail
      go_quiet (fail)
      obtain ⟨W4, hW4, hb4⟩ := drawn7 wr nq
      rw [← hW4]
      have HB4 := Lib.hid (HB.out.trans (hb4.mono HB.out.size))
      clear hW4 hb4 HB H1
      go_wp2
      go_roundw
      case rel => exact ⟨j + 1, by omega, by go_num, HB4⟩
      case measure => simp [intOf]; omega
    · clear H1
      go_wp2
      go_ret
      exact ⟨rfl, HB.out⟩
end Go.Proofs.YtijggofelepaaaaGreatDoor
