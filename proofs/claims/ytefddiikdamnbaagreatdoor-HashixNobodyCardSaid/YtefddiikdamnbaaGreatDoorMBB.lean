/- Texts of the same proof, one behind the other: OO, DC, DG, DH, DI, DJ. -/
import Derived.Test.YtefddiikdamnbaaGreatDoorProg
import Derived.WalkKit
import Derived.WalkLawsBesides
import Derived.WalkSpells
import Derived.Outline
import Derived.Below
import Derived.Lib.Hide
import Derived.Test.YtefddiikdamnbaaGreatDoorMBA
import Derived.Test.YtefddiikdamnbaaGreatDoorMAA
import Derived.Laws.BitsAllLaws
import Derived.Laws.IdiomStrings
import Derived.Laws.OwnMore
import Derived.BigQuiet
import Derived.Deep.RegionHeld3
import Derived.StillTailTactics
import Derived.Deep.DeepAppendWide
/- The order of lists of bytes. No program's function is met here. -/
set_option maxRecDepth 100000
namespace Go.Proofs.YtefddiikdamnbaaGreatDoor
open Go.RowKit

/-! ### The order of keys -/
def lt (a b : List UInt8) : Prop := Op.bytesLess a b = true
instance (a b : List UInt8) : Decidable (lt a b) := inferInstanceAs (Decidable (Op.bytesLess a b = true))
def le (a b : List UInt8) : Prop := ¬ lt b a
theorem lt_nil (a : List UInt8) : ¬ lt a [] := by cases a <;> simp [lt, Op.bytesLess]
theorem lt_cons {x y : UInt8} {a b : List UInt8} : lt (x :: a) (y :: b) ↔ x.toNat < y.toNat ∨ x = y ∧ lt a b := by
  simp [lt, Op.bytesLess, UInt8.lt_iff_toNat_lt]
theorem lt_irrefl (a : List UInt8) : ¬ lt a a := by
  induction a with
  | nil => exact lt_nil _
  | cons x a ih => rw [lt_cons]; rintro (h | ⟨_, h⟩); exact Nat.lt_irrefl _ h; exact ih h
theorem lt_trans : ∀ {a b c : List UInt8}, lt a b → lt b c → lt a c
  | _, _, [], _, h => absurd h (lt_nil _)
  | _, [], _, h, _ => absurd h (lt_nil _)
  | [], _ :: _, _ :: _, _, _ => rfl
  | x :: a, y :: b, z :: c, h1, h2 => by
    rw [lt_cons] at h1 h2 ⊢
    rcases h1 with h1 | ⟨rfl, h1⟩ <;> rcases h2 with h2 | ⟨rfl, h2⟩
    · exact .inl (by omega)
    · exact .inl h1
    · exact .inl h2
    · exact .inr ⟨rfl, lt_trans h1 h2⟩
theorem lt_tri : ∀ (a b : List UInt8), lt a b ∨ a = b ∨ lt b a
  | [], [] => .inr (.inl rfl)
  | [], _ :: _ => .inl rfl
  | _ :: _, [] => .inr (.inr rfl)
  | x :: a, y :: b => by
    rw [lt_cons, lt_cons]
    rcases Nat.lt_trichotomy x.toNat y.toNat with h | h | h
    · exact .inl (.inl h)
    · have hxy : x = y := UInt8.toNat_inj.1 h
      subst hxy
      rcases lt_tri a b with h | rfl | h
      · exact .inl (.inr ⟨rfl, h⟩)
      · exact .inr (.inl rfl)
      · exact .inr (.inr (.inr ⟨rfl, h⟩))
    · exact .inr (.inr (.inl h))
theorem lt_asymm {a b : List UInt8} (h : lt a b) : ¬ lt b a := fun h' => lt_irrefl _ (lt_trans h h')
theorem lt.ne {a b : List UInt8} (h : lt a b) : a ≠ b := fun e => lt_irrefl b (e ▸ h)
end Go.Proofs.YtefddiikdamnbaaGreatDoor

/- The contract of the reference's Encoded. -/
set_option maxRecDepth 100000
namespace Go.Proofs.YtefddiikdamnbaaGreatDoor.Dm
open Go Go.RowKit

theorem new_heap (w : World) (o : Obj) : (w.alloc o).heap[w.heap.size]? = some o := by
  show (w.heap.push o)[w.heap.size]? = some o
  simp

theorem box_heap_cells {w : World} {k : Nat} {v0 v1 v2 v3 : Value} (h : w.heap[k]? = some (.cells #[v0, v1, v2, v3] 81 (0, 0))) :
    w.cell? ⟨k, 0, none⟩ = some v0 ∧ w.cell? ⟨k, 1, none⟩ = some v1 ∧ w.cell? ⟨k, 2, none⟩ = some v2 ∧ w.cell? ⟨k, 3, none⟩ = some v3 := by
  refine ⟨?_, ?_, ?_, ?_⟩ <;> (rw [Lib.cell_of_heap h]; rfl)

/-- A row of bytes of the call's own. -/
abbrev Row (B : Nat) (w : World) (v : Value) (acc : List UInt8) : Prop := w.ownsRow B 5 1 v acc.length (Lib.byteCells acc)

theorem oneByte (x : UInt8) : Lib.byteCells [x] = [.int .u8 (x.toNat : Int)] := rfl

/-- What put leaves. -/
def PutPost (B : Nat) (l : List UInt8) (w : World) (e : Ending) (w' : World) : Prop :=
  ∃ g cap, e = .returned (.slice (some ⟨g, 0, none⟩) l.length cap) ∧ Row B w' (.slice (some ⟨g, 0, none⟩) l.length cap) l ∧ Below B w w' ∧ Lib.OthersKept 5 none w w'

theorem items_none {k n : Int} {s : ByteArray} {xs : List It} (h : dOk k n s xs = true) (hk : k ≠ 3) : xs = [] ∧ itemOk k n s 0 = true := by
  have h1 : itemOk k n s xs.length = true := by simpa [dOk, hk] using h
  have h2 := itemOk_true h1
  refine ⟨?_, itemOk_of ⟨by omega, h2.2⟩⟩
  cases xs with
  | nil => rfl
  | cons x xs => exact absurd h2.1 (by simp)

theorem conv_row (B : Nat) (w : World) (g cap : Nat) (l : List UInt8) (h : Row B w (.slice (some ⟨g, 0, none⟩) l.length cap) l) : (convert 113 9 (.slice (some ⟨g, 0, none⟩) l.length cap)).run Tryz.prog w = .ok (.string ⟨l.toArray⟩) w :=
  run_convert_bytes_back (P := Tryz.prog) _ 113 9 5 ⟨g, 0, none⟩ cap l Tryz.underlying113 Tryz.underlying5 Tryz.underlying9 (by
    intro j hj
    exact h.cells rfl j _ (by simp [Lib.byteCells, hj]))

end Go.Proofs.YtefddiikdamnbaaGreatDoor.Dm

/- Entries as they lie in memory; the document's Same and Ahead of two. -/
set_option maxRecDepth 100000
namespace Go.Proofs.YtefddiikdamnbaaGreatDoor.Dm
open Go Go.RowKit

/-- An entry as it is handed over: its key (with where the items lie), its address. -/
structure En where
  k : Int
  n : Int
  s : ByteArray
  a : Option Addr
  xs : List It
  lc : Nat
  t : Int
/-- A key's value. -/
def En.dv (e : En) : Value := .agg #[.int .i64 e.k, .int .i64 e.n, .string e.s, .slice e.a e.xs.length e.lc]
/-- An entry's value. -/
def En.v (e : En) : Value := .agg #[.int .i64 e.k, .int .i64 e.n, .string e.s, .slice e.a e.xs.length e.lc, .int .i64 e.t]
def En.d (e : En) : Dt := (e.k, e.n, e.s, e.xs.map itC)
def En.c (e : En) : Et := (e.d, e.t)
/-- Its items lie in memory, and its numbers are ints. -/
structure En.In (w : World) (e : En) : Prop where
  sl : Sl w e.a e.xs
  n : I64 e.n
  ns : AllI e.xs
  t : I64 e.t
/-- Its key may be. -/
def En.ok (e : En) : Bool := dOk e.k e.n e.s e.xs
theorem En.ok_d (e : En) : e.d.ok = e.ok := dt_ok _ _ _ _
theorem En.kb_d (e : En) : e.d.kb = datB e.k e.n e.s e.xs := dt_kb _ _ _ _
theorem En.In.below {w w' : World} {e : En} (h : e.In w) (hb : Below w.heap.size w w') : e.In w' := ⟨h.sl.below hb (Nat.le_refl _), h.n, h.ns, h.t⟩
theorem En.In.drew {w : World} {e : En} (h : e.In w) : e.In w.drew := h.below (Below.refl _ _).drew
theorem ok_few {k n : Int} {s : ByteArray} {xs : List It} (h : dOk k n s xs = true) : xs.length ≤ 8 ∧ ∀ x, x ∈ xs → x.ll = 0 := by
  unfold dOk at h
  split at h
  · obtain ⟨-, -, h1, h2⟩ := listOk_parts h
    refine ⟨by omega, fun x hx => ?_⟩
    have := (itemOk_true (h2 x hx)).1
    omega
  · have h1 := (itemOk_true h).1
    have : xs = [] := by
      cases xs with
      | nil => rfl
      | cons x l => exact absurd h1 (by simp)
    subst this
    exact ⟨by simp, fun x hx => by cases hx⟩

theorem box5 {w wr : World} {v0 v1 v2 v3 v4 : Value} {T : TypeId} (hb : Below (w.heap.size + 1) (w.alloc (.cells #[v0, v1, v2, v3, v4] T)) wr) :
    wr.cell? ⟨w.heap.size, 0, none⟩ = some v0 ∧ wr.cell? ⟨w.heap.size, 1, none⟩ = some v1 ∧ wr.cell? ⟨w.heap.size, 2, none⟩ = some v2 ∧ wr.cell? ⟨w.heap.size, 3, none⟩ = some v3 ∧ wr.cell? ⟨w.heap.size, 4, none⟩ = some v4 := by
  refine ⟨(hb.cell (p := ⟨w.heap.size, 0, none⟩) (by simp)).trans ?_, (hb.cell (p := ⟨w.heap.size, 1, none⟩) (by simp)).trans ?_, (hb.cell (p := ⟨w.heap.size, 2, none⟩) (by simp)).trans ?_, (hb.cell (p := ⟨w.heap.size, 3, none⟩) (by simp)).trans ?_, (hb.cell (p := ⟨w.heap.size, 4, none⟩) (by simp)).trans ?_⟩ <;>
    simp

set_option maxHeartbeats 800000 in
theorem same9_raw (e f : En) (w : World) (he : e.In w) (hf : f.In w) (h8 : e.xs.length ≤ 8) (h0 : ∀ x, x ∈ e.xs → x.ll = 0) (h0' : ∀ x, x ∈ f.xs → x.ll = 0) :
    Calls Tryz.prog 74 #[e.v, f.v] w fun r w' => r = .returned (.bool (decide (e.c = f.c))) ∧ Below w.heap.size w w' := by
  obtain ⟨k, n, s, a, xs, lc, t⟩ := e
  obtain ⟨k', n', s', a', ys, lc', t'⟩ := f
  obtain ⟨R, hR⟩ : ∃ R, R = decide (En.c ⟨k, n, s, a, xs, lc, t⟩ = En.c ⟨k', n', s', a', ys, lc', t'⟩) := ⟨_, rfl⟩
  rw [← hR]
  have HR := Lib.hid hR
  have hcall : Hid (∀ W, Below w.heap.size w W → Calls Tryz.prog 125 #[.agg #[.int .i64 k, .int .i64 n, .string s, .slice a xs.length lc], .agg #[.int .i64 k', .int .i64 n', .string s', .slice a' ys.length lc']] W fun e w' => e = .returned (.bool (decide (((k, n, s, xs.map itC) : Dt) = (k', n', s', ys.map itC)))) ∧ Below W.heap.size W w') :=
    Lib.hid (fun W hW => same_any k n s a xs lc k' n' s' a' ys lc' W (he.sl.below hW (Nat.le_refl _)) (hf.sl.below hW (Nat.le_refl _)) h8 h0 h0')
  obtain ⟨Q, hQ⟩ : ∃ Q, Q = decide (((k, n, s, xs.map itC) : Dt) = (k', n', s', ys.map itC)) := ⟨_, rfl⟩
  rw [← hQ] at hcall
  have hRQ : Hid (R = (decide (t = t') && Q)) := Lib.hid (by
    rw [HR.out, hQ, Bool.eq_iff_iff, Bool.and_eq_true, decide_eq_true_eq, decide_eq_true_eq, decide_eq_true_eq]
    show ((k, n, s, xs.map itC), t) = ((k', n', s', ys.map itC), t') ↔ _
    rw [Prod.mk.injEq]
    exact ⟨fun h => ⟨h.2, h.1⟩, fun h => ⟨h.2, h.1⟩⟩)
  obtain ⟨ll, hll⟩ : ∃ ll, ll = xs.length := ⟨_, rfl⟩
  obtain ⟨ll', hll'⟩ : ∃ ll', ll' = ys.length := ⟨_, rfl⟩
  unfold En.v
  simp only []
  rw [← hll, ← hll'] at hcall ⊢
  clear hR hQ hll hll' HR he hf h8 h0 h0'
  by_cases ht : t = t'
  · subst ht
    have HT : Hid (R = Q) := Lib.hid (by rw [hRQ.out]; simp)
    clear hRQ
    go_enter Tryz.func74, Tryz.ntmps74
    go_wp2_with (go_at_call 125; refine (hcall.out _ (((Below.refl _ _).alloc (Nat.le_refl _) _).alloc (by simp) _)).mono ?_)
    rintro e w1 ⟨rfl, hb1⟩
    go_wp2
    go_ret
    exact ⟨congrArg (fun b => Ending.returned (.bool b)) HT.out.symm, below_al2 _ _ (by simpa using hb1)⟩
  · have HT : Hid (R = false) := Lib.hid (by rw [hRQ.out]; simp [ht])
    have hb : (t == t') = false := by rw [beq_eq_false_iff_ne]; exact ht
    clear hRQ hcall
    go_enter Tryz.func74, Tryz.ntmps74
    go_wp2
    go_ret
    exact ⟨congrArg (fun b => Ending.returned (.bool b)) HT.out.symm, ((Below.refl _ _).alloc (Nat.le_refl _) _).alloc (by simp) _⟩

theorem same9_any (e f : En) (w : World) (he : e.In w) (hf : f.In w) (ho : e.ok = true) (ho' : f.ok = true) :
    Calls Tryz.prog 74 #[e.v, f.v] w fun r w' => r = .returned (.bool (decide (e.c = f.c))) ∧ Below w.heap.size w w' :=
  same9_raw e f w he hf (ok_few ho).1 (ok_few ho).2 (ok_few ho').2

end Go.Proofs.YtefddiikdamnbaaGreatDoor.Dm

/- What the document's method refuses; lists of entries in memory: is one there, are two lists the same. -/
set_option maxRecDepth 100000
namespace Go.Proofs.YtefddiikdamnbaaGreatDoor.Dm
open Go Go.RowKit

/-- Numbers in a row. -/
def IntsW (w : World) (a : Option Addr) (l : List Int) : Prop :=
  l = [] ∨ ∃ b off, a = some ⟨b, off, none⟩ ∧ b < w.heap.size ∧ ∀ j (h : j < l.length), w.cell? ⟨b, off + j, none⟩ = some (.int .i64 (l[j]'h))
/-- The cells of a row of entries. -/
def Cells5 (w : World) (b off : Nat) (es : List En) : Prop :=
  ∀ j (h : j < es.length), w.cell? ⟨b, off + j * 5, none⟩ = some (.int .i64 (es[j]'h).k) ∧ w.cell? ⟨b, off + j * 5 + 1, none⟩ = some (.int .i64 (es[j]'h).n) ∧
    w.cell? ⟨b, off + j * 5 + 2, none⟩ = some (.string (es[j]'h).s) ∧ w.cell? ⟨b, off + j * 5 + 3, none⟩ = some (.slice (es[j]'h).a (es[j]'h).xs.length (es[j]'h).lc) ∧ w.cell? ⟨b, off + j * 5 + 4, none⟩ = some (.int .i64 (es[j]'h).t)
/-- Entries in a row: each may be. -/
structure EnsW (w : World) (a : Option Addr) (es : List En) : Prop where
  lies : es = [] ∨ ∃ b off, a = some ⟨b, off, none⟩ ∧ b < w.heap.size ∧ Cells5 w b off es
  all : ∀ e, e ∈ es → e.In w ∧ e.ok = true
theorem EnsW.below {w w' : World} {a : Option Addr} {es : List En} (h : EnsW w a es) (hb : Below w.heap.size w w') : EnsW w' a es := by
  refine ⟨?_, fun e he => ⟨(h.all e he).1.below hb, (h.all e he).2⟩⟩
  rcases h.lies with h | ⟨b, off, ha, hlt, hc⟩
  · exact .inl h
  · refine .inr ⟨b, off, ha, Nat.lt_of_lt_of_le hlt hb.size, fun j hj => ?_⟩
    obtain ⟨h0, h1, h2, h3, h4⟩ := hc j hj
    exact ⟨(hb.cell (p := ⟨b, _, none⟩) hlt).trans h0, (hb.cell (p := ⟨b, _, none⟩) hlt).trans h1, (hb.cell (p := ⟨b, _, none⟩) hlt).trans h2, (hb.cell (p := ⟨b, _, none⟩) hlt).trans h3, (hb.cell (p := ⟨b, _, none⟩) hlt).trans h4⟩
theorem EnsW.at {w : World} {a : Option Addr} {es : List En} (h : EnsW w a es) {j : Nat} (hj : j < es.length) :
    ∃ b off, a = some ⟨b, off, none⟩ ∧ b < w.heap.size ∧ Cells5 w b off es := by
  rcases h.lies with rfl | h
  · simp at hj
  · exact h
def consE (es : List En) : List Et := es.map En.c

end Go.Proofs.YtefddiikdamnbaaGreatDoor.Dm

/- Is an entry there; are two lists of entries the same. -/
set_option maxRecDepth 100000
namespace Go.Proofs.YtefddiikdamnbaaGreatDoor.Dm
open Go Go.RowKit

set_option maxHeartbeats 1600000 in
theorem has_any (a : Option Addr) (es : List En) (c : Nat) (e : En) (w : World) (he : e.In w) (ho : e.ok = true) (hl : EnsW w a es) (hbig : (es.length : Int) < 4611686018427387904) :
    Calls Tryz.prog 46 #[.slice a es.length c, e.v] w fun r w' => r = .returned (.bool (decide (e.c ∈ consE es))) ∧ Below w.heap.size w w' := by
  obtain ⟨R, hR⟩ : ∃ R, R = decide (e.c ∈ consE es) := ⟨_, rfl⟩
  rw [← hR]
  have HA : Hid (∀ W, Below w.heap.size w W → ∀ x, x ∈ es → Calls Tryz.prog 74 #[x.v, e.v] W fun r w' => r = .returned (.bool (decide (x.c = e.c))) ∧ Below W.heap.size W w') :=
    Lib.hid (fun W hW x hx => same9_any x e W ((hl.all x hx).1.below hW) (he.below hW) (hl.all x hx).2 ho)
  obtain ⟨C, hC⟩ : ∃ C, C = e.c := ⟨_, rfl⟩
  rw [← hC] at hR HA
  have HR := Lib.hid hR; have HL := Lib.hid hl
  obtain ⟨ll, hll⟩ : ∃ ll, ll = es.length := ⟨_, rfl⟩
  have HLL := Lib.hid hll
  rw [← hll] at hbig ⊢
  obtain ⟨k, n, s, ea, xs, lc, t⟩ := e
  obtain ⟨xl, hxl⟩ : ∃ xl, xl = xs.length := ⟨_, rfl⟩
  unfold En.v at HA ⊢
  simp only [] at HA ⊢
  rw [← hxl] at HA ⊢
  clear hR hl hll hC hxl he ho
  go_enter Tryz.func46, Tryz.ntmps46
  go_wp2
  go_loopw [5] (fun i wr => ∃ j : Nat, j ≤ ll ∧ i = .int .i64 j ∧ Below (w.heap.size + 1) (w.alloc (.cells #[.int .i64 k, .int .i64 n, .string s, .slice ea xl lc, .int .i64 t] 84)) wr ∧ Hid (C ∉ (consE es).take j)) (fun i _ => ll - (intOf i).toNat)
  case atStart => exact ⟨0, Nat.zero_le _, rfl, Below.refl _ _, Lib.hid (by simp)⟩
  case round =>
    obtain ⟨j, hj, rfl, hb, HP⟩ := hrel
    obtain ⟨d0, d1, d2, d3, d4⟩ := box5 hb
    have HBW : Hid (Below w.heap.size w wr) := Lib.hid (below_al _ (by simpa using hb))
    have hsz : w.heap.size < wr.heap.size := by have := hb.size; simp at this; omega
    have HB := Lib.hid hb; clear hb
    by_cases hlt : j < ll
    · have hlt' : j < es.length := by rw [← HLL.out]; exact hlt
      obtain ⟨b, off, rfl, hbw, hc⟩ := (HL.out.below HBW.out).at hlt'
      obtain ⟨c0, c1, c2, c3, c4⟩ := hc j hlt'
      clear hc
      have hmem : es[j]'hlt' ∈ es := List.getElem_mem _
      have hcon : (consE es)[j]'(by unfold consE; rw [List.length_map]; exact hlt') = (es[j]'hlt').c := by unfold consE; rw [List.getElem_map]
      obtain ⟨x, hx⟩ : ∃ x, x = es[j]'hlt' := ⟨_, rfl⟩
      rw [← hx] at c0 c1 c2 c3 c4 hmem hcon
      have HCON := Lib.hid hcon
      have HCALL := HA.out wr.drew (HBW.out.trans ((Below.refl _ _).drew.mono HBW.out.size)) x hmem
      obtain ⟨xk, xn, xt, xa, xxs, xlc, xtid⟩ := x
      simp only [] at c0 c1 c2 c3 c4 HCALL
      obtain ⟨q, hq⟩ : ∃ q, q = decide (En.c ⟨xk, xn, xt, xa, xxs, xlc, xtid⟩ = C) := ⟨_, rfl⟩
      rw [← hq] at HCALL
      obtain ⟨xxl, hxxl⟩ : ∃ xxl, xxl = xxs.length := ⟨_, rfl⟩
      rw [← hxxl] at c3 HCALL
      have HCALL := Lib.hid HCALL
      have HQ := Lib.hid hq
      clear hx hmem hcon hq hxxl
      have hji : (j : Int) < (ll : Int) := by omega
      have hj0 : (0 : Int) ≤ (j : Int) := by omega
      go_wp2
      go_still_tail 5, (by kernel_rfl)
      go_wp2_with fail
      refine HCALL.out.mono ?_
      rintro e w1 ⟨rfl, hb1⟩
      have HB1 : Hid (Below wr.heap.size wr w1) := Lib.hid ((Below.refl _ _).drew.trans hb1)
      clear HCALL hb1
      cases q
      · have HN : Hid (C ∉ (consE es).take (j + 1)) := Lib.hid (by
          rw [List.take_add_one, List.getElem?_eq_getElem (by unfold consE; rw [List.length_map]; exact hlt'), HCON.out]
          intro h
          rcases List.mem_append.1 h with h | h
          · exact HP.out h
          · have h2 : C = En.c ⟨xk, xn, xt, xa, xxs, xlc, xtid⟩ := by rw [Option.toList_some, List.mem_singleton] at h; exact h
            have h3 := HQ.out.symm
            rw [decide_eq_false_iff_not] at h3
            exact h3 h2.symm)
        go_wp2
        go_roundw
        case rel => exact ⟨j + 1, by omega, by go_num, HB.out.trans (HB1.out.mono (by omega)), HN⟩
        case measure => simp [intOf]; omega
      · have HT : Hid (R = true) := Lib.hid (by
          rw [HR.out, decide_eq_true_eq]
          have h3 := HQ.out.symm
          rw [decide_eq_true_eq] at h3
          rw [← h3, ← HCON.out]
          exact List.getElem_mem _)
        go_wp2
        go_ret
        exact ⟨congrArg (fun b => Ending.returned (.bool b)) HT.out.symm, HBW.out.trans (HB1.out.mono HBW.out.size)⟩
    · have HT : Hid (R = false) := Lib.hid (by
        rw [HR.out, decide_eq_false_iff_not]
        have h := HP.out
        rwa [List.take_of_length_le (by unfold consE; rw [List.length_map]; have := HLL.out; omega)] at h)
      go_wp2
      go_ret
      exact ⟨congrArg (fun b => Ending.returned (.bool b)) HT.out.symm, HBW.out⟩

end Go.Proofs.YtefddiikdamnbaaGreatDoor.Dm

/- Rows of entries that a call owns, one entry appended; the document's Without. -/
set_option maxRecDepth 100000
namespace Go.Proofs.YtefddiikdamnbaaGreatDoor.Dm
open Go Go.RowKit

/-- An entry's cells. -/
def cellsE (e : En) : List Value := [.int .i64 e.k, .int .i64 e.n, .string e.s, .slice e.a e.xs.length e.lc, .int .i64 e.t]
def rowE (es : List En) : List Value := es.flatMap cellsE
/-- Entries that lie in a row of their own, from block B on. -/
def Rows (B : Nat) (w : World) (v : Value) (es : List En) : Prop := w.ownsRow B 84 5 v es.length (rowE es)
theorem Rows.mono {B B' : Nat} {w : World} {v : Value} {es : List En} (h : Rows B w v es) (hB : B' ≤ B) : Rows B' w v es :=
  ⟨h.1, h.2.imp id fun ⟨g, cap, cur, h1, h2, h3⟩ => ⟨g, cap, cur, h1, Nat.le_trans hB h2, h3⟩⟩
def withoutL (es : List En) (C : Et) : List En := es.filter fun x => decide (x.c ≠ C)
end Go.Proofs.YtefddiikdamnbaaGreatDoor.Dm
