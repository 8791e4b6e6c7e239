/- Texts of the same proof, one behind the other: XA, XB, XC, XD, XE. -/
import Derived.Test.YtefddiikdamnbaaGreatDoorMBF
import Derived.Test.YtefddiikdamnbaaGreatDoorMBE
import Derived.Test.YtefddiikdamnbaaGreatDoorMAD
import Derived.Test.YtefddiikdamnbaaGreatDoorMAA
import Derived.Test.YtefddiikdamnbaaGreatDoorMAB
import Derived.BigQuiet
import Derived.StillTailTactics
/- An index of buckets in plain words: entries as they are held, how they stand, what is read of them. No program's function is met here. -/
set_option maxRecDepth 100000
namespace Go.Proofs.YtefddiikdamnbaaGreatDoor.Dm
open Go Go.RowKit

/-- A key that the index takes. -/
def KeyE (d : Dt) : Prop := d.ok = true ∧ d.nums ∧ (d.1 = 1 ∨ d.1 = 2)
/-- An entry that the index takes. -/
def InE (c : Et) : Prop := KeyE c.1 ∧ 0 ≤ c.2 ∧ c.2 < 16777216
/-- A key's number, text, its bytes. -/
theorem KeyE.plain {d : Dt} (h : KeyE d) : d.2.2.2 = [] ∧ itemOk d.1 d.2.1 d.2.2.1 0 = true ∧ I64 d.2.1 ∧ d.kb = itemB d.1 d.2.1 d.2.2.1 := by
  obtain ⟨k, n, s, l⟩ := d
  obtain ⟨h1, h2, h3⟩ := h
  have hk : k ≠ 3 := by have h3' : k = 1 ∨ k = 2 := h3; omega
  have h4 : itemOk k n s (l.map icIt).length = true := by simpa [Dt.ok, dOk, hk] using h1
  have h5 := itemOk_true h4
  have hl : l = [] := List.eq_nil_of_length_eq_zero (by have := h5.1; simp only [List.length_map] at this; omega)
  subst hl
  exact ⟨rfl, by simpa using h4, h2.1, by simp [Dt.kb, datB, hk]⟩

/-- An entry as it is held. -/
abbrev Hl := List UInt8
def heldE (c : Et) : Hl := c.1.kb ++ beL 3 c.2.toNat
theorem beL_len : ∀ (k u : Nat), (beL k u).length = k
  | 0, _ => rfl
  | k + 1, u => by rw [beL, List.length_cons, beL_len k u]
theorem kb_len {d : Dt} (h : KeyE d) : 1 ≤ d.kb.length ∧ d.kb.length ≤ 73 := by
  obtain ⟨_, h2, _, h4⟩ := h.plain
  rw [h4]
  have hs : d.2.2.1.size ≤ 32 := (item_kind (x := ⟨d.1, d.2.1, d.2.2.1, none, 0, 0⟩) h2).2
  have := itemB_length d.1 d.2.1 d.2.2.1
  refine ⟨?_, by omega⟩
  unfold itemB
  split <;> simp
theorem held_len {c : Et} (h : InE c) : 4 ≤ (heldE c).length ∧ (heldE c).length ≤ 76 := by
  have := kb_len h.1
  unfold heldE
  rw [List.length_append, beL_len]
  omega
/-- Two keys are one, or their bytes part. -/
theorem key_order {d e : Dt} (hd : KeyE d) (he : KeyE e) : Parts d.kb e.kb ∨ Parts e.kb d.kb ∨ d = e := by
  obtain ⟨a1, a2, a3, a4⟩ := hd.plain
  obtain ⟨b1, b2, b3, b4⟩ := he.plain
  rw [a4, b4]
  rcases itemB_order a2 b2 a3 b3 with ⟨_, h⟩ | ⟨_, h⟩ | ⟨_, h1, h2, h3⟩
  · exact .inl h
  · exact .inr (.inl h)
  · refine .inr (.inr ?_)
    obtain ⟨k, n, s, l⟩ := d
    obtain ⟨k', n', s', l'⟩ := e
    have e1 : k = k' := h1
    have e2 : n = n' := h2
    have e3 : s = s' := h3
    have e4 : l = [] := a1
    have e5 : l' = [] := b1
    rw [e1, e2, e3, e4, e5]
theorem Parts.lt_ {a b : List UInt8} (h : Parts a b) : lt a b := h.less
theorem held_ahead {a b : Et} (ha : InE a) (hb : InE b) (h : aheadE a b = true) : Parts (heldE a) (heldE b) := by
  rcases ahead_iff.1 h with h | ⟨h1, h2⟩
  · rcases key_order ha.1 hb.1 with hp | hp | he
    · exact hp.tail _ _
    · exact absurd h (lt_asymm hp.lt_)
    · rw [he] at h; exact absurd h (lt_irrefl _)
  · unfold heldE
    rw [h1]
    refine (beL_parts 3 _ _ ?_).app _
    have e1 := ha.2.1; have e2 := ha.2.2; have e3 := hb.2.1; have e4 := hb.2.2
    rw [Nat.mod_eq_of_lt (by omega), Nat.mod_eq_of_lt (by omega)]
    omega
theorem InE.fit {c : Et} (h : InE c) : FitE c := ⟨h.1.1, h.1.2.1⟩
/-- Entries are told apart by how they are held, and stand so. -/
theorem held_inj {a b : Et} (ha : InE a) (hb : InE b) (h : heldE a = heldE b) : a = b := by
  rcases ahead_tri ha.fit hb.fit with h1 | h1 | h1
  · exact absurd h (held_ahead ha hb h1).ne
  · exact h1
  · exact absurd h.symm (held_ahead hb ha h1).ne
/-- What is held is read as its key, and so many bytes. -/
theorem held_of {c : Et} (h : InE c) : ofF (heldE c) = some ((c.1.1, c.1.2.1, c.1.2.2.1), [], c.1.kb.length) := by
  obtain ⟨a1, a2, a3, a4⟩ := h.1.plain
  have hk : c.1.1 ≠ 3 := by rcases h.1.2.2 with e | e <;> rw [e] <;> decide
  have := ofF_back c.1.1 c.1.2.1 c.1.2.2.1 [] (beL 3 c.2.toNat) (by simpa [dOk, hk] using a2) a3 (fun x hx => by simp at hx)
  have e : datB c.1.1 c.1.2.1 c.1.2.2.1 [] = c.1.kb := by rw [a4, datB, if_neg hk]
  rw [e] at this
  exact this
/-- The last three bytes are the address. -/
theorem tid_back {t : Int} (h0 : 0 ≤ t) (h1 : t < 16777216) : ∃ x y z : UInt8, beL 3 t.toNat = [x, y, z] ∧ (x.toNat : Int) * 65536 + (y.toNat : Int) * 256 + (z.toNat : Int) = t ∧ (x.toNat : Int) = t / 65536 ∧ (y.toNat : Int) = t / 256 % 256 ∧ (z.toNat : Int) = t % 256 := by
  refine ⟨_, _, _, rfl, ?_⟩
  rw [byt_nat', byt_nat', byt_nat']
  simp only [Nat.reducePow, Nat.div_one]
  omega

/-! ### Sheets -/
def sizeE (c : Et) : Nat := 1 + (heldE c).length
def bodyE (l : List Et) : List UInt8 := l.flatMap fun c => byt ((heldE c).length : Int) :: heldE c
theorem bodyE_cons (c : Et) (l : List Et) : bodyE (c :: l) = byt ((heldE c).length : Int) :: heldE c ++ bodyE l := by simp [bodyE]
theorem bodyE_app (l m : List Et) : bodyE (l ++ m) = bodyE l ++ bodyE m := by simp [bodyE]
theorem bodyE_len (l : List Et) : (bodyE l).length = (l.map sizeE).sum := by
  induction l with
  | nil => rfl
  | cons c l ih => rw [bodyE_cons, List.length_append, ih, List.length_cons, List.map_cons, List.sum_cons]; unfold sizeE; omega
theorem bodyE_snoc (l : List Et) (c : Et) : bodyE (l ++ [c]) = bodyE l ++ (byt ((heldE c).length : Int) :: heldE c) := by rw [bodyE_app]; simp [bodyE]
/-- The bytes of a sheet's page. -/
def shE (next : Nat) (l : List Et) : List UInt8 := byt ((next / 256 : Nat) : Int) :: byt (next : Int) :: (bodyE l ++ List.replicate (510 - (bodyE l).length) 0)
theorem shE_len {next : Nat} {l : List Et} (h : (bodyE l).length ≤ 510) : (shE next l).length = 512 := by
  unfold shE
  simp only [List.length_cons, List.length_append, List.length_replicate]
  omega
/-! ### The table -/
def whole (n : Nat) : Nat := 2 ^ Nat.log2 n
def tbE (n cnt : Nat) (F : Nat → Nat) : List UInt8 := byt (n : Int) :: byt ((cnt / 65536 : Nat) : Int) :: byt ((cnt / 256 : Nat) : Int) :: byt (cnt : Int) :: ((List.range 250).flatMap (fun b => [byt ((F b / 256 : Nat) : Int), byt (F b : Int)]) ++ List.replicate 8 0)
theorem two_len (F : Nat → Nat) (k : Nat) : ((List.range k).flatMap (fun b => [byt ((F b / 256 : Nat) : Int), byt (F b : Int)])).length = 2 * k := by
  induction k with
  | zero => rfl
  | succ k ih => rw [List.range_succ, List.flatMap_append, List.length_append, ih]; simp; omega
theorem tbE_len (n cnt : Nat) (F : Nat → Nat) : (tbE n cnt F).length = 512 := by
  unfold tbE
  simp only [List.length_cons, List.length_append, List.length_replicate, two_len]
/-- A key's hash; the bucket of a key, of so many. -/
def hsE (d : Dt) : Nat := (fnv d.kb).toNat
def bktE (n : Nat) (d : Dt) : Nat := if hsE d % (2 * whole n) < n then hsE d % (2 * whole n) else hsE d % whole n
theorem whole_le {n : Nat} (h : 1 ≤ n) : whole n ≤ n ∧ n < 2 * whole n ∧ 1 ≤ whole n := by
  unfold whole
  have h1 := Nat.log2_self_le (n := n) (by omega)
  have h2 := Nat.lt_log2_self (n := n)
  rw [Nat.pow_succ] at h2
  have h3 : 0 < 2 ^ n.log2 := Nat.pow_pos (by omega)
  omega
theorem bkt_lt {n : Nat} (h : 1 ≤ n) (d : Dt) : bktE n d < n := by
  obtain ⟨h1, h2, h3⟩ := whole_le h
  unfold bktE
  split
  · assumption
  · have := Nat.mod_lt (hsE d) (show 0 < whole n by omega)
    omega
end Go.Proofs.YtefddiikdamnbaaGreatDoor.Dm

/- Buckets on pages, in plain words, and how they turn. No program's function is met here. -/
set_option maxRecDepth 100000
namespace Go.Proofs.YtefddiikdamnbaaGreatDoor.Dm
open Go Go.RowKit

/-- A bucket's chain: its pages, and the entries on each. -/
abbrev Chn := List (Nat × List Et)
def fstP : Chn → Nat
  | [] => 0
  | x :: _ => x.1
def entsC (c : Chn) : List Et := c.flatMap (·.2)
def pgsC (c : Chn) : List Nat := c.map (·.1)
def allP (n : Nat) (ch : Nat → Chn) : List Nat := (List.range n).flatMap fun b => pgsC (ch b)
def cntE (n : Nat) (ch : Nat → Chn) : Nat := ((List.range n).map fun b => (entsC (ch b)).length).sum
theorem entsC_app (c d : Chn) : entsC (c ++ d) = entsC c ++ entsC d := by simp [entsC]
theorem entsC_cons (q : Nat) (l : List Et) (c : Chn) : entsC ((q, l) :: c) = l ++ entsC c := by simp [entsC]
theorem pgsC_app (c d : Chn) : pgsC (c ++ d) = pgsC c ++ pgsC d := by simp [pgsC]
theorem pgsC_cons (q : Nat) (l : List Et) (c : Chn) : pgsC ((q, l) :: c) = q :: pgsC c := rfl
theorem fstP_app (c : Chn) (q : Nat) (l m : List Et) (d : Chn) : fstP (c ++ (q, l) :: d) = fstP (c ++ (q, m) :: d) := by cases c <;> rfl
/-- How many there are. -/
theorem cntE_succ (n : Nat) (ch : Nat → Chn) : cntE (n + 1) ch = cntE n ch + (entsC (ch n)).length := by
  unfold cntE
  rw [List.range_succ, List.map_append, List.sum_append]
  simp
theorem cntE_congr {n : Nat} {ch ch' : Nat → Chn} (h : ∀ b, b < n → (entsC (ch' b)).length = (entsC (ch b)).length) : cntE n ch' = cntE n ch := by
  induction n with
  | zero => rfl
  | succ n ih => rw [cntE_succ, cntE_succ, ih (fun b hb => h b (by omega)), h n (by omega)]
theorem cntE_upd {n b : Nat} {ch : Nat → Chn} {c : Chn} (hb : b < n) : cntE n (upd ch b c) + (entsC (ch b)).length = cntE n ch + (entsC c).length := by
  induction n with
  | zero => omega
  | succ n ih =>
    rw [cntE_succ, cntE_succ]
    by_cases h : b = n
    · subst h
      rw [upd_same, cntE_congr (ch := ch) (ch' := upd ch b c) (fun j hj => by rw [upd_other _ _ (by omega)])]
      omega
    · rw [upd_other _ _ (fun e => h e.symm)]
      have := ih (by omega)
      omega
theorem cntE_ge {n b : Nat} {ch : Nat → Chn} (hb : b < n) : (entsC (ch b)).length ≤ cntE n ch := by
  induction n with
  | zero => omega
  | succ n ih =>
    rw [cntE_succ]
    by_cases h : b = n
    · subst h; omega
    · have := ih (by omega); omega
theorem allP_succ (n : Nat) (ch : Nat → Chn) : allP (n + 1) ch = allP n ch ++ pgsC (ch n) := by
  unfold allP
  rw [List.range_succ, List.flatMap_append]
  simp
theorem allP_mem {n : Nat} {ch : Nat → Chn} {q : Nat} : q ∈ allP n ch ↔ ∃ b, b < n ∧ q ∈ pgsC (ch b) := by
  unfold allP
  rw [List.mem_flatMap]
  exact ⟨fun ⟨b, hb, h⟩ => ⟨b, List.mem_range.1 hb, h⟩, fun ⟨b, hb, h⟩ => ⟨b, List.mem_range.2 hb, h⟩⟩

section
variable {h h' : Hd} {G G' : Nat → List UInt8} {top top' n b q : Nat} {l m : List Et} {c d : Chn} {ch : Nat → Chn} {UL : List Nat} {e : Et}
/-- A sheet of a chain. -/
structure ShOn (h : Hd) (G : Nat → List UInt8) (top next q : Nat) (l : List Et) : Prop where
  has : h.has q
  ne : q ≠ top
  is : G q = shE next l
  some_ : l ≠ []
  fit : (bodyE l).length ≤ 510
  ok : ∀ e ∈ l, InE e
def ChOn (h : Hd) (G : Nat → List UInt8) (top : Nat) : Chn → Prop
  | [] => True
  | x :: r => ShOn h G top (fstP r) x.1 x.2 ∧ ChOn h G top r
theorem ChOn.has (x : ChOn h G top c) : ∀ q ∈ pgsC c, h.has q ∧ q ≠ top := by
  induction c with
  | nil => intro q hq; cases hq
  | cons y r ih =>
    intro q hq
    rcases List.mem_cons.1 hq with rfl | hq
    · exact ⟨x.1.has, x.1.ne⟩
    · exact ih x.2 q hq
theorem ChOn.nz (x : ChOn h G top c) : ∀ q ∈ pgsC c, q ≠ 0 := fun q hq => by have := (x.has q hq).1.1; omega
theorem ChOn.ok (x : ChOn h G top c) : ∀ e ∈ entsC c, InE e := by
  induction c with
  | nil => intro e he; cases he
  | cons y r ih =>
    obtain ⟨q, l⟩ := y
    intro e he
    rw [entsC_cons] at he
    rcases List.mem_append.1 he with he | he
    · exact x.1.ok e he
    · exact ih x.2 e he
theorem ChOn.few (x : ChOn h G top c) : (pgsC c).length ≤ (entsC c).length := by
  induction c with
  | nil => simp [pgsC]
  | cons y r ih =>
    obtain ⟨q, l⟩ := y
    have h1 := ih x.2
    have h2 : 0 < l.length := List.length_pos_iff.2 x.1.some_
    rw [entsC_cons, List.length_append, pgsC_cons, List.length_cons]
    omega
theorem ChOn.congr (x : ChOn h G top c) (hh : ∀ q ∈ pgsC c, h'.has q ∧ G' q = G q ∧ q ≠ top') : ChOn h' G' top' c := by
  induction c with
  | nil => trivial
  | cons y r ih =>
    obtain ⟨h1, h2, h3⟩ := hh y.1 (List.mem_cons_self ..)
    exact ⟨⟨h1, h3, h2.trans x.1.is, x.1.some_, x.1.fit, x.1.ok⟩, ih x.2 fun q hq => hh q (List.mem_cons_of_mem _ hq)⟩
theorem ChOn.app {c : Chn} : ChOn h G top (c ++ (q, l) :: d) → ShOn h G top (fstP d) q l ∧ ChOn h G top d := fun x => by
  induction c with
  | nil => exact x
  | cons y r ih => exact ih x.2
/-- A sheet in the midst is another one. -/
theorem ChOn.put (x : ChOn h G top (c ++ (q, l) :: d)) (hn : (pgsC (c ++ (q, l) :: d)).Nodup) (hm : m ≠ []) (hf : (bodyE m).length ≤ 510) (ho : ∀ e ∈ m, InE e) : ChOn h (upd G q (shE (fstP d) m)) top (c ++ (q, m) :: d) := by
  induction c with
  | nil =>
    rw [List.nil_append, pgsC_cons] at hn
    have hq := (List.nodup_cons.1 hn).1
    refine ⟨⟨x.1.has, x.1.ne, upd_same _ _ _, hm, hf, ho⟩, ChOn.congr x.2 fun j hj => ?_⟩
    have hjq : j ≠ q := fun e => hq (e ▸ hj)
    exact ⟨(ChOn.has x.2 j hj).1, upd_other _ _ hjq, (ChOn.has x.2 j hj).2⟩
  | cons y r ih =>
    rw [List.cons_append, pgsC_cons] at hn
    obtain ⟨h1, h2⟩ := List.nodup_cons.1 hn
    have hyq : y.1 ≠ q := fun e => h1 (by rw [pgsC_app, pgsC_cons, e]; simp)
    have hs := x.1
    refine ⟨⟨hs.has, hs.ne, ?_, hs.some_, hs.fit, hs.ok⟩, ih x.2 h2⟩
    rw [upd_other _ _ hyq]
    have e1 : fstP (r ++ (q, m) :: d) = fstP (r ++ (q, l) :: d) := fstP_app _ _ _ _ _
    show G y.1 = shE (fstP (r ++ (q, m) :: d)) y.2
    rw [e1]
    exact hs.is
/-- An index on pages: n buckets; UL: pages beside it. -/
structure HxOn (h : Hd) (G : Nat → List UInt8) (top n : Nat) (ch : Nat → Chn) (UL : List Nat) : Prop where
  nb : 1 ≤ n ∧ n ≤ 250
  on : ∀ b, ChOn h G top (ch b)
  out : ∀ b, n ≤ b → ch b = []
  nd : ∀ b, (pgsC (ch b)).Nodup
  dis : ∀ b b' q, b ≠ b' → q ∈ pgsC (ch b) → q ∉ pgsC (ch b')
  bel : ∀ b, ∀ e ∈ entsC (ch b), bktE n e.1 = b
  once : ∀ b, (entsC (ch b)).Nodup
  bare : top = 0 → n = 1 ∧ ch 0 = []
  tbl : top ≠ 0 → h.has top ∧ G top = tbE n (cntE n ch) (fun b => fstP (ch b))
  own : ∀ q, h.has q → q = top ∨ (∃ b, q ∈ pgsC (ch b)) ∨ q ∈ UL
  oth : ∀ q ∈ UL, h.has q ∧ q ≠ top ∧ ∀ b, q ∉ pgsC (ch b)
theorem HxOn.empty (h : Hd) (G : Nat → List UInt8) (hU : ∀ q, h.has q ↔ q ∈ UL) : HxOn h G 0 1 (fun _ => []) UL :=
  ⟨by omega, fun _ => trivial, fun _ _ => rfl, fun _ => List.nodup_nil, fun _ _ _ _ hq => by simp [pgsC] at hq, fun _ e he => by simp [entsC] at he, fun _ => by simp [entsC], fun _ => ⟨rfl, rfl⟩, fun ht => absurd rfl ht, fun q hq => .inr (.inr ((hU q).1 hq)), fun q hq => ⟨(hU q).2 hq, by have := ((hU q).2 hq).1; omega, fun b => by simp [pgsC]⟩⟩
theorem HxOn.page_lt (x : HxOn h G top n ch UL) (hq : q ∈ pgsC (ch b)) : b < n := Classical.byContradiction fun hb => by
  rw [x.out b (by omega)] at hq
  cases hq
/-- How many pages are in use. -/
theorem HxOn.used (x : HxOn h G top n ch UL) : ∃ L : List Nat, (∀ q, h.has q → q ∈ L) ∧ L.length ≤ 1 + cntE n ch + UL.length := by
  refine ⟨top :: (allP n ch ++ UL), fun q hq => ?_, ?_⟩
  · rcases x.own q hq with rfl | ⟨b, hb⟩ | hq
    · exact List.mem_cons_self ..
    · exact List.mem_cons_of_mem _ (List.mem_append.2 (.inl (allP_mem.2 ⟨b, x.page_lt hb, hb⟩)))
    · exact List.mem_cons_of_mem _ (List.mem_append.2 (.inr hq))
  · have : ∀ k, (allP k ch).length ≤ cntE k ch := fun k => by
      induction k with
      | zero => simp [allP]
      | succ k ih => rw [allP_succ, cntE_succ, List.length_append]; have := (x.on k).few; omega
    have := this n
    simp only [List.length_cons, List.length_append]
    omega
/-- There is a page left, as long as less than all are in use. -/
theorem spare_of {L : List Nat} (hL : ∀ q, h.has q → q ∈ L) (hl : L.length < 4095) : ¬ ((∀ j, h.isFree j = false) ∧ h.count = 4095) := fun ⟨h1, h2⟩ => by
  have hs : ((List.range 4095).map (· + 1)).Nodup := List.pairwise_map.2 (List.nodup_range.imp fun h e => h (by omega))
  have := List.Nodup.length_le_of_subset hs (l₂ := L) (fun q hq => by
    obtain ⟨j, hj, rfl⟩ := List.mem_map.1 hq
    have hj := List.mem_range.1 hj
    exact hL _ ⟨by omega, by omega, h1 _⟩)
  simp only [List.length_map, List.length_range] at this
  omega
/-- One bucket's chain is another one. -/
theorem HxOn.set (x : HxOn h G top n ch UL) (hb : b < n) (ht : top ≠ 0) (hon : ChOn h' G' top c) (hnd : (pgsC c).Nodup) (hnew : ∀ q ∈ pgsC c, q ∈ pgsC (ch b) ∨ ¬ h.has q)
    (hbel : ∀ e ∈ entsC c, bktE n e.1 = b) (honce : (entsC c).Nodup) (hold : ∀ q, h.has q → q ∉ pgsC (ch b) → q ≠ top → h'.has q ∧ G' q = G q)
    (htop : h'.has top ∧ G' top = tbE n (cntE n (upd ch b c)) (fun j => fstP (upd ch b c j))) (hown : ∀ q, h'.has q → h.has q ∧ (q ∈ pgsC (ch b) → q ∈ pgsC c) ∨ q ∈ pgsC c) :
    HxOn h' G' top n (upd ch b c) UL := by
  have hup : ∀ j, j ≠ b → upd ch b c j = ch j := fun j hj => upd_other _ _ hj
  have hcase : ∀ (P : Nat → Chn → Prop), P b c → (∀ j, j ≠ b → P j (ch j)) → ∀ j, P j (upd ch b c j) := fun P h1 h2 j => by
    by_cases hj : j = b
    · subst hj; rw [upd_same]; exact h1
    · rw [hup j hj]; exact h2 j hj
  refine ⟨x.nb, hcase (fun j d => ChOn h' G' top d) hon (fun j hj => (x.on j).congr fun q hq => ?_), fun j hj => ?_, hcase (fun _ d => (pgsC d).Nodup) hnd (fun j _ => x.nd j), fun j j' q hjj hq hq' => ?_, hcase (fun j d => ∀ e ∈ entsC d, bktE n e.1 = j) hbel (fun j _ => x.bel j), hcase (fun _ d => (entsC d).Nodup) honce (fun j _ => x.once j), fun h0 => absurd h0 ht, fun _ => htop, fun q hq => ?_, fun q hq => ?_⟩
  · have h1 := (x.on j).has q hq
    have h2 : q ∉ pgsC (ch b) := x.dis j b q hj hq
    obtain ⟨h3, h4⟩ := hold q h1.1 h2 h1.2
    exact ⟨h3, h4, h1.2⟩
  · rw [hup j (by omega)]; exact x.out j hj
  · by_cases e1 : j = b
    · subst e1
      rw [upd_same] at hq
      rw [hup j' (fun e => hjj e.symm)] at hq'
      rcases hnew q hq with h1 | h1
      · exact x.dis j j' q hjj h1 hq'
      · exact h1 ((x.on j').has q hq').1
    · rw [hup j e1] at hq
      by_cases e2 : j' = b
      · subst e2
        rw [upd_same] at hq'
        rcases hnew q hq' with h1 | h1
        · exact x.dis j j' q hjj hq h1
        · exact h1 ((x.on j).has q hq).1
      · rw [hup j' e2] at hq'
        exact x.dis j j' q hjj hq hq'
  · rcases hown q hq with ⟨h1, h2⟩ | h1
    · rcases x.own q h1 with h3 | ⟨j, hj⟩ | h3
      · exact .inl h3
      · by_cases e1 : j = b
        · subst e1; exact .inr (.inl ⟨j, by rw [upd_same]; exact h2 hj⟩)
        · exact .inr (.inl ⟨j, by rw [hup j e1]; exact hj⟩)
      · exact .inr (.inr h3)
    · exact .inr (.inl ⟨b, by rw [upd_same]; exact h1⟩)
  · obtain ⟨h1, h2, h3⟩ := x.oth q hq
    refine ⟨(hold q h1 (h3 b) h2).1, h2, fun j hj => ?_⟩
    by_cases e1 : j = b
    · subst e1
      rw [upd_same] at hj
      rcases hnew q hj with h4 | h4
      · exact h3 j h4
      · exact h4 h1
    · rw [hup j e1] at hj
      exact h3 j hj
end
end Go.Proofs.YtefddiikdamnbaaGreatDoor.Dm

/- Contracts: numbers in bytes; a sheet in memory: its room, one entry more, its bytes. -/
set_option maxRecDepth 100000
namespace Go.Proofs.YtefddiikdamnbaaGreatDoor.Dm
open Go Go.RowKit

/-- A byte of a string. -/
theorem str_byte (b : List UInt8) (j : Nat) (hj : j < b.length) (W : World) : (Instr.index 9 (.string ⟨b.toArray⟩) (.int .i64 (j : Int))).run Tryz.prog W = .ok (.int .u8 ((b.getD j 0).toNat : Int)) W := by
  rw [run_index_string W _ _ _ _ (by kernel_rfl), dif_pos ⟨by omega, by show (j : Int) < (b.length : Int); omega⟩, List.getD_eq_getElem?_getD, List.getElem?_eq_getElem hj]
  rfl
set_option maxHeartbeats 800000 in
theorem linkIn_any (b : List UInt8) (i : Nat) (w : World) (hi : i + 1 < b.length) (hb : b.length ≤ 1000) :
    Calls Tryz.prog 127 #[.string ⟨b.toArray⟩, .int .i64 i] w fun e w' => e = .returned (.int .i64 (((b.getD i 0).toNat * 256 + (b.getD (i + 1) 0).toNat : Nat) : Int)) ∧ ∃ k, w' = w.drewN k := by
  have h1 := str_byte b i (by omega)
  have h2 := str_byte b (i + 1) hi
  rw [show ((i + 1 : Nat) : Int) = (i : Int) + 1 by omega] at h2
  obtain ⟨x, hx⟩ : ∃ x, x = (b.getD i 0).toNat := ⟨_, rfl⟩
  obtain ⟨y, hy⟩ : ∃ y, y = (b.getD (i + 1) 0).toNat := ⟨_, rfl⟩
  have hx2 : x < 256 := by rw [hx]; exact UInt8.toNat_lt _
  have hy2 : y < 256 := by rw [hy]; exact UInt8.toNat_lt _
  rw [← hx] at h1
  rw [← hy] at h2
  rw [← hx, ← hy]
  have hor : bits BinOp.or IntKind.i64 ((x : Int) * 256) (y : Int) = ((x * 256 + y : Nat) : Int) := Go.Proofs.YtefddiikdamnbaaGreatDoor.or_i64 x y (by omega) hy2
  have HOR := Lib.hid hor
  have e3 : IntKind.i64.wrap ((i : Int) + 1) = (i : Int) + 1 := IntWalk.i64_in _ (by omega)
  obtain ⟨s, hs⟩ : ∃ s : ByteArray, s = ⟨b.toArray⟩ := ⟨_, rfl⟩
  rw [← hs] at h1 h2 ⊢
  clear hx hy hs hor
  go_enter Tryz.func127, Tryz.ntmps127
  go_wp2
  go_quiet (fail)
  go_wp2
  go_ret
  rw [HOR.out]
  exact ⟨rfl, _, rfl⟩
theorem entryEnd_any (b : List UInt8) (i : Nat) (w : World) (hi : i < b.length) (hb : b.length ≤ 1000) :
    Calls Tryz.prog 129 #[.string ⟨b.toArray⟩, .int .i64 i] w fun e w' => e = .returned (.int .i64 ((min (i + 1 + (b.getD i 0).toNat) b.length : Nat) : Int)) ∧ w' = w := by
  have h1 := str_byte b i (by omega)
  obtain ⟨x, hx⟩ : ∃ x, x = (b.getD i 0).toNat := ⟨_, rfl⟩
  have hx2 : x < 256 := by rw [hx]; exact UInt8.toNat_lt _
  rw [← hx] at h1 ⊢
  have e3 : IntKind.i64.wrap ((i : Int) + 1) = (i : Int) + 1 := IntWalk.i64_in _ (by omega)
  have e4 : IntKind.i64.wrap ((i : Int) + 1 + (x : Int)) = (i : Int) + 1 + (x : Int) := IntWalk.i64_in _ (by omega)
  obtain ⟨s, hs⟩ : ∃ s : ByteArray, s = ⟨b.toArray⟩ := ⟨_, rfl⟩
  obtain ⟨n, hn⟩ : ∃ n, n = b.length := ⟨_, rfl⟩
  have hsz : s.size = n := by rw [hs, hn]; rfl
  obtain ⟨m, hm⟩ : ∃ m, m = min (i + 1 + x) n := ⟨_, rfl⟩
  have hmin : min ((i : Int) + 1 + (x : Int)) (n : Int) = (m : Int) := by omega
  rw [← hn, ← hm]
  rw [← hs] at h1 ⊢
  clear hx hs hn hm
  go_enter Tryz.func129, Tryz.ntmps129
  go_wp2
  go_ret
  first
    | exact ⟨rfl, rfl⟩
    | exact ⟨by rw [hmin]; rfl, rfl⟩
theorem sizeOf_h (s : ByteArray) (w : World) (hs : s.size ≤ 1000) : Calls Tryz.prog 199 #[.string s] w fun e w' => e = .returned (.int .i64 ((1 + s.size : Nat) : Int)) ∧ w' = w := by
  have e3 : IntKind.i64.wrap (1 + (s.size : Int)) = 1 + (s.size : Int) := IntWalk.i64_in _ (by omega)
  go_enter Tryz.func199, Tryz.ntmps199
  go_wp2
  go_ret
  exact ⟨rfl, rfl⟩

/-- A sheet in memory at block sb: its page, the next one, its entries. -/
def HsAt (w : World) (sb q nx : Nat) (l : List Et) : Prop := w.heap[sb]? = some (.cells #[.int .i64 q, .int .i64 nx, .string ⟨(bodyE l).toArray⟩] 197 (0, 0))
section
variable {w w' : World} {sb q nx : Nat} {l : List Et}
theorem HsAt.lt (h : HsAt w sb q nx l) : sb < w.heap.size := (Array.getElem?_eq_some_iff.1 h).1
theorem HsAt.kept {T : Nat → Prop} (h : HsAt w sb q nx l) (hk : Kept T w w') (hT : ¬ T sb) : HsAt w' sb q nx l := by
  unfold HsAt; rw [hk.block sb h.lt hT]; exact h
theorem HsAt.below (h : HsAt w sb q nx l) (hb : Below w.heap.size w w') : HsAt w' sb q nx l := h.kept (Kept.ofBelow (S := fun _ => False) hb) (fun h => h)
theorem HsAt.cells (h : HsAt w sb q nx l) : w.cell? ⟨sb, 0, none⟩ = some (.int .i64 q) ∧ w.cell? ⟨sb, 1, none⟩ = some (.int .i64 nx) ∧ w.cell? ⟨sb, 2, none⟩ = some (.string ⟨(bodyE l).toArray⟩) := by
  refine ⟨?_, ?_, ?_⟩ <;> (rw [Lib.cell_of_heap h]; rfl)
theorem HsAt.frozen (h : HsAt w sb q nx l) (i : Nat) : w.frozen? ⟨sb, i, none⟩ = false := Lib.frozen_of_heap h i
theorem held_bytes (c : Et) : (⟨(heldE c).toArray⟩ : ByteArray).size = (heldE c).length := by simp [ByteArray.size]
set_option maxHeartbeats 800000 in
theorem hasRoom_any (h : HsAt w sb q nx l) (hl : (bodyE l).length ≤ 1000) (t : ByteArray) (ht : t.size ≤ 1000) : Calls Tryz.prog 142 #[.pointer (some ⟨sb, 0, none⟩), .string t] w fun e w' => e = .returned (.bool (decide ((bodyE l).length + (1 + t.size) ≤ 510))) ∧ ∃ k, w' = w.drewN k := by
  obtain ⟨_, _, c2⟩ := h.cells
  have HSO : Hid (∀ W, Calls Tryz.prog 199 #[.string t] W fun e w' => e = .returned (.int .i64 ((1 + t.size : Nat) : Int)) ∧ w' = W) := Lib.hid fun W => sizeOf_h t W ht
  obtain ⟨s, hs⟩ : ∃ s : ByteArray, s = ⟨(bodyE l).toArray⟩ := ⟨_, rfl⟩
  obtain ⟨n, hn⟩ : ∃ n, n = (bodyE l).length := ⟨_, rfl⟩
  have hsz : s.size = n := by rw [hs, hn]; rfl
  obtain ⟨m, hm⟩ : ∃ m, m = 1 + t.size := ⟨_, rfl⟩
  rw [← hn] at hl ⊢
  rw [← hm] at HSO ⊢
  rw [← hs] at c2
  have hm2 : m ≤ 1001 := by omega
  have e3 : IntKind.i64.wrap ((n : Int) + (m : Int)) = (n : Int) + (m : Int) := IntWalk.i64_in _ (by omega)
  have hd : decide ((n : Int) + (m : Int) ≤ 510) = decide (n + m ≤ 510) := by
    rw [Bool.eq_iff_iff, decide_eq_true_iff, decide_eq_true_iff]; omega
  have HD := Lib.hid hd
  clear h hs hn hm hd
  go_enter Tryz.func142, Tryz.ntmps142
  go_wp2
  go_quiet ((go_at_call 199; exact Calls.quiet_of_same (HSO.out _)))
  go_wp2
  go_ret
  refine ⟨?_, _, rfl⟩
  first
    | exact congrArg (fun b => Ending.returned (.bool b)) HD.out
    | (rw [← HD.out]; rfl)
end
end Go.Proofs.YtefddiikdamnbaaGreatDoor.Dm

/- Contracts: one entry more on a sheet; a sheet's bytes; the sheet of bytes. -/
set_option maxRecDepth 100000
namespace Go.Proofs.YtefddiikdamnbaaGreatDoor.Dm
open Go Go.RowKit

theorem conv_one (n : Nat) (hn : n < 256) (W : World) : (convert 113 9 (.slice (some ⟨W.heap.size, 0, none⟩) 1 1)).run Tryz.prog (W.alloc (.cells #[.int .u8 (n : Int)] 5)) = .ok (.string ⟨[byt (n : Int)].toArray⟩) (W.alloc (.cells #[.int .u8 (n : Int)] 5)) := by
  refine conv_row W.heap.size _ W.heap.size 1 [byt (n : Int)] ?_
  have hb : ((byt (n : Int)).toNat : Int) = (n : Int) := by rw [byt_nat]; omega
  have := World.ownsRow_lit (base := W.heap.size) (e := 5) (size := 1) W #[.int .u8 (n : Int)] 1 (by simp) (by decide) (by rfl)
  show World.ownsRow _ _ 5 1 _ 1 (Lib.byteCells [byt (n : Int)])
  rw [oneByte, hb]
  exact this
theorem bytesA (a b : List UInt8) : (⟨a.toArray⟩ : ByteArray) ++ ⟨b.toArray⟩ = ⟨(a ++ b).toArray⟩ := ByteArray.ext (by simp)

section
variable {w : World} {sb q nx : Nat} {l : List Et}
set_option maxHeartbeats 1600000 in
theorem add_any (h : HsAt w sb q nx l) (c : Et) (hc : InE c) (hl : (bodyE l).length ≤ 1000) : Calls Tryz.prog 144 #[.pointer (some ⟨sb, 0, none⟩), .string ⟨(heldE c).toArray⟩] w fun e w' => e = .returned (.tuple #[]) ∧ HsAt w' sb q nx (l ++ [c]) ∧ Kept (fun k => k = sb) w w' := by
  obtain ⟨_, _, c2⟩ := h.cells
  have f2 := h.frozen 2
  have hlt := h.lt
  obtain ⟨n, hn⟩ : ∃ n, n = (heldE c).length := ⟨_, rfl⟩
  have hn2 : n < 256 := by have := (held_len hc).2; omega
  obtain ⟨t, ht⟩ : ∃ t : ByteArray, t = ⟨(heldE c).toArray⟩ := ⟨_, rfl⟩
  have hts : t.size = n := by rw [ht, hn]; exact held_bytes c
  obtain ⟨s, hs⟩ : ∃ s : ByteArray, s = ⟨(bodyE l).toArray⟩ := ⟨_, rfl⟩
  obtain ⟨x, hx⟩ : ∃ x : ByteArray, x = ⟨[byt (n : Int)].toArray⟩ := ⟨_, rfl⟩
  have hss : s.size ≤ 1000 := by rw [hs]; simpa [ByteArray.size] using hl
  have hxs : x.size = 1 := by rw [hx]; rfl
  have HB : Hid (s ++ (x ++ t) = ⟨(bodyE (l ++ [c])).toArray⟩) := Lib.hid (by
    rw [hs, hx, ht, bytesA, bytesA, bodyE_snoc, hn]; rfl)
  have hcv : ∀ W : World, (convert 113 9 (.slice (some ⟨W.heap.size, 0, none⟩) 1 1)).run Tryz.prog (W.alloc (.cells #[.int .u8 (n : Int)] 5)) = .ok (.string x) (W.alloc (.cells #[.int .u8 (n : Int)] 5)) := fun W => by rw [hx]; exact conv_one n hn2 W
  have hcv2 : ∀ W : World, (convert 113 9 (.slice (some ⟨W.heap.size, 0, none⟩) 1 1)).run Tryz.prog (W.alloc (.cells #[.int .u8 (n : Int)] 5)).drew = .ok (.string x) (W.alloc (.cells #[.int .u8 (n : Int)] 5)).drew := fun W => hcv W.drew
  have hw1 : IntKind.u8.wrap (n : Int) = (n : Int) := by show (n : Int) % 256 = _; omega
  have q1 : ¬ 9223372036854775807 < x.size + t.size := by omega
  have q2 : ¬ 9223372036854775807 < s.size + (x.size + t.size) := by omega
  have HE : Hid (HsAt ((w.setCell ⟨sb, 2, none⟩ (.string (s ++ (x ++ t)))).alloc (.cells #[.int .u8 (n : Int)] 5)).drew sb q nx (l ++ [c]) ∧ Kept (fun k => k = sb) w ((w.setCell ⟨sb, 2, none⟩ (.string (s ++ (x ++ t)))).alloc (.cells #[.int .u8 (n : Int)] 5)).drew) := Lib.hid (by
    have hh := heap_set_at h 2 (.string (s ++ (x ++ t)))
    have h1 : HsAt (w.setCell ⟨sb, 2, none⟩ (.string (s ++ (x ++ t)))) sb q nx (l ++ [c]) := by
      unfold HsAt
      rw [hh, HB.out]
      rfl
    have hb : Below (w.setCell ⟨sb, 2, none⟩ (.string (s ++ (x ++ t)))).heap.size (w.setCell ⟨sb, 2, none⟩ (.string (s ++ (x ++ t)))) ((w.setCell ⟨sb, 2, none⟩ (.string (s ++ (x ++ t)))).alloc (.cells #[.int .u8 (n : Int)] 5)).drew := ((Below.refl _ _).alloc (Nat.le_refl _) _).drew
    exact ⟨h1.below hb, (Kept.setCell (fun k => k = sb) w (b := sb) (i := 2) rfl _).trans (Kept.ofBelow hb) (fun _ e => .inl e)⟩)
  rw [← hs] at c2
  rw [← ht]
  clear h hs ht hx HB hc hl hn
  go_enter Tryz.func144, Tryz.ntmps144
  go_region
  all_goals go_wp2
  all_goals go_end0
  all_goals exact ⟨rfl, HE.out⟩

set_option maxHeartbeats 1600000 in
theorem shBytes_any (h : HsAt w sb q nx l) (hl : (bodyE l).length ≤ 510) (hnx : nx < 4096) : Calls Tryz.prog 193 #[.pointer (some ⟨sb, 0, none⟩)] w fun e w' => e = .returned (.string ⟨(shE nx l).toArray⟩) ∧ Below w.heap.size w w' := by
  obtain ⟨i, hi, hz, hs, hby⟩ := info_parts infoByte
  have hmk : (Instr.makeSlice 113 (.int .i64 0) (.int .i64 512)).run Tryz.prog w = .ok (.slice (some ⟨w.heap.size, 0, none⟩) 0 512) (w.alloc (.cells (Lib.byteCells (List.replicate 512 0)).toArray 5)) := by
    have h := run_make (P := Tryz.prog) w 113 5 i _ Tryz.underlying113 hi hz .i64 .i64 0 512 (by omega) (by omega) (by rw [hby]; omega) (by omega)
    rw [hs] at h
    have e : madeCells (Value.int .u8 0).cells ((512 : Int).toNat * 1) = (Lib.byteCells (List.replicate 512 0)).toArray := made_zerosT 512
    rw [e] at h
    exact h
  obtain ⟨Z, hZ⟩ : ∃ Z, Z = (Lib.byteCells (List.replicate 512 0)).toArray := ⟨_, rfl⟩
  rw [← hZ] at hmk
  obtain ⟨w1, hw1⟩ : ∃ w1, w1 = w.alloc (.cells Z 5) := ⟨_, rfl⟩
  obtain ⟨gb, hgb⟩ : ∃ gb, gb = w.heap.size := ⟨_, rfl⟩
  have hb1 : Below w.heap.size w w1 := by rw [hw1]; exact (Below.refl _ _).alloc (Nat.le_refl _) _
  have hbu1 : BufAt w1 gb [] := ⟨by simp, by rw [hw1, hgb, hZ]; simpa using heap_alloc_new w _⟩
  obtain ⟨_, c1, c2⟩ := (h.below hb1).cells
  obtain ⟨x1, hx1⟩ : ∃ x1, x1 = nx / 256 := ⟨_, rfl⟩
  obtain ⟨x2, hx2⟩ : ∃ x2, x2 = nx % 256 := ⟨_, rfl⟩
  have hw1' : IntKind.u8.wrap ((nx : Int) / 256) = (x1 : Int) := by show (nx : Int) / 256 % 256 = _; omega
  have hw2' : IntKind.u8.wrap (nx : Int) = (x2 : Int) := by show (nx : Int) % 256 = _; omega
  obtain ⟨s, hss⟩ : ∃ s : ByteArray, s = ⟨(bodyE l).toArray⟩ := ⟨_, rfl⟩
  have hsz : s.size = (bodyE l).length := by rw [hss]; simp [ByteArray.size]
  rw [← hss] at c2
  -- the first append
  have hb2 : Below w1.heap.size w1 (w1.drew.alloc (.cells #[.int .u8 (x1 : Int), .int .u8 (x2 : Int)] 5)) := (Below.refl _ _).drew.alloc (Nat.le_refl _) _
  obtain ⟨w5, hr5, hbu5, hk5⟩ := buf_append (w1.drew.alloc (.cells #[.int .u8 (x1 : Int), .int .u8 (x2 : Int)] 5)) gb [] [UInt8.ofNat x1, UInt8.ofNat x2] (some ⟨w1.drew.heap.size, 0, none⟩) 0 2 2 113 (hbu1.kept (Kept.ofBelow (S := fun _ => False) hb2) (fun h => h)) (two_reads w1.drew x1 x2 (by omega) (by omega)) rfl rfl (by omega)
  have hz1 : w1.heap.size = w.heap.size + 1 := by rw [hw1]; simp
  have hne : ¬ sb = gb := by have := h.lt; omega
  have h5 : HsAt w5 sb q nx l := ((h.below hb1).below hb2).kept hk5 hne
  obtain ⟨_, _, d2⟩ := h5.cells
  rw [← hss] at d2
  obtain ⟨w6, hr6, hbu6, hk6⟩ := buf_append_str w5 gb [UInt8.ofNat x1, UInt8.ofNat x2] s 2 113 hbu5 rfl (by omega)
  have hcv := buf_string hbu6 512
  have e6 : ([UInt8.ofNat x1, UInt8.ofNat x2] ++ s.data.toList ++ List.replicate (512 - ([UInt8.ofNat x1, UInt8.ofNat x2] ++ s.data.toList).length) 0) = shE nx l := by
    have hd : s.data.toList = bodyE l := by rw [hss]
    have b1 : UInt8.ofNat x1 = byt ((nx / 256 : Nat) : Int) := UInt8.toNat_inj.1 (by rw [byt_nat', UInt8.toNat_ofNat']; omega)
    have b2 : UInt8.ofNat x2 = byt (nx : Int) := UInt8.toNat_inj.1 (by rw [byt_nat', UInt8.toNat_ofNat']; omega)
    unfold shE
    rw [hd, b1, b2]
    simp only [List.length_cons, List.cons_append, List.nil_append]
    rw [show 512 - ((bodyE l).length + 1 + 1) = 510 - (bodyE l).length by omega]
  rw [e6] at hcv
  obtain ⟨T, hT⟩ : ∃ T : ByteArray, T = ⟨(shE nx l).toArray⟩ := ⟨_, rfl⟩
  rw [← hT] at hcv ⊢
  have t5 : Below w.heap.size w w6 := by
    have t1 : Below w.heap.size w1 (w1.drew.alloc (.cells #[.int .u8 (x1 : Int), .int .u8 (x2 : Int)] 5)) := hb2.mono (by omega)
    have t2 := hk5.toBelow (B := w.heap.size) (by have := hb2.size; omega) (fun i e => by have e' : i = gb := e; omega)
    have t3 := hk6.toBelow (B := w.heap.size) (by have := hb2.size; have := hk5.size; omega) (fun i e => by have e' : i = gb := e; omega)
    exact hb1.trans (t1.trans (t2.trans t3))
  have HR5 := Lib.hid hr5
  have HR6 := Lib.hid hr6
  have HCV := Lib.hid hcv
  have HT := Lib.hid t5
  have hsz2 : (0 : Int) + 2 = 2 := rfl
  obtain ⟨n, hn⟩ : ∃ n, n = s.size := ⟨_, rfl⟩
  rw [← hn] at HR6
  have HW1 := Lib.hid hw1
  have HGB := Lib.hid hgb
  clear hw1 hgb hz1 hx1 hx2 hn hT h hi hz hs hby hZ hbu1 hb1 hb2 hr5 hbu5 hk5 h5 hr6 hbu6 hk6 hcv e6 t5 hss hsz
  go_enter Tryz.func193, Tryz.ntmps193
  go_wp2
  rw [← HW1.out, ← HGB.out]
  go_region_law (refine step_app_run rfl _ _ 113 rfl _ _ _ (by rfl) (by rfl) HR5.out ?_)
  all_goals
    have hcv := HCV.out
    go_wp2_with (at_builtin; refine Lib.wpList_append_run _ rfl _ _ 113 9 rfl _ _ rfl rfl _ _ HR6.out ?_)
    go_ret
    exact ⟨rfl, HT.out⟩
end
end Go.Proofs.YtefddiikdamnbaaGreatDoor.Dm

/- Contract: the sheet of a page's bytes. -/
set_option maxRecDepth 100000
namespace Go.Proofs.YtefddiikdamnbaaGreatDoor.Dm
open Go Go.RowKit

/-- What stands behind a sheet's link. -/
def restE (l : List Et) : List UInt8 := bodyE l ++ List.replicate (510 - (bodyE l).length) 0
theorem restE_len {l : List Et} (h : (bodyE l).length ≤ 510) : (restE l).length = 510 := by
  unfold restE
  simp only [List.length_append, List.length_replicate]
  omega
theorem shE_rest (nx : Nat) (l : List Et) : shE nx l = byt ((nx / 256 : Nat) : Int) :: byt (nx : Int) :: restE l := rfl
theorem bodyE_take {l : List Et} {k : Nat} {c : Et} (h : l[k]? = some c) : bodyE (l.take (k + 1)) = bodyE (l.take k) ++ (byt ((heldE c).length : Int) :: heldE c) := by
  rw [List.take_add_one, h, Option.toList_some, bodyE_snoc]
theorem bodyE_split {l : List Et} {k : Nat} {c : Et} (h : l[k]? = some c) : bodyE l = bodyE (l.take k) ++ (byt ((heldE c).length : Int) :: heldE c ++ bodyE (l.drop (k + 1))) := by
  have h1 : l = l.take (k + 1) ++ l.drop (k + 1) := (List.take_append_drop _ _).symm
  have h2 : bodyE l = bodyE (l.take (k + 1)) ++ bodyE (l.drop (k + 1)) := by rw [← bodyE_app, ← h1]
  rw [h2, bodyE_take h, List.append_assoc]
theorem bodyE_pre (l : List Et) (k : Nat) : (bodyE (l.take k)).length ≤ (bodyE l).length := by
  have h2 : bodyE l = bodyE (l.take k) ++ bodyE (l.drop k) := by rw [← bodyE_app, List.take_append_drop]
  rw [h2, List.length_append]
  omega
theorem restE_at {l : List Et} {k : Nat} {c : Et} (h : l[k]? = some c) : (restE l).getD (bodyE (l.take k)).length 0 = byt ((heldE c).length : Int) := by
  unfold restE
  rw [bodyE_split h, List.append_assoc, List.getD_eq_getElem?_getD, List.getElem?_append_right (Nat.le_refl _), Nat.sub_self]
  rfl
theorem restE_end {l : List Et} (h : (bodyE l).length < 510) : (restE l).getD (bodyE l).length 0 = 0 := by
  unfold restE
  rw [List.getD_eq_getElem?_getD, List.getElem?_append_right (Nat.le_refl _), Nat.sub_self, List.getElem?_replicate, if_pos (by omega)]
  rfl
theorem str_cut (b : List UInt8) (x y : Nat) : (⟨b.toArray⟩ : ByteArray).extract x y = ⟨((b.drop x).take (y - x)).toArray⟩ := by
  apply ByteArray.ext
  apply Array.ext'
  simp [ByteArray.data_extract, List.extract_eq_take_drop]

/-- What sheetOf leaves: a sheet in new memory. -/
def HsPost (q nx : Nat) (l : List Et) (w : World) (e : Ending) (w' : World) : Prop := ∃ sb, e = .returned (.pointer (some ⟨sb, 0, none⟩)) ∧ w.heap.size ≤ sb ∧ HsAt w' sb q nx l ∧ Below w.heap.size w w'
set_option maxHeartbeats 3200000 in
theorem sheetOf_h (q nx : Nat) (l : List Et) (w : World) (hl : (bodyE l).length ≤ 510) (ho : ∀ e ∈ l, InE e) (hnx : nx < 4096) :
    Calls Tryz.prog 178 #[.int .i64 q, .string ⟨(shE nx l).toArray⟩] w (HsPost q nx l w) := by
  have hrl := restE_len hl
  have hsl := shE_len (next := nx) hl
  obtain ⟨s, hs⟩ : ∃ s : ByteArray, s = ⟨(shE nx l).toArray⟩ := ⟨_, rfl⟩
  have hsz : s.size = 512 := by rw [hs, ← hsl]; rfl
  obtain ⟨R, hR⟩ : ∃ R : ByteArray, R = ⟨(restE l).toArray⟩ := ⟨_, rfl⟩
  have hRs : R.size = 510 := by rw [hR, ← hrl]; rfl
  have hex : s.extract 2 512 = R := by
    rw [hs, hR, str_cut, shE_rest]
    congr 2
    exact List.take_of_length_le (by show (restE l).length ≤ 510; omega)
  have HIX : Hid (∀ j : Nat, j < 510 → ∀ W, (Instr.index 9 (.string R) (.int .i64 (j : Int))).run Tryz.prog W = .ok (.int .u8 (((restE l).getD j 0).toNat : Int)) W) := Lib.hid fun j hj W => by rw [hR]; exact str_byte _ j (by omega) W
  have HEE : Hid (∀ j : Nat, j < 510 → ∀ W, Calls Tryz.prog 129 #[.string R, .int .i64 j] W fun e w' => e = .returned (.int .i64 ((min (j + 1 + ((restE l).getD j 0).toNat) 510 : Nat) : Int)) ∧ w' = W) := Lib.hid fun j hj W => by
    have := entryEnd_any (restE l) j W (by omega) (by omega)
    rw [hrl] at this
    rw [hR]; exact this
  have HLK : Hid (∀ W, Calls Tryz.prog 127 #[.string s, .int .i64 0] W fun e w' => e = .returned (.int .i64 (nx : Int)) ∧ ∃ k, w' = W.drewN k) := Lib.hid fun W => by
    have := linkIn_any (shE nx l) 0 W (by omega) (by omega)
    rw [hs]
    refine this.mono ?_
    rintro e w' ⟨rfl, hk⟩
    refine ⟨?_, hk⟩
    congr 2
    have e1 : (shE nx l).getD 0 0 = byt ((nx / 256 : Nat) : Int) := rfl
    have e2 : (shE nx l).getD (0 + 1) 0 = byt (nx : Int) := rfl
    rw [e1, e2, byt_nat', byt_nat']
    omega
  have HEN : Hid (R.extract 0 (bodyE l).length = ⟨(bodyE l).toArray⟩) := Lib.hid (by
    rw [hR, str_cut]
    congr 2
    unfold restE
    rw [List.drop_zero, Nat.sub_zero, List.take_left])
  have HAT : Hid (∀ k, k < l.length → ∃ m : Nat, ((restE l).getD (bodyE (l.take k)).length 0).toNat = m ∧ 0 < m ∧ m < 256 ∧ (bodyE (l.take k)).length + 1 + m = (bodyE (l.take (k + 1))).length ∧ (bodyE (l.take (k + 1))).length ≤ 510) := Lib.hid fun k hk => by
    have hc : l[k]? = some (l[k]'hk) := List.getElem?_eq_getElem hk
    have h1 := held_len (ho _ (List.getElem_mem hk))
    refine ⟨(heldE (l[k]'hk)).length, ?_, by omega, by omega, ?_, Nat.le_trans (bodyE_pre _ _) hl⟩
    · rw [restE_at hc, byt_nat']
      omega
    · rw [bodyE_take hc, List.length_append, List.length_cons]
      omega
  have HND : Hid ((bodyE l).length < 510 → ((restE l).getD (bodyE l).length 0).toNat = 0) := Lib.hid fun h => by rw [restE_end h]; rfl
  obtain ⟨n, hn⟩ : ∃ n, n = (bodyE l).length := ⟨_, rfl⟩
  rw [← hn] at HEN HND hl
  have HPRE : Hid ((bodyE (l.take l.length)).length = n) := Lib.hid (by rw [List.take_length, hn])
  have HBL := Lib.hid hn
  rw [← hs]
  clear hs hR hrl hsl ho hn
  go_enter Tryz.func178, Tryz.ntmps178
  go_wp2
  go_loopw [6] (fun v wr => ∃ (k z : Nat), v = .int .i64 z ∧ k ≤ l.length ∧ z ≤ n ∧ Hid (z = (bodyE (l.take k)).length) ∧ wr = w) (fun v _ => n - (intOf v).toNat)
  case atStart => exact ⟨0, 0, rfl, by omega, by omega, Lib.hid rfl, rfl⟩
  case round =>
    obtain ⟨k, z, rfl, hk, hz, HZ, rfl⟩ := hrel
    by_cases hkl : k < l.length
    · obtain ⟨m, h1, h2, h3, h4, h5⟩ := HAT.out k hkl
      rw [← HZ.out] at h1 h4
      have hz5 : z < 510 := by omega
      have hix := HIX.out z hz5
      rw [h1] at hix
      have HE1 := Lib.hid (HEE.out z hz5)
      rw [h1] at HE1
      have hmin : min (z + 1 + m) 510 = z + 1 + m := by omega
      rw [hmin] at HE1
      have f1 : (z : Int) < 510 := by omega
      have f2 : ((m : Int) != 0) = true := by simpa using (by omega : ¬ (m : Int) = 0)
      have f3 : ¬ (m : Int) = 0 := by omega
      have hzn : z + 1 + m ≤ n := by rw [h4]; have := bodyE_pre l (k + 1); have := HBL.out; omega
      have HZ2 := Lib.hid h4
      clear h1 h4 h5 hmin HIX HEE HLK HND HAT
      go_wp2_with fail
      refine (HE1.out _).mono ?_
      rintro e w1 ⟨rfl, hw⟩
      subst w1
      go_wp2
      go_roundw
      case rel => exact ⟨k + 1, z + 1 + m, by go_num, by omega, hzn, HZ2, trivial⟩
      case measure => simp [intOf]; omega
    · obtain rfl : k = l.length := by omega
      have hzn : z = n := by rw [HZ.out, HPRE.out]
      subst hzn
      have HEN2 := HEN.out
      have HE : Hid (HsAt (wr.alloc (.cells #[.int .i64 q, .int .i64 nx, .string ⟨(bodyE l).toArray⟩] 197)) wr.heap.size q nx l) := Lib.hid (heap_alloc_new wr _)
      obtain ⟨T, hT⟩ : ∃ T : ByteArray, T = ⟨(bodyE l).toArray⟩ := ⟨_, rfl⟩
      rw [← hT] at HEN2 HE
      have n1 : (z : Int).toNat = z := by omega
      have n2 : (0 : Int) ≤ (z : Int) := by omega
      have n3 : (z : Int) ≤ 510 := by omega
      have HE2 : Hid (∀ j, HsPost q nx l wr (.returned (.pointer (some ⟨wr.heap.size, 0, none⟩))) ((wr.drewN j).alloc (.cells #[.int .i64 q, .int .i64 nx, .string T] 197))) := Lib.hid fun j => ⟨wr.heap.size, rfl, Nat.le_refl _, HE.out, (below_drewN wr j).alloc (Nat.le_refl _) _⟩
      have HLK2 := HLK
      clear HE hT HEE HAT HLK
      by_cases h5 : z < 510
      · have hix := HIX.out z h5
        rw [HND.out h5] at hix
        have f1 : (z : Int) < 510 := by omega
        clear HIX HND
        go_wp2
        go_region_with (go_at_call 127; refine (HLK2.out _).mono ?_; rintro e w1 ⟨rfl, j, hw⟩; subst w1)
        all_goals go_wp2
        all_goals go_ret
        all_goals exact HE2.out _
      · have f1 : ¬ (z : Int) < 510 := by omega
        clear HIX HND
        go_wp2
        go_region_with (go_at_call 127; refine (HLK2.out _).mono ?_; rintro e w1 ⟨rfl, j, hw⟩; subst w1)
        all_goals go_wp2
        all_goals go_ret
        all_goals exact HE2.out _
end Go.Proofs.YtefddiikdamnbaaGreatDoor.Dm
