/- The contracts of printTo and Print: for every datum that may be; other memory stands. -/
import Derived.Test.YtoiahhfjejddjaaDoorF
import Derived.Lib.ItoaLen
import Derived.Lib.AppendIntMem
set_option maxRecDepth 100000
namespace Go.Proofs.YtoiahhfjejddjaaDoor
open Go Go.RowKit

/-- What start-up has laid, and what every later world of a call still holds. -/
structure Laid (w : World) : Prop where
  tab : Lib.TabIs Tryd.prog w "internal/strconv.uint64pow10" .u64 Lib.pow10Tab
  syn : ∃ ev, w.cell? ⟨1, 0, none⟩ = some ev ∧ (ev = .nilIface ∨ ∃ te pe, ev = .iface te pe)
  rng : ∃ ev, w.cell? ⟨2, 0, none⟩ = some ev ∧ (ev = .nilIface ∨ ∃ te pe, ev = .iface te pe)
  six : 6 ≤ w.heap.size

theorem gTab : Tryd.prog.globalNamed "internal/strconv.uint64pow10" = some 0 := by kernel_rfl

theorem Laid.below {w w' : World} {B : Nat} (h : Laid w) (hb : Below B w w') (hB : 6 ≤ B) : Laid w' where
  tab := var?_below hb gTab (by omega) h.tab
  syn := by
    obtain ⟨ev, h1, h2⟩ := h.syn
    exact ⟨ev, (hb.cell (p := ⟨1, 0, none⟩) (by show 1 < B; omega)).trans h1, h2⟩
  rng := by
    obtain ⟨ev, h1, h2⟩ := h.rng
    exact ⟨ev, (hb.cell (p := ⟨2, 0, none⟩) (by show 2 < B; omega)).trans h1, h2⟩
  six := by have := hb.size; have := h.six; omega

def pText (s : List UInt8) : List UInt8 := 39 :: (s.flatMap pB ++ [39])
/-- The text of an item. -/
def itemT (k n : Int) (s : ByteArray) : List UInt8 := if k = 1 then Lib.itoa n else pText s.data.toList
def commaT : List It → List UInt8
  | [] => []
  | [x] => itemT x.k x.n x.s
  | x :: y :: r => itemT x.k x.n x.s ++ 44 :: commaT (y :: r)
theorem commaT_snoc (xs : List It) (x : It) : commaT (xs ++ [x]) = if xs = [] then itemT x.k x.n x.s else commaT xs ++ [44] ++ itemT x.k x.n x.s := by
  induction xs with
  | nil => simp [commaT]
  | cons y r ih =>
    cases r with
    | nil => simp [commaT]
    | cons z r =>
      simp only [List.cons_append, commaT] at ih ⊢
      rw [ih]
      simp
/-- The text of a datum. -/
def datT (k n : Int) (s : ByteArray) (xs : List It) : List UInt8 := if k = 3 then 91 :: (commaT xs ++ [93]) else itemT k n s

theorem pB_length (u : UInt8) : (pB u).length ≤ 3 := by unfold pB; split <;> simp
theorem flatMap_pB_length (s : List UInt8) : (s.flatMap pB).length ≤ 3 * s.length := by
  induction s with
  | nil => simp
  | cons c s ih => have := pB_length c; simp only [List.flatMap_cons, List.length_append, List.length_cons]; omega

def I64 (n : Int) : Prop := -9223372036854775808 ≤ n ∧ n ≤ 9223372036854775807

theorem itemT_length (k n : Int) (s : ByteArray) (hn : I64 n) (hs : s.size ≤ 32) : (itemT k n s).length ≤ 98 := by
  unfold itemT
  split
  · have := Lib.itoa_length_le n hn.1 hn.2; omega
  · have := flatMap_pB_length s.data.toList
    have e : s.data.toList.length = s.size := rfl
    unfold pText; rw [List.length_cons, List.length_append, List.length_singleton]; omega
theorem commaT_length (xs : List It) (h : ∀ x ∈ xs, x.ok = true ∧ I64 x.n) : (commaT xs).length ≤ 99 * xs.length := by
  induction xs with
  | nil => simp [commaT]
  | cons x r ih =>
    have h1 := itemT_length x.k x.n x.s (h x (by simp)).2 (item_kind (h x (by simp)).1).2
    cases r with
    | nil => simp [commaT]; omega
    | cons y r =>
      have := ih (fun z hz => h z (by simp [hz]))
      simp only [commaT, List.length_append, List.length_cons] at this ⊢
      omega

theorem kept_below {w w' : World} {b : Option Nat} (h : Below w.heap.size w w') : Lib.OthersKept 5 b w w' := by
  intro k o hk _ _
  rw [h.block k (Array.getElem?_eq_some_iff.1 hk).1]
  exact hk

theorem ownsRowF_below {w w' : World} {base : Nat} {e : TypeId} {size : Nat} {v : Value} {n : Nat} {xs : List Value} (h : w.ownsRowF base e size v n xs) (hb : Below w.heap.size w w') : w'.ownsRowF base e size v n xs := by
  refine ⟨h.1, ?_⟩
  rcases h.2 with hn | ⟨g, cap, cur, fz, rfl, hb', hg, rest⟩
  · exact .inl hn
  · exact .inr ⟨g, cap, cur, fz, rfl, hb', by rw [hb.block g (Array.getElem?_eq_some_iff.1 hg).1]; exact hg, rest⟩

theorem isBuilderF_below {T e : TypeId} {B b : Nat} {bs : List Value} {w w' : World} (h : Lib.IsBuilderF T e B b bs w) (hb : Below w.heap.size w w') : Lib.IsBuilderF T e B b bs w' := by
  rcases h with ⟨h1, v, h2, h3, h4⟩ | ⟨h1, v, h2, h3, h4⟩
  · exact .inl ⟨h1, v, by rw [hb.block b (Array.getElem?_eq_some_iff.1 h2).1]; exact h2, ownsRowF_below h3 hb, h4⟩
  · exact .inr ⟨h1, v, by rw [hb.block b (Array.getElem?_eq_some_iff.1 h2).1]; exact h2, ownsRowF_below h3 hb, h4⟩

/-- A function value that takes texts one by one: what it has taken so far is told by I. -/
structure PutterS (F : Nat) (p : Value) (b B : Nat) (I : List UInt8 → World → Prop) : Prop where
  enters : ∀ args w, (callFunc F args).run Tryd.prog w = .ok (.enter F args) w
  put : ∀ (l : List UInt8) (w : World) (t : List UInt8), I l w → l.length ≤ 100000 → t.length ≤ 100000 → B ≤ w.heap.size →
    Calls Tryd.prog F #[.string ⟨t.toArray⟩, p] w fun e w' => e = .returned (.tuple #[]) ∧ Fed I b B (l ++ t) w w'
  below : ∀ l w w', I l w → Below w.heap.size w w' → I l w'
  low : ∀ l w, I l w → b < w.heap.size

theorem PutterS.alloc {F : Nat} {p : Value} {b B : Nat} {I : List UInt8 → World → Prop} (P : PutterS F p b B I) {l : List UInt8} {w : World} (o : Obj) (h : I l w) : I l (w.alloc o) :=
  P.below _ _ _ h ((Below.refl _ _).alloc (Nat.le_refl _) _)
theorem Fed.of_below {F : Nat} {p : Value} {b B : Nat} {I : List UInt8 → World → Prop} (P : PutterS F p b B I) {l : List UInt8} {w w' : World} (hB : B ≤ w.heap.size) (h : I l w) (hb : Below w.heap.size w w') : Fed I b B l w w' :=
  ⟨P.below _ _ _ h hb, hb.mono hB, kept_below hb⟩

theorem putterS_builder (b : Nat) : PutterS 41 (.pointer (some ⟨b, 0, none⟩)) b b (fun l w => Lib.IsBuilderF 54 5 b b (Lib.byteCells l) w) where
  enters := fun args w => enters_of Tryd.func41 (by kernel_rfl) rfl args w
  put := by
    intro l w t hI hl ht hB
    go_enter Tryd.func41, Tryd.ntmps41
    go_wp2_with fail
    refine (writeString_k b b _ _ _ hI (by rw [Lib.byteCells_length]; simp [ByteArray.size]; omega) hB).mono ?_
    rintro e w1 ⟨rfl, h1, hb1, hk1⟩
    go_wp2
    go_end0
    refine ⟨rfl, ?_, hb1, hk1⟩
    show Lib.IsBuilderF 54 5 b b (Lib.byteCells (l ++ t)) w1
    rw [Lib.byteCells_append, ← Lib.strCells_toArray t]
    exact .inr h1
  below := fun _ _ _ h hb => isBuilderF_below h hb
  low := by
    intro l w h
    rcases h with ⟨_, v, hb, _⟩ | ⟨_, v, hb, _⟩ <;> exact (Array.getElem?_eq_some_iff.1 hb).1

theorem str_lit (l : List UInt8) : ({ data := l.toArray } : ByteArray).data.toList = l := by simp

set_option maxHeartbeats 1600000 in
theorem printItem_any {F : Nat} {p : Value} {b B : Nat} {I : List UInt8 → World → Prop} (P : Hid (PutterS F p b B I)) (l : List UInt8) (k n : Int) (s : ByteArray) (a : Option Addr) (ll lc : Nat) (w : World) (hL : Hid (Laid w)) (hI : Hid (I l w)) (hk : k = 1 ∨ k = 2) (hn : Hid (I64 n)) (hM : l.length ≤ 20000) (hs : s.size ≤ 32) (hB : B ≤ w.heap.size) :
    Calls Tryd.prog 40 #[.agg #[.int .i64 k, .int .i64 n, .string s, .slice a ll lc], .func (.func F) #[] #[p]] w fun e w' => e = .returned (.tuple #[]) ∧ Fed I b B (l ++ itemT k n s) w w' := by
  have hen := P.out.enters
  have hlow := P.out.low _ _ hI.out
  have hB1 : B ≤ w.heap.size + 1 := by omega
  have hsix := hL.out.six
  rcases hk with rfl | rfl
  · have hlen := Lib.itoa_length_le n hn.out.1 hn.out.2
    go_enter Tryd.func40, Tryd.ntmps40
    go_wp2_with fail
    refine (Tryd.strconv_Itoa n hn.out.1 hn.out.2 _ (hL.out.below ((Below.refl _ _).alloc (Nat.le_refl _) _) hsix).tab).mono ?_
    rintro e w1 ⟨rfl, hg⟩
    have hb1 : Below (w.heap.size + 1) (w.alloc (.cells #[.int .i64 1, .int .i64 n, .string s, .slice a ll lc] 24)) w1 := by
      obtain ⟨kk, os, rfl⟩ := hg
      exact Lib.below_grow _ _ (by simp) _ _
    clear hg
    have HB1 := Lib.hid hb1
    have hz1 := hb1.size
    simp at hz1
    go_wp2_with fail
    refine (P.out.put l _ (Lib.itoa n) (P.out.below _ _ _ (P.out.alloc _ hI.out) (by simpa using HB1.out)) (by omega) (by omega) (by omega)).mono ?_
    rintro e w2 ⟨rfl, hf⟩
    have HF := Lib.hid hf; clear hf
    go_wp2
    go_end0
    refine ⟨rfl, ?_⟩
    have := Fed.al hB _ ((Fed.of_below P.out (by simp; omega) (P.out.alloc _ hI.out) (by simpa using HB1.out)).trans HF.out)
    simpa [itemT] using this
  · have hsl : s.data.toList.length = s.size := rfl
    have HSL := Lib.hid hsl; clear hsl
    go_enter Tryd.func40, Tryd.ntmps40
    go_wp2_with fail
    refine (P.out.put l _ [39] (P.out.alloc _ hI.out) (by omega) (by simp) (by simp; omega)).mono ?_
    rintro e w1 ⟨rfl, hf⟩
    have hbx := box_heap hf.2.2 (new_heap _ _) (by omega)
    have HBX := Lib.hid hbx
    obtain ⟨c0, c1, c2, c3⟩ := box_heap_cells hbx
    have hz1 := hf.2.1.size
    simp at hz1
    have HF := Lib.hid (show Fed I b B _ _ _ from hf); clear hf hbx
    go_wp2
    go_loopw [23] (fun i wr => ∃ j : Nat, j ≤ s.size ∧ i = .int .i64 j ∧ Fed I b B (l ++ [39] ++ (s.data.toList.take j).flatMap pB) w1 wr) (fun i _ => s.size - (intOf i).toNat)
    case atStart => exact ⟨0, by omega, rfl, by simpa using HF.out.1, Below.refl _ _, Lib.OthersKept.refl _ _ _⟩
    case round =>
      obtain ⟨j, h1, rfl, hb⟩ := hrel
      have hbx := box_heap hb.2.2 HBX.out (by omega)
      obtain ⟨d0, d1, d2, d3⟩ := box_heap_cells hbx
      have hz2 := hb.2.1.size
      have HB := Lib.hid hb; clear hb hbx
      have hl : ((s.data.toList.take j).flatMap pB).length ≤ 3 * j := by
        have := flatMap_pB_length (s.data.toList.take j)
        have := List.length_take_le j s.data.toList
        omega
      by_cases hlt : j < s.size
      · have HT := Lib.hid (take_snoc s j hlt)
        have hpl := pB_length s[j]
        go_wp2_with fail
        refine (printByte_any s[j] _).mono ?_
        rintro e w2 ⟨rfl, hb2⟩
        have hz3 := hb2.size
        have HB2 := Lib.hid hb2; clear hb2
        go_wp2_with fail
        refine (P.out.put _ _ (pB s[j]) (P.out.below _ _ _ HB.out.1 HB2.out) (by simp only [List.length_append, List.length_singleton]; omega) (by omega) (by omega)).mono ?_
        rintro e w3 ⟨rfl, hf⟩
        have HF3 := Lib.hid hf; clear hf
        go_wp2
        go_roundw
        case rel =>
          refine ⟨j + 1, by omega, by go_num, ?_⟩
          rw [HT.out, List.flatMap_append, ← List.append_assoc]
          have := HB.out.trans ((Fed.of_below P.out (by omega) HB.out.1 HB2.out).trans HF3.out)
          simpa using this
        case measure => simp [intOf]; omega
      · go_wp2_with fail
        refine (P.out.put _ _ [39] HB.out.1 (by simp only [List.length_append, List.length_singleton]; omega) (by simp) (by omega)).mono ?_
        rintro e w3 ⟨rfl, hf⟩
        have HF3 := Lib.hid hf; clear hf
        go_wp2
        go_end0
        refine ⟨rfl, ?_⟩
        have := Fed.al hB _ (HF.out.trans (HB.out.trans HF3.out))
        rw [List.take_of_length_le (by have := HSL.out; omega)] at this
        simpa [itemT, pText] using this
end Go.Proofs.YtoiahhfjejddjaaDoor
