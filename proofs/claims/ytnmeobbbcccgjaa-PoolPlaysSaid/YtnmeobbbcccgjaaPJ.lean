/- The contract of a pool's Held: the pages in frames, rising. -/
import Derived.Test.YtnmeobbbcccgjaaPI
import Derived.Test.YtnmeobbbcccgjaaPShelf
import Derived.Sort.Grow
import Derived.Sort.OwnSorted
set_option maxRecDepth 100000
namespace Go.Proofs.Ytnmeobbbcccgjaa
open Go.RowKit

/-- A slice's cells, in a block from B on. -/
def RowAt (B : Nat) (w : World) (v : Value) (xs : List Value) : Prop :=
  ∃ a c, v = .slice a xs.length c ∧ (xs = [] ∨ ∃ g, a = some ⟨g, 0, none⟩ ∧ B ≤ g ∧ g < w.heap.size ∧ ∀ j u, xs[j]? = some u → w.cell? ⟨g, j, none⟩ = some u)

theorem infoInt : (Try.prog.info? 3).map (fun i => (i.zero, i.size, i.bytes)) = some (some (.int .i64 0), 1, 8) := by kernel_rfl

def asInts (l : List Int) : List Value := l.map (Value.int .i64)

/-- 'append(l, x)' onto a row of ints of the call's own. -/
theorem append_int (B : Nat) (w : World) (v : Value) (l : List Int) (x : Int) (h : w.ownsRow B 3 1 v l.length (asInts l)) (hB : B ≤ w.heap.size) (hlen : l.length ≤ 4398046511104) (ad : Addr) (c : Nat) (hc : w.cell? ad = some (.int .i64 x)) (ty : TypeId) :
    ∃ v' w', (Builtin.append_ #[31, 31] ty #[v, .slice (some ad) 1 c]).run Try.prog w = .ok v' w' ∧ w'.ownsRow B 3 1 v' (l ++ [x]).length (asInts (l ++ [x])) ∧ w.grownBy w' v.ownBlock := by
  obtain ⟨i, hi, hz, hs, hby⟩ := info_parts infoInt
  have hnews : ∀ j u, [Value.int .i64 x][j]? = some u → w.cell? (ad.add j) = some u := by
    intro j u hu
    have : j = 0 := by have := (List.getElem?_eq_some_iff.1 hu).1; simp at this; exact this
    subst this
    simp at hu
    subst hu
    rw [show ad.add 0 = ad by cases ad with | mk b o sp => cases sp <;> simp [Addr.add]]
    exact hc
  have h1 : ∀ u ∈ [Value.int .i64 x], u.oneCell' = true := by intro u hu; simp at hu; subst hu; rfl
  obtain ⟨v', w', hr, h2, h3, _⟩ := run_append_own (P := Try.prog) w B 31 ty 3 i (.int .i64 0) 1 8 Try.underlying31 hi hz hs hby rfl (by decide) v l.length (asInts l) h ad 1 c [.int .i64 x] rfl hnews h1 (by unfold maxLen; omega) (by omega) hB
  exact ⟨v', w', hr, by simpa [asInts] using h2, h3⟩

open Go.Sort in
theorem holds_ints {w : World} {g : Nat} {cur : Array Value} {l : List Int} (hb : w.heap[g]? = some (.cells cur 3 (0, 0))) (ht : cur.toList.take l.length = asInts l) : Holds (Value.int .i64) w g 0 l.toArray := by
  intro j hj
  have hj' : j < l.length := by simpa using hj
  refine ⟨?_, Lib.frozen_of_heap hb _⟩
  rw [Lib.cell_of_heap hb, Nat.zero_add, ← Array.getElem?_toList]
  have h1 := List.getElem?_take_of_lt (l := cur.toList) hj'
  rw [← h1, ht]
  simp [asInts, hj']

open Go.Sort in
theorem sorted_ints {w : World} {g n : Nat} {os : Array Obj} {cur : Array Value} {l : List Int} (hb : w.heap[g]? = some (.cells cur 3 (0, 0))) (hl : l.length ≤ cur.size) :
    (∀ j u, (asInts l)[j]? = some u → (grow (putRow (Value.int .i64) (Sort.ahead w n) g 0 l.toArray) os).cell? ⟨g, j, none⟩ = some u) ∧ w.grownBy (grow (putRow (Value.int .i64) (Sort.ahead w n) g 0 l.toArray) os) (some g) ∧
      g < (grow (putRow (Value.int .i64) (Sort.ahead w n) g 0 l.toArray) os).heap.size := by
  have hg : g < w.heap.size := (Array.getElem?_eq_some_iff.1 hb).1
  have hh : (grow (putRow (Value.int .i64) (Sort.ahead w n) g 0 l.toArray) os).heap[g]? = some (.cells (putCells (Value.int .i64) 0 l.toArray cur) 3 (0, 0)) := by
    rw [heap_grow_old _ _ (by simpa using hg)]
    simp [putRow, mapBlock, Sort.ahead, Array.getElem?_modify, hb, onCells]
  refine ⟨fun j u hu => ?_, ⟨rfl, rfl, rfl, by simp, fun k hk hne => ?_⟩, by simp; omega⟩
  · have hj : j < l.length := by have := (List.getElem?_eq_some_iff.1 hu).1; simpa [asInts] using this
    rw [Lib.cell_of_heap hh, ← hu]
    simp [putCells, asInts, hj, show j < cur.size by omega]
  · rw [heap_grow_old _ _ (by simpa using hk)]
    have : g ≠ k := fun e => hne (by rw [e])
    simp [putRow, mapBlock, Sort.ahead, Array.getElem?_modify, this]

/-- What was collected, of a map's ints, when left says which are still to come. -/
def CollI (D : DataW Value) (left : Lit → Bool) (ks : List Int) : Prop :=
  ks.Nodup ∧ (∀ x ∈ ks, (Lit.int .i64 x).wf = true) ∧ ∀ x : Int, (Lit.int .i64 x).wf = true → (x ∈ ks ↔ (Maps.has D (.int .i64 x) = true ∧ left (.int .i64 x) = false))
theorem CollI.start (D : DataW Value) : CollI D (Maps.has D) [] := ⟨List.nodup_nil, fun x hx => by simp at hx, fun x _ => by simp⟩
theorem CollI.step {D : DataW Value} {left : Lit → Bool} {ks : List Int} (h : CollI D left ks) {x : Int} (hx : (Lit.int .i64 x).wf = true) (hl : left (.int .i64 x) = true) (hh : Maps.has D (.int .i64 x) = true) :
    CollI D (fun z => left z && !z.sameKey (.int .i64 x)) (ks ++ [x]) := by
  have hnot : x ∉ ks := fun hm => by have := ((h.2.2 x hx).1 hm).2; rw [hl] at this; cases this
  refine ⟨List.nodup_append.2 ⟨h.1, by simp, fun a ha b hb e => ?_⟩, fun a ha => ?_, fun a ha => ?_⟩
  · simp at hb; subst hb; subst e; exact hnot ha
  · rcases List.mem_append.1 ha with ha | ha
    · exact h.2.1 a ha
    · simp at ha; subst ha; exact hx
  · by_cases hax : a = x
    · subst hax
      simp [hh, WideAt.sameKey_self (isKeyI a)]
    · have hne : (Lit.int .i64 a) ≠ .int .i64 x := fun e => hax (by injection e)
      simp [Maps.sameKey_ne hne, hax, h.2.2 a ha]

set_option maxHeartbeats 1600000 in
/-- The pages in frames, rising: the list, and what is on it. -/
theorem held_any (p d fb mb n hand m : Nat) (fr : Nat → Option Fr) (w : World) (h : PoolG p d fb mb n hand m fr w) (hm : m ≤ n) :
    Calls Try.prog 19 #[.pointer (some ⟨p, 0, none⟩)] w fun e w' => ∃ v l, e = .returned v ∧ RowAt w.heap.size w' v (asInts l) ∧ l.length ≤ n ∧ l.Pairwise (· < ·) ∧ (∀ q : Int, q ∈ l ↔ ∃ i f, fr i = some f ∧ (f.page : Int) = q) ∧ Below w.heap.size w w' := by
  have HG := Lib.hid (pgiven_self p w h.c0)
  have hc := h.c3
  obtain ⟨F, ⟨D, hown, hsz, hD⟩, hF1, hF2⟩ := h.map
  have hmem : ∀ q : Int, (Lit.int .i64 q).wf = true → (Maps.has D (.int .i64 q) = true ↔ ∃ i f, fr i = some f ∧ (f.page : Int) = q) := fun q hq => by
    constructor
    · intro hh
      rcases hD q hq with ⟨_, hn⟩ | ⟨v, hv, _⟩
      · rw [hh] at hn; cases hn
      · obtain ⟨i, f, h1, h2, _⟩ := hF2 q v hv
        exact ⟨i, f, h1, h2⟩
    · rintro ⟨i, f, h1, rfl⟩
      rcases hD _ hq with ⟨hn, _⟩ | ⟨v, _, hv, _⟩
      · rw [hF1 i f h1] at hn; cases hn
      · exact hv
  have HQ := Lib.hid (fun i f (hi : fr i = some f) => (h.at_ i f hi).2.2.2)
  have HM := Lib.hid hmem; clear hmem
  have hmb := h.ltM
  have hn2 := h.n2
  have hszn : Maps.size D ≤ n := by omega
  clear hD hF1 hF2 hsz
  have HO := Lib.hid hown; clear hown
  clear h
  go_enter Try.func19, Try.ntmps19
  go_wp2_with fail
  refine HG.out.mono ?_
  rintro e w' ⟨rfl, hw⟩
  subst w'
  go_wp2_with (at_range; refine wpList_range_own _ rfl _ 46 rfl 3 66 keyI Try.underlying46 asIs mb m D rfl HO.out ?_; intro w0 hrg0 hg0 hs0)
  go_frame
  have hb0 : Below w.heap.size w w0 := ⟨hg0.os, hg0.tape, hg0.output, hg0.size, fun k hk => hg0.block k hk (by simp)⟩
  have HS0 := Lib.hid hs0; clear hs0 hg0
  have HR0 := Lib.hid hrg0; clear hrg0
  have HB0 := Lib.hid hb0; clear hb0
  go_loopw [3, 4] (fun v _ wr => ∃ (left : Lit → Bool) (cnt : Nat) (ks : List Int) (a : Option Addr) (k c : Nat), v = .slice a k c ∧ Hid (k = ks.length) ∧ Hid (wr.ranges Try.prog 3 asIs mb w.heap.size m D left cnt) ∧ Hid (wr.ownsRow w.heap.size 3 1 (.slice a k c) ks.length (asInts ks)) ∧ Hid (CollI D left ks) ∧ Hid (ks.length + cnt ≤ n) ∧ Hid (Below w.heap.size w wr)) (fun _ _ wr => wr.rangeLeft mb w.heap.size)
  case atStart => exact ⟨_, _, [], none, 0, 0, rfl, Lib.hid rfl, HR0, Lib.hid (World.ownsRow_nil _ _ _ _), Lib.hid (CollI.start D), Lib.hid (by simpa using hszn), HB0⟩
  case round =>
    obtain ⟨left, cnt, ks, a, k, c, rfl, HKL, HR, HV, HC, HN, HB⟩ := hrel
    go_wp2_with (at_next; refine wpList_next_ranges _ rfl _ rfl 3 keyI asIs (Value.int .i64) (fun v : Value => v) (fun key kl hk => by obtain ⟨x, rfl, _⟩ := Maps.keyOf_int_inv Try.underlying3 hk; exact ⟨x, rfl⟩) (fun v y _ => ⟨v, rfl⟩) mb w.heap.size m D left cnt rfl HR.out ?_ ?_)
    · intro hc0 hl0
      have HL := Lib.hid (show (∀ x : Int, x ∈ ks ↔ ∃ i f, fr i = some f ∧ (f.page : Int) = x) ∧ ks.Nodup ∧ ks.length ≤ n from by
        refine ⟨fun x => ?_, HC.out.1, by have := HN.out; omega⟩
        constructor
        · intro hx
          have hw := HC.out.2.1 x hx
          exact (HM.out x hw).1 ((HC.out.2.2 x hw).1 hx).1
        · rintro ⟨i, f, h1, rfl⟩
          have hw : (Lit.int .i64 f.page).wf = true := WalkArith.wf_i64 (by have := HQ.out i f h1; omega)
          exact (HC.out.2.2 _ hw).2 ⟨(HM.out _ hw).2 ⟨i, f, h1, rfl⟩, hl0 _⟩)
      clear hc0 hl0
      have hcase : (a = none ∧ k = 0 ∧ c = 0 ∧ ks = []) ∨ ∃ g cur, a = some ⟨g, 0, none⟩ ∧ w.heap.size ≤ g ∧ wr.heap[g]? = some (.cells cur 3 (0, 0)) ∧ ks.length ≤ cur.size ∧ cur.toList.take ks.length = asInts ks := by
        rcases HV.out.2 with ⟨hv, h0⟩ | ⟨g, cap, cur, hv, hg, hb, h1, h2, h3, h4⟩
        · injection hv with e1 e2 e3
          exact .inl ⟨e1, e2, e3, List.eq_nil_of_length_eq_zero h0⟩
        · injection hv with e1 e2 e3
          exact .inr ⟨g, cur, e1, hg, hb, by omega, by simpa using h4⟩
      rcases hcase with ⟨rfl, rfl, rfl, rfl⟩ | ⟨g, cur, rfl, hg, hb, hcs, hct⟩
      · go_wp2_with fail
        refine (Try.slices_Sort_int_none none 0 _).mono ?_
        rintro e w' ⟨rfl, hw⟩
        subst w'
        go_wp2
        go_ret
        refine ⟨_, [], rfl, ⟨none, 0, rfl, .inl rfl⟩, by simp, List.Pairwise.nil, fun q => ?_, HB.out⟩
        exact HL.out.1 q
      · obtain ⟨l, hl⟩ : ∃ l, l = ks.mergeSort fun x y => decide (x ≤ y) := ⟨_, rfl⟩
        have hll : l.length = ks.length := by rw [hl]; simp
        have hkl := HKL.out
        have HS : Hid (Calls Try.prog 34 #[.slice (some ⟨g, 0, none⟩) k c] wr fun e w' => e = .returned (.tuple #[]) ∧ RowAt w.heap.size w' (.slice (some ⟨g, 0, none⟩) k c) (asInts l) ∧ Below w.heap.size w w') := Lib.hid (by
          have hs := Try.slices_Sort_int g 0 c ks wr (holds_ints hb hct) (Array.getElem?_eq_some_iff.1 hb).1 (by have := HL.out.2.2; omega)
          rw [← hkl] at hs
          refine hs.mono ?_
          rintro e w' ⟨rfl, nn, os, hw'⟩
          rw [← hl] at hw'
          obtain ⟨s1, s2, s3⟩ := sorted_ints (n := nn) (os := os) (l := l) hb (by omega)
          rw [← hw'] at s1 s2 s3
          refine ⟨rfl, ⟨some ⟨g, 0, none⟩, c, by simp [asInts, hll, hkl], .inr ⟨g, rfl, hg, s3, s1⟩⟩, HB.out.trans ⟨s2.os, s2.tape, s2.output, s2.size, fun j hj => s2.block j (by have := HB.out.size; omega) (fun e => by injection e with e; omega)⟩⟩)
        have HP := Lib.hid (show l.length ≤ n ∧ l.Pairwise (· < ·) ∧ ∀ q : Int, q ∈ l ↔ ∃ i f, fr i = some f ∧ (f.page : Int) = q from by
          refine ⟨by rw [hll]; exact HL.out.2.2, ?_, fun q => ?_⟩
          · have h1 : l.Pairwise (fun x y => decide (x ≤ y) = true) := by
              rw [hl]
              exact List.pairwise_mergeSort (fun a b c h1 h2 => by simp at *; omega) (fun a b => by simp; omega) ks
            have h2 : l.Nodup := by rw [hl]; exact ((List.mergeSort_perm ks _).nodup_iff).2 HL.out.2.1
            exact (h1.and h2).imp (fun ⟨h3, h4⟩ => by simp at h3; omega)
          · rw [hl, List.mem_mergeSort]; exact HL.out.1 q)
        have HKL' := Lib.hid hkl
        clear hl hll hkl hb hcs hct
        go_wp2_with fail
        refine HS.out.mono ?_
        rintro e w' ⟨rfl, hra, hbb⟩
        have HRA := Lib.hid hra; have HBB := Lib.hid hbb; clear hra hbb
        go_wp2
        go_ret
        exact ⟨_, l, rfl, HRA.out, HP.out.1, HP.out.2.1, HP.out.2.2, HBB.out⟩
    · intro x cv kl yd yp w2 cnt2 hkey hlk hv hat hrg2 hlt hg2 hs2 hen
      obtain ⟨x', ex, rfl, hwx⟩ := Maps.keyOf_int_inv Try.underlying3 hkey
      cases ex
      have HC2 := Lib.hid (HC.out.step hwx hlk (Maps.has_true_of_atKey hat))
      have HN2 : Hid ((ks ++ [x]).length + cnt2 ≤ n) := Lib.hid (by have := HN.out; simp; omega)
      have HR2 := Lib.hid hrg2
      have hrs : w.heap.size < wr.heap.size := HR.out.lt
      have HV2 := Lib.hid (HV.out.kept hg2 (.inr (fun e => row_ne_iter HV.out HR.out e.symm)))
      have HB2 : Hid (Below w.heap.size w w2) := Lib.hid (HB.out.trans ⟨hg2.os, hg2.tape, hg2.output, hg2.size, fun j hj => hg2.block j (by omega) (fun e => by injection e with e; omega)⟩)
      have hsz2 : w.heap.size ≤ w2.heap.size := HB2.out.size
      have hcx : (w2.alloc (.cells #[.int .i64 x] 3)).cell? ⟨w2.heap.size, 0, none⟩ = some (.int .i64 x) := by rw [Lib.cell_of_heap (heap_alloc_new w2 _)]; rfl
      obtain ⟨v3, w3, hr, hV3, hg3⟩ := append_int w.heap.size (w2.alloc (.cells #[.int .i64 x] 3)) (.slice a k c) ks x (HV2.out.alloc _) (by simp; omega) (by have := HN.out; omega) ⟨w2.heap.size, 0, none⟩ 1 hcx 31
      obtain ⟨a3, k3, c3, rfl, hk3⟩ : ∃ a3 k3 c3, v3 = .slice a3 k3 c3 ∧ k3 = (ks ++ [x]).length := by
        rcases hV3.2 with ⟨rfl, h0⟩ | ⟨g, cap, cur, rfl, _⟩
        · exact ⟨_, _, _, rfl, h0.symm⟩
        · exact ⟨_, _, _, rfl, rfl⟩
      have hlow : ∀ j, j ≤ w.heap.size → some j ≠ (Value.slice a k c).ownBlock := fun j hj e => by
        rcases Nat.lt_or_ge j w.heap.size with h | h
        · have := (HV2.out.lt j e.symm).1; omega
        · have : j = w.heap.size := by omega
          subst this
          exact row_ne_iter HV.out HR.out e
      have HR3 := Lib.hid ((HR2.out.alloc (.cells #[.int .i64 x] 3)).kept hg3 (hlow mb (by omega)) (hlow _ (Nat.le_refl _)))
      have HB3 : Hid (Below w.heap.size w w3) := Lib.hid ((HB2.out.alloc hsz2 _).trans ⟨hg3.os, hg3.tape, hg3.output, hg3.size, fun j hj => hg3.block j (by simp; omega) (hlow j (by omega))⟩)
      have HV3 := Lib.hid hV3
      have HK3 := Lib.hid hk3
      have hen1 := hen
      clear hkey hlk hv hat hrg2 hg2 hs2 hcx hV3 hg3 hlow hk3 hrs
      go_wp2_with (at_builtin; refine Lib.wpList_append_run _ rfl _ _ 31 31 rfl _ _ rfl rfl _ _ hr ?_)
      exact ⟨⟨_, cnt2, ks ++ [x], a3, k3, c3, rfl, HK3, HR3, HV3, HC2, HN2, HB3⟩, by rw [HR3.out.left_eq, HR.out.left_eq]; exact hlt⟩
end Go.Proofs.Ytnmeobbbcccgjaa
