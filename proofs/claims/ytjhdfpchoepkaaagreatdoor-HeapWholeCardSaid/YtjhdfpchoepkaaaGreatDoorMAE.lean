/- Texts of the same proof, one behind the other: PJ, PK, PL, PM. -/
import Derived.Test.YtjhdfpchoepkaaaGreatDoorMAD
import Derived.Sort.Grow
import Derived.Sort.OwnSorted
/- The contract of a pool's Held: the pages in frames, rising. -/
set_option maxRecDepth 100000
namespace Go.Proofs.YtjhdfpchoepkaaaGreatDoor
open Go.RowKit

/-- A slice's cells, in a block from B on. -/
def RowAt (B : Nat) (w : World) (v : Value) (xs : List Value) : Prop :=
  ∃ a c, v = .slice a xs.length c ∧ (xs = [] ∨ ∃ g, a = some ⟨g, 0, none⟩ ∧ B ≤ g ∧ g < w.heap.size ∧ ∀ j u, xs[j]? = some u → w.cell? ⟨g, j, none⟩ = some u)

theorem infoInt : (Tryz.prog.info? 3).map (fun i => (i.zero, i.size, i.bytes)) = some (some (.int .i64 0), 1, 8) := by kernel_rfl

def asInts (l : List Int) : List Value := l.map (Value.int .i64)

/-- 'append(l, x)' onto a row of ints of the call's own. -/
theorem append_int (B : Nat) (w : World) (v : Value) (l : List Int) (x : Int) (h : w.ownsRow B 3 1 v l.length (asInts l)) (hB : B ≤ w.heap.size) (hlen : l.length ≤ 4398046511104) (ad : Addr) (c : Nat) (hc : w.cell? ad = some (.int .i64 x)) (ty : TypeId) :
    ∃ v' w', (Builtin.append_ #[57, 57] ty #[v, .slice (some ad) 1 c]).run Tryz.prog w = .ok v' w' ∧ w'.ownsRow B 3 1 v' (l ++ [x]).length (asInts (l ++ [x])) ∧ w.grownBy w' v.ownBlock := by
  obtain ⟨i, hi, hz, hs, hby⟩ := info_parts infoInt
  have hnews : ∀ j u, [Value.int .i64 x][j]? = some u → w.cell? (ad.add j) = some u := by
    intro j u hu
    have : j = 0 := by have := (List.getElem?_eq_some_iff.1 hu).1; simp at this; exact this
    subst this
    simp at hu
    subst hu
    rw [show ad.add 0 = ad by cases ad with | mk b o sp => cases sp <;> simp [Addr.add]]
    exact hc
  have h1 : ∀ u ∈ [Value.int .i64 x], u.oneCell' = true := by intro u hu; simp at hu; subst hu; rfl
  obtain ⟨v', w', hr, h2, h3, _⟩ := run_append_own (P := Tryz.prog) w B 57 ty 3 i (.int .i64 0) 1 8 Tryz.underlying57 hi hz hs hby rfl (by decide) v l.length (asInts l) h ad 1 c [.int .i64 x] rfl hnews h1 (by unfold maxLen; omega) (by omega) hB
  exact ⟨v', w', hr, by simpa [asInts] using h2, h3⟩

open Go.Sort in
theorem holds_ints {w : World} {g : Nat} {cur : Array Value} {l : List Int} (hb : w.heap[g]? = some (.cells cur 3 (0, 0))) (ht : cur.toList.take l.length = asInts l) : Holds (Value.int .i64) w g 0 l.toArray := by
  intro j hj
  have hj' : j < l.length := by simpa using hj
  refine ⟨?_, Lib.frozen_of_heap hb _⟩
  rw [Lib.cell_of_heap hb, Nat.zero_add, ← Array.getElem?_toList]
  have h1 := List.getElem?_take_of_lt (l := cur.toList) hj'
  rw [← h1, ht]
  simp [asInts, hj']

open Go.Sort in
theorem sorted_ints {w : World} {g n : Nat} {os : Array Obj} {cur : Array Value} {l : List Int} (hb : w.heap[g]? = some (.cells cur 3 (0, 0))) (hl : l.length ≤ cur.size) :
    (∀ j u, (asInts l)[j]? = some u → (grow (putRow (Value.int .i64) (Sort.ahead w n) g 0 l.toArray) os).cell? ⟨g, j, none⟩ = some u) ∧ w.grownBy (grow (putRow (Value.int .i64) (Sort.ahead w n) g 0 l.toArray) os) (some g) ∧
      g < (grow (putRow (Value.int .i64) (Sort.ahead w n) g 0 l.toArray) os).heap.size := by
  have hg : g < w.heap.size := (Array.getElem?_eq_some_iff.1 hb).1
  have hh : (grow (putRow (Value.int .i64) (Sort.ahead w n) g 0 l.toArray) os).heap[g]? = some (.cells (putCells (Value.int .i64) 0 l.toArray cur) 3 (0, 0)) := by
    rw [heap_grow_old _ _ (by simpa using hg)]
    simp [putRow, mapBlock, Sort.ahead, Array.getElem?_modify, hb, onCells]
  refine ⟨fun j u hu => ?_, ⟨rfl, rfl, rfl, by simp, fun k hk hne => ?_⟩, by simp; omega⟩
  · have hj : j < l.length := by have := (List.getElem?_eq_some_iff.1 hu).1; simpa [asInts] using this
    rw [Lib.cell_of_heap hh, ← hu]
    simp [putCells, asInts, hj, show j < cur.size by omega]
  · rw [heap_grow_old _ _ (by simpa using hk)]
    have : g ≠ k := fun e => hne (by rw [e])
    simp [putRow, mapBlock, Sort.ahead, Array.getElem?_modify, this]

/-- What was collected, of a map's ints, when left says which are still to come. -/
def CollI (D : DataW Value) (left : Lit → Bool) (ks : List Int) : Prop :=
  ks.Nodup ∧ (∀ x ∈ ks, (Lit.int .i64 x).wf = true) ∧ ∀ x : Int, (Lit.int .i64 x).wf = true → (x ∈ ks ↔ (Maps.has D (.int .i64 x) = true ∧ left (.int .i64 x) = false))
theorem CollI.start (D : DataW Value) : CollI D (Maps.has D) [] := ⟨List.nodup_nil, fun x hx => by simp at hx, fun x _ => by simp⟩
theorem CollI.step {D : DataW Value} {left : Lit → Bool} {ks : List Int} (h : CollI D left ks) {x : Int} (hx : (Lit.int .i64 x).wf = true) (hl : left (.int .i64 x) = true) (hh : Maps.has D (.int .i64 x) = true) :
    CollI D (fun z => left z && !z.sameKey (.int .i64 x)) (ks ++ [x]) := by
  have hnot : x ∉ ks := fun hm => by have := ((h.2.2 x hx).1 hm).2; rw [hl] at this; cases this
  refine ⟨List.nodup_append.2 ⟨h.1, by simp, fun a ha b hb e => ?_⟩, fun a ha => ?_, fun a ha => ?_⟩
  · simp at hb; subst hb; subst e; exact hnot ha
  · rcases List.mem_append.1 ha with ha | ha
    · exact h.2.1 a ha
    · simp at ha; subst ha; exact hx
  · by_cases hax : a = x
    · subst hax
      simp [hh, WideAt.sameKey_self (isKeyI a)]
    · have hne : (Lit.int .i64 a) ≠ .int .i64 x := fun e => hax (by injection e)
      simp [Maps.sameKey_ne hne, hax, h.2.2 a ha]

set_option maxHeartbeats 1600000 in
/-- The pages in frames, rising: the list, and what is on it. -/
theorem held_any (p d fb mb n hand m : Nat) (fr : Nat → Option Fr) (w : World) (h : PoolG p d fb mb n hand m fr w) (hm : m ≤ n) :
    Calls Tryz.prog 62 #[.pointer (some ⟨p, 0, none⟩)] w fun e w' => ∃ v l, e = .returned v ∧ RowAt w.heap.size w' v (asInts l) ∧ l.length ≤ n ∧ l.Pairwise (· < ·) ∧ (∀ q : Int, q ∈ l ↔ ∃ i f, fr i = some f ∧ (f.page : Int) = q) ∧ Below w.heap.size w w' := by
  have HG := Lib.hid (pgiven_self p w h.c0)
  have hc := h.c3
  obtain ⟨F, ⟨D, hown, hsz, hD⟩, hF1, hF2⟩ := h.map
  have hmem : ∀ q : Int, (Lit.int .i64 q).wf = true → (Maps.has D (.int .i64 q) = true ↔ ∃ i f, fr i = some f ∧ (f.page : Int) = q) := fun q hq => by
    constructor
    · intro hh
      rcases hD q hq with ⟨_, hn⟩ | ⟨v, hv, _⟩
      · rw [hh] at hn; cases hn
      · obtain ⟨i, f, h1, h2, _⟩ := hF2 q v hv
        exact ⟨i, f, h1, h2⟩
    · rintro ⟨i, f, h1, rfl⟩
      rcases hD _ hq with ⟨hn, _⟩ | ⟨v, _, hv, _⟩
      · rw [hF1 i f h1] at hn; cases hn
      · exact hv
  have HQ := Lib.hid (fun i f (hi : fr i = some f) => (h.at_ i f hi).2.2.2)
  have HM := Lib.hid hmem; clear hmem
  have hmb := h.ltM
  have hn2 := h.n2
  have hszn : Maps.size D ≤ n := by omega
  clear hD hF1 hF2 hsz
  have HO := Lib.hid hown; clear hown
  clear h
  go_enter Tryz.func62, Tryz.ntmps62
  go_wp2_with fail
  refine HG.out.mono ?_
  rintro e w' ⟨rfl, hw⟩
  subst w'
  go_wp2_with (at_range; refine wpList_range_own _ rfl _ 158 rfl 3 173 keyI Tryz.underlying158 asIs mb m D rfl HO.out ?_; intro w0 hrg0 hg0 hs0)
  go_frame
  have hb0 : Below w.heap.size w w0 := ⟨hg0.os, hg0.tape, hg0.output, hg0.size, fun k hk => hg0.block k hk (by simp)⟩
  have HS0 := Lib.hid hs0; clear hs0 hg0
  have HR0 := Lib.hid hrg0; clear hrg0
  have HB0 := Lib.hid hb0; clear hb0
  go_loopw [3, 4] (fun v _ wr => ∃ (left : Lit → Bool) (cnt : Nat) (ks : List Int) (a : Option Addr) (k c : Nat), v = .slice a k c ∧ Hid (k = ks.length) ∧ Hid (wr.ranges Tryz.prog 3 asIs mb w.heap.size m D left cnt) ∧ Hid (wr.ownsRow w.heap.size 3 1 (.slice a k c) ks.length (asInts ks)) ∧ Hid (CollI D left ks) ∧ Hid (ks.length + cnt ≤ n) ∧ Hid (Below w.heap.size w wr)) (fun _ _ wr => wr.rangeLeft mb w.heap.size)
  case atStart => exact ⟨_, _, [], none, 0, 0, rfl, Lib.hid rfl, HR0, Lib.hid (World.ownsRow_nil _ _ _ _), Lib.hid (CollI.start D), Lib.hid (by simpa using hszn), HB0⟩
  case round =>
    obtain ⟨left, cnt, ks, a, k, c, rfl, HKL, HR, HV, HC, HN, HB⟩ := hrel
    go_wp2_with (at_next; refine wpList_next_ranges _ rfl _ rfl 3 keyI asIs (Value.int .i64) (fun v : Value => v) (fun key kl hk => by obtain ⟨x, rfl, _⟩ := Maps.keyOf_int_inv Tryz.underlying3 hk; exact ⟨x, rfl⟩) (fun v y _ => ⟨v, rfl⟩) mb w.heap.size m D left cnt rfl HR.out ?_ ?_)
    · intro hc0 hl0
      have HL := Lib.hid (show (∀ x : Int, x ∈ ks ↔ ∃ i f, fr i = some f ∧ (f.page : Int) = x) ∧ ks.Nodup ∧ ks.length ≤ n from by
        refine ⟨fun x => ?_, HC.out.1, by have := HN.out; omega⟩
        constructor
        · intro hx
          have hw := HC.out.2.1 x hx
          exact (HM.out x hw).1 ((HC.out.2.2 x hw).1 hx).1
        · rintro ⟨i, f, h1, rfl⟩
          have hw : (Lit.int .i64 f.page).wf = true := WalkArith.wf_i64 (by have := HQ.out i f h1; omega)
          exact (HC.out.2.2 _ hw).2 ⟨(HM.out _ hw).2 ⟨i, f, h1, rfl⟩, hl0 _⟩)
      clear hc0 hl0
      have hcase : (a = none ∧ k = 0 ∧ c = 0 ∧ ks = []) ∨ ∃ g cur, a = some ⟨g, 0, none⟩ ∧ w.heap.size ≤ g ∧ wr.heap[g]? = some (.cells cur 3 (0, 0)) ∧ ks.length ≤ cur.size ∧ cur.toList.take ks.length = asInts ks := by
        rcases HV.out.2 with ⟨hv, h0⟩ | ⟨g, cap, cur, hv, hg, hb, h1, h2, h3, h4⟩
        · injection hv with e1 e2 e3
          exact .inl ⟨e1, e2, e3, List.eq_nil_of_length_eq_zero h0⟩
        · injection hv with e1 e2 e3
          exact .inr ⟨g, cur, e1, hg, hb, by omega, by simpa using h4⟩
      rcases hcase with ⟨rfl, rfl, rfl, rfl⟩ | ⟨g, cur, rfl, hg, hb, hcs, hct⟩
      · go_wp2_with fail
        refine (Tryz.slices_Sort_int_none none 0 _).mono ?_
        rintro e w' ⟨rfl, hw⟩
        subst w'
        go_wp2
        go_ret
        refine ⟨_, [], rfl, ⟨none, 0, rfl, .inl rfl⟩, by simp, List.Pairwise.nil, fun q => ?_, HB.out⟩
        exact HL.out.1 q
      · obtain ⟨l, hl⟩ : ∃ l, l = ks.mergeSort fun x y => decide (x ≤ y) := ⟨_, rfl⟩
        have hll : l.length = ks.length := by rw [hl]; simp
        have hkl := HKL.out
        have HS : Hid (Calls Tryz.prog 78 #[.slice (some ⟨g, 0, none⟩) k c] wr fun e w' => e = .returned (.tuple #[]) ∧ RowAt w.heap.size w' (.slice (some ⟨g, 0, none⟩) k c) (asInts l) ∧ Below w.heap.size w w') := Lib.hid (by
          have hs := Tryz.slices_Sort_int g 0 c ks wr (holds_ints hb hct) (Array.getElem?_eq_some_iff.1 hb).1 (by have := HL.out.2.2; omega)
          rw [← hkl] at hs
          refine hs.mono ?_
          rintro e w' ⟨rfl, nn, os, hw'⟩
          rw [← hl] at hw'
          obtain ⟨s1, s2, s3⟩ := sorted_ints (n := nn) (os := os) (l := l) hb (by omega)
          rw [← hw'] at s1 s2 s3
          refine ⟨rfl, ⟨some ⟨g, 0, none⟩, c, by simp [asInts, hll, hkl], .inr ⟨g, rfl, hg, s3, s1⟩⟩, HB.out.trans ⟨s2.os, s2.tape, s2.output, s2.size, fun j hj => s2.block j (by have := HB.out.size; omega) (fun e => by injection e with e; omega)⟩⟩)
        have HP := Lib.hid (show l.length ≤ n ∧ l.Pairwise (· < ·) ∧ ∀ q : Int, q ∈ l ↔ ∃ i f, fr i = some f ∧ (f.page : Int) = q from by
          refine ⟨by rw [hll]; exact HL.out.2.2, ?_, fun q => ?_⟩
          · have h1 : l.Pairwise (fun x y => decide (x ≤ y) = true) := by
              rw [hl]
              exact List.pairwise_mergeSort (fun a b c h1 h2 => by simp at *; omega) (fun a b => by simp; omega) ks
            have h2 : l.Nodup := by rw [hl]; exact ((List.mergeSort_perm ks _).nodup_iff).2 HL.out.2.1
            exact (h1.and h2).imp (fun ⟨h3, h4⟩ => by simp at h3; omega)
          · rw [hl, List.mem_mergeSort]; exact HL.out.1 q)
        have HKL' := Lib.hid hkl
        clear hl hll hkl hb hcs hct
        go_wp2_with fail
        refine HS.out.mono ?_
        rintro e w' ⟨rfl, hra, hbb⟩
        have HRA := Lib.hid hra; have HBB := Lib.hid hbb; clear hra hbb
        go_wp2
        go_ret
        exact ⟨_, l, rfl, HRA.out, HP.out.1, HP.out.2.1, HP.out.2.2, HBB.out⟩
    · intro x cv kl yd yp w2 cnt2 hkey hlk hv hat hrg2 hlt hg2 hs2 hen
      obtain ⟨x', ex, rfl, hwx⟩ := Maps.keyOf_int_inv Tryz.underlying3 hkey
      cases ex
      have HC2 := Lib.hid (HC.out.step hwx hlk (Maps.has_true_of_atKey hat))
      have HN2 : Hid ((ks ++ [x]).length + cnt2 ≤ n) := Lib.hid (by have := HN.out; simp; omega)
      have HR2 := Lib.hid hrg2
      have hrs : w.heap.size < wr.heap.size := HR.out.lt
      have HV2 := Lib.hid (HV.out.kept hg2 (.inr (fun e => row_ne_iter HV.out HR.out e.symm)))
      have HB2 : Hid (Below w.heap.size w w2) := Lib.hid (HB.out.trans ⟨hg2.os, hg2.tape, hg2.output, hg2.size, fun j hj => hg2.block j (by omega) (fun e => by injection e with e; omega)⟩)
      have hsz2 : w.heap.size ≤ w2.heap.size := HB2.out.size
      have hcx : (w2.alloc (.cells #[.int .i64 x] 3)).cell? ⟨w2.heap.size, 0, none⟩ = some (.int .i64 x) := by rw [Lib.cell_of_heap (heap_alloc_new w2 _)]; rfl
      obtain ⟨v3, w3, hr, hV3, hg3⟩ := append_int w.heap.size (w2.alloc (.cells #[.int .i64 x] 3)) (.slice a k c) ks x (HV2.out.alloc _) (by simp; omega) (by have := HN.out; omega) ⟨w2.heap.size, 0, none⟩ 1 hcx 31
      obtain ⟨a3, k3, c3, rfl, hk3⟩ : ∃ a3 k3 c3, v3 = .slice a3 k3 c3 ∧ k3 = (ks ++ [x]).length := by
        rcases hV3.2 with ⟨rfl, h0⟩ | ⟨g, cap, cur, rfl, _⟩
        · exact ⟨_, _, _, rfl, h0.symm⟩
        · exact ⟨_, _, _, rfl, rfl⟩
      have hlow : ∀ j, j ≤ w.heap.size → some j ≠ (Value.slice a k c).ownBlock := fun j hj e => by
        rcases Nat.lt_or_ge j w.heap.size with h | h
        · have := (HV2.out.lt j e.symm).1; omega
        · have : j = w.heap.size := by omega
          subst this
          exact row_ne_iter HV.out HR.out e
      have HR3 := Lib.hid ((HR2.out.alloc (.cells #[.int .i64 x] 3)).kept hg3 (hlow mb (by omega)) (hlow _ (Nat.le_refl _)))
      have HB3 : Hid (Below w.heap.size w w3) := Lib.hid ((HB2.out.alloc hsz2 _).trans ⟨hg3.os, hg3.tape, hg3.output, hg3.size, fun j hj => hg3.block j (by simp; omega) (hlow j (by omega))⟩)
      have HV3 := Lib.hid hV3
      have HK3 := Lib.hid hk3
      have hen1 := hen
      clear hkey hlk hv hat hrg2 hg2 hs2 hcx hV3 hg3 hlow hk3 hrs
      go_wp2_with (at_builtin; refine Lib.wpList_append_run _ rfl _ _ 57 57 rfl _ _ rfl rfl _ _ hr ?_)
      exact ⟨⟨_, cnt2, ks ++ [x], a3, k3, c3, rfl, HK3, HR3, HV3, HC2, HN2, HB3⟩, by rw [HR3.out.left_eq, HR.out.left_eq]; exact hlt⟩
end Go.Proofs.YtjhdfpchoepkaaaGreatDoor

/- What a pool's pages hold and how often each is pinned, whichever frames they are in. No program's function is met here. -/
set_option maxRecDepth 100000
namespace Go.Proofs.YtjhdfpchoepkaaaGreatDoor
open Go.RowKit

theorem pageOf_get (F : List UInt8) (q j : Nat) : (pageOf F q)[j]? = if j < 512 then some ((F[q * 512 + j]?).getD 0) else none := by
  have hl : ((F.drop (q * 512)).take 512).length = min 512 (F.length - q * 512) := by simp
  unfold pageOf
  simp only
  by_cases h : j < 512
  · rw [if_pos h]
    by_cases h2 : j < F.length - q * 512
    · rw [List.getElem?_append_left (by omega), List.getElem?_take, if_pos h, List.getElem?_drop, List.getElem?_eq_getElem (by omega)]
      rfl
    · rw [List.getElem?_append_right (by omega), List.getElem?_replicate, if_pos (by omega), List.getElem?_eq_none (by omega)]
      rfl
  · rw [if_neg h, List.getElem?_eq_none]
    have := pageOf_length F q
    unfold pageOf at this
    simp only at this
    omega

theorem putL_get (F : List UInt8) (a : Nat) (cs : List UInt8) (j : Nat) : ((putL F a cs)[j]?).getD 0 = if a ≤ j ∧ j < a + cs.length then (cs[j - a]?).getD 0 else (F[j]?).getD 0 := by
  unfold putL
  rw [splice_get _ _ _ (by simp; omega)]
  by_cases h : a ≤ j ∧ j < a + cs.length
  · rw [if_pos h, if_pos h]
  · rw [if_neg h, if_neg h]
    by_cases h1 : j < F.length
    · rw [List.getElem?_append_left h1]
    · rw [List.getElem?_append_right (by omega), List.getElem?_replicate, List.getElem?_eq_none (show F.length ≤ j by omega)]
      split <;> rfl

theorem pageOf_put (F : List UInt8) (q q' : Nat) (bs : List UInt8) (hb : bs.length = 512) : pageOf (putL F (q * 512) bs) q' = if q' = q then bs else pageOf F q' := by
  apply List.ext_getElem?
  intro j
  rw [pageOf_get, putL_get, hb]
  by_cases hq : q' = q
  · subst hq
    rw [if_pos rfl]
    by_cases hj : j < 512
    · rw [if_pos hj, if_pos (by omega), show q' * 512 + j - q' * 512 = j by omega, List.getElem?_eq_getElem (by omega)]
      rfl
    · rw [if_neg hj, List.getElem?_eq_none (by omega)]
  · rw [if_neg hq, pageOf_get]
    by_cases hj : j < 512
    · rw [if_pos hj, if_pos hj, if_neg]
      rintro ⟨h1, h2⟩
      have : q' < q ∨ q < q' := by omega
      omega
    · rw [if_neg hj, if_neg hj]

def cb : Option Fr → Nat
  | some f => if f.changed then 1 else 0
  | none => 0
def chg : Nat → (Nat → Option Fr) → Nat
  | 0, _ => 0
  | n + 1, fr => chg n fr + cb (fr n)
theorem chg_ge {n i : Nat} {fr : Nat → Option Fr} (x : Option Fr) (h : n ≤ i) : chg n (upd fr i x) = chg n fr := by
  induction n with
  | zero => rfl
  | succ n ih => rw [chg, chg, ih (by omega), upd_other _ _ (by omega)]
theorem chg_upd {n i : Nat} (fr : Nat → Option Fr) (x : Option Fr) (h : i < n) : chg n (upd fr i x) + cb (fr i) = chg n fr + cb x := by
  induction n with
  | zero => omega
  | succ n ih =>
    rw [chg, chg]
    by_cases hi : i = n
    · subst hi
      rw [chg_ge x (Nat.le_refl _), upd_same]; omega
    · rw [upd_other _ _ (fun e => hi e.symm)]
      have := ih (by omega)
      omega
theorem chg_same {n : Nat} {fr fr' : Nat → Option Fr} (h : ∀ i, cb (fr' i) = cb (fr i)) : chg n fr' = chg n fr := by
  induction n with
  | zero => rfl
  | succ n ih => rw [chg, chg, ih, h]

/-- What the pages hold and how often each is pinned, said by what the frames and the disk hold. -/
structure View (n : Nat) (fr : Nat → Option Fr) (ops : List RawOp) (C : Nat → List UInt8) (P : Nat → Nat) (N : Nat) : Prop where
  held : ∀ i f, fr i = some f → C f.page = f.bytes ∧ P f.page = f.pins ∧ (f.changed = false → f.bytes = pageOf (play ops 1) f.page)
  free : ∀ q, (∀ i f, fr i = some f → f.page ≠ q) → C q = pageOf (play ops 1) q ∧ P q = 0
  cost : ops.length + chg n fr ≤ N
  bnd : ∀ q, P q ≤ N

theorem play_put (ops : List RawOp) (q : Nat) (bs : List UInt8) : play (ops ++ [.put 1 (q * 512) ⟨bs.toArray⟩]) 1 = putL (play ops 1) (q * 512) bs := by
  rw [play_snoc, RawOp.run, upd_same]

section
variable {n N : Nat} {fr fr' : Nat → Option Fr} {ops : List RawOp} {C : Nat → List UInt8} {P : Nat → Nat}
theorem View.more (h : View n fr ops C P N) {M : Nat} (hM : N ≤ M) : View n fr ops C P M := ⟨h.held, h.free, Nat.le_trans h.cost hM, fun q => Nat.le_trans (h.bnd q) hM⟩

/-- A frame's marks do not matter. -/
theorem View.late (h : View n fr ops C P N) (hl : Late fr fr') : View n fr' ops C P N := by
  have hb : ∀ i f', fr' i = some f' → ∃ f, fr i = some f ∧ f'.page = f.page ∧ f'.pins = f.pins ∧ f'.changed = f.changed ∧ f'.bytes = f.bytes := fun i f' hi => by
    obtain ⟨b, hb⟩ := hl i
    rw [hi] at hb
    cases hf : fr i with
    | none => rw [hf] at hb; cases hb
    | some f => rw [hf] at hb; simp at hb; subst hb; exact ⟨f, rfl, rfl, rfl, rfl, rfl⟩
  have hb2 : ∀ i f, fr i = some f → ∃ f', fr' i = some f' ∧ f'.page = f.page := fun i f hi => by
    obtain ⟨b, hb⟩ := hl i
    rw [hi] at hb
    exact ⟨_, hb, rfl⟩
  refine ⟨fun i f' hi => ?_, fun q hq => h.free q (fun i f hi => ?_), ?_, h.bnd⟩
  · obtain ⟨f, hf, e1, e2, e3, e4⟩ := hb i f' hi
    rw [e1, e2, e3, e4]
    exact h.held i f hf
  · obtain ⟨f', hf', e⟩ := hb2 i f hi
    rw [← e]; exact hq i f' hf'
  · rw [chg_same (fr := fr)]
    · exact h.cost
    · intro i
      obtain ⟨b, hb⟩ := hl i
      rw [hb]
      cases fr i <;> rfl

/-- A changed frame is saved. -/
theorem View.save (h : View n fr ops C P N) (one : ∀ i j f g, fr i = some f → fr j = some g → f.page = g.page → i = j) {i : Nat} {f : Fr} (hi : fr i = some f) (hin : i < n) (hb : f.bytes.length = 512) (hc : f.changed = true) :
    View n (upd fr i (some { f with changed := false })) (ops ++ [.put 1 (f.page * 512) ⟨f.bytes.toArray⟩]) C P N := by
  have hpl := play_put ops f.page f.bytes
  refine ⟨fun j g hg => ?_, fun q hq => ?_, ?_, h.bnd⟩
  · by_cases hj : j = i
    · subst hj; rw [upd_same] at hg; cases hg
      obtain ⟨h1, h2, _⟩ := h.held j f hi
      exact ⟨h1, h2, fun _ => by rw [hpl, pageOf_put _ _ _ _ hb, if_pos rfl]⟩
    · rw [upd_other _ _ hj] at hg
      obtain ⟨h1, h2, h3⟩ := h.held j g hg
      refine ⟨h1, h2, fun hc' => ?_⟩
      rw [hpl, pageOf_put _ _ _ _ hb, if_neg (fun e => hj (one j i g f hg hi e))]
      exact h3 hc'
  · have hqf : q ≠ f.page := fun e => hq i _ (upd_same _ _ _) e.symm
    obtain ⟨h1, h2⟩ := h.free q (fun j g hg => by
      by_cases hj : j = i
      · subst hj; rw [hi] at hg; cases hg; exact fun e => hqf e.symm
      · exact hq j g (by rw [upd_other _ _ hj]; exact hg))
    rw [hpl, pageOf_put _ _ _ _ hb, if_neg hqf]
    exact ⟨h1, h2⟩
  · have := chg_upd fr (some { f with changed := false }) hin
    have hcb : cb (fr i) = 1 := by rw [hi]; simp [cb, hc]
    have hcb2 : cb (some { f with changed := false }) = 0 := rfl
    have := h.cost
    simp only [List.length_append, List.length_cons, List.length_nil]
    omega

/-- A frame that is not changed, and not pinned, is let go. -/
theorem View.drop (h : View n fr ops C P N) {i : Nat} {f : Fr} (hi : fr i = some f) (hin : i < n) (hc : f.changed = false) (hp : f.pins = 0) : View n (upd fr i none) ops C P N := by
  refine ⟨fun j g hg => ?_, fun q hq => ?_, ?_, h.bnd⟩
  · by_cases hj : j = i
    · subst hj; rw [upd_same] at hg; cases hg
    · rw [upd_other _ _ hj] at hg; exact h.held j g hg
  · by_cases hqf : f.page = q
    · obtain ⟨h1, h2, h3⟩ := h.held i f hi
      subst hqf
      exact ⟨by rw [h1]; exact h3 hc, by rw [h2, hp]⟩
    · refine h.free q (fun j g hg e => ?_)
      by_cases hj : j = i
      · subst hj; rw [hi] at hg; cases hg; exact hqf e
      · exact hq j g (by rw [upd_other _ _ hj]; exact hg) e
  · have := chg_upd fr none hin
    have hcb : cb (fr i) = 0 := by rw [hi]; simp [cb, hc]
    have hcb2 : cb none = 0 := rfl
    have := h.cost
    omega

/-- A frame is taken for another page: it was saved where it was changed. -/
theorem View.evict (h : View n fr ops C P N) (one : ∀ i j f g, fr i = some f → fr j = some g → f.page = g.page → i = j) {i : Nat} {f : Fr} (hi : fr i = some f) (hin : i < n) (hb : f.bytes.length = 512) (hp : f.pins = 0) : View n (upd fr i none) (saved f ops) C P N := by
  unfold saved
  cases hc : f.changed
  · exact h.drop hi hin hc hp
  · have h1 := h.save one hi hin hb hc
    have h2 := h1.drop (upd_same _ _ _) hin rfl hp
    have : upd (upd fr i (some { f with changed := false })) i none = upd fr i none := by
      funext j
      by_cases hj : j = i
      · subst hj; rw [upd_same, upd_same]
      · rw [upd_other _ _ hj, upd_other _ _ hj, upd_other _ _ hj]
    rw [this] at h2
    exact h2

/-- A page comes into a free frame, pinned once. -/
theorem View.load (h : View n fr ops C P N) {i q : Nat} (hi : fr i = none) (hin : i < n) (hno : ∀ j f, fr j = some f → f.page ≠ q) : View n (upd fr i (some ⟨q, 1, true, false, pageOf (play ops 1) q⟩)) ops C (upd P q 1) (N + 1) := by
  refine ⟨fun j g hg => ?_, fun x hx => ?_, ?_, fun x => ?_⟩
  · by_cases hj : j = i
    · subst hj; rw [upd_same] at hg; cases hg
      exact ⟨(h.free q hno).1, upd_same _ _ _, fun _ => rfl⟩
    · rw [upd_other _ _ hj] at hg
      obtain ⟨h1, h2, h3⟩ := h.held j g hg
      exact ⟨h1, by rw [upd_other _ _ (hno j g hg)]; exact h2, h3⟩
  · have hxq : x ≠ q := fun e => hx i _ (upd_same _ _ _) e.symm
    obtain ⟨h1, h2⟩ := h.free x (fun j g hg => by
      by_cases hj : j = i
      · subst hj; rw [hi] at hg; cases hg
      · exact hx j g (by rw [upd_other _ _ hj]; exact hg))
    exact ⟨h1, by rw [upd_other _ _ hxq]; exact h2⟩
  · have := chg_upd fr (some (⟨q, 1, true, false, pageOf (play ops 1) q⟩ : Fr)) hin
    have hcb2 : cb (some (⟨q, 1, true, false, pageOf (play ops 1) q⟩ : Fr)) = 0 := rfl
    have := h.cost
    omega
  · by_cases hxq : x = q
    · subst hxq; rw [upd_same]; omega
    · rw [upd_other _ _ hxq]; have := h.bnd x; omega

/-- A frame's pins and bytes turn. -/
theorem View.turn (h : View n fr ops C P N) (one : ∀ i j f g, fr i = some f → fr j = some g → f.page = g.page → i = j) {i : Nat} {f f' : Fr} (hi : fr i = some f) (hin : i < n) (hpg : f'.page = f.page) (hc : f'.changed = false → f.changed = false ∧ f'.bytes = f.bytes) (hN : f'.pins ≤ N + 1) :
    View n (upd fr i (some f')) ops (upd C f.page f'.bytes) (upd P f.page f'.pins) (N + 1) := by
  refine ⟨fun j g hg => ?_, fun x hx => ?_, ?_, fun x => ?_⟩
  · by_cases hj : j = i
    · subst hj; rw [upd_same] at hg; cases hg
      rw [hpg]
      refine ⟨upd_same _ _ _, upd_same _ _ _, fun hc' => ?_⟩
      obtain ⟨h1, h2⟩ := hc hc'
      rw [h2]; exact (h.held j f hi).2.2 h1
    · rw [upd_other _ _ hj] at hg
      have hne : g.page ≠ f.page := fun e => hj (one j i g f hg hi e)
      rw [upd_other _ _ hne, upd_other _ _ hne]
      exact h.held j g hg
  · have hxq : x ≠ f.page := fun e => hx i f' (upd_same _ _ _) (by rw [hpg, e])
    rw [upd_other _ _ hxq, upd_other _ _ hxq]
    refine h.free x (fun j g hg => ?_)
    by_cases hj : j = i
    · subst hj; rw [hi] at hg; cases hg; exact fun e => hxq e.symm
    · exact hx j g (by rw [upd_other _ _ hj]; exact hg)
  · have := chg_upd fr (some f') hin
    have hle : cb (some f') ≤ 1 := by unfold cb; simp only; split <;> omega
    have := h.cost
    omega
  · by_cases hxq : x = f.page
    · subst hxq; rw [upd_same]; exact hN
    · rw [upd_other _ _ hxq]; have := h.bnd x; omega
end
end Go.Proofs.YtjhdfpchoepkaaaGreatDoor

/- The contract of a pool's Flush. -/
set_option maxRecDepth 100000
namespace Go.Proofs.YtjhdfpchoepkaaaGreatDoor
open Go.RowKit

/-- What a save leaves of the pool and its disk. -/
structure Flushed (S : Nat → Prop) (p d fb mb n hand m : Nat) (fr fr' : Nat → Option Fr) (C : Nat → List UInt8) (P : Nat → Nat) (N B : Nat) (w0 w : World) : Prop where
  g : PoolG p d fb mb n hand m fr' w
  st : ∃ S' ops', DiskAt S' d ops' w ∧ View n fr' ops' C P N ∧ (∀ k, S' k → S k ∨ B ≤ k) 
  same : ∀ i, (fr' i).map (·.page) = (fr i).map (·.page)
  kept : Kept (fun k => S k ∨ k = fb) w0 w

theorem flushed_save {S : Nat → Prop} {p d fb mb n hand m : Nat} {fr fr' : Nat → Option Fr} {C : Nat → List UInt8} {P : Nat → Nat} {N B : Nat} {w0 w : World} (h : Flushed S p d fb mb n hand m fr fr' C P N B w0 w) (hN : N ≤ 4398046511104) (hB : B ≤ w.heap.size) (hw0 : w0.heap.size ≤ B)
    (hp : ¬ S p ∧ p < B) (hf : ¬ S fb ∧ fb < B) (hm : ¬ S mb ∧ mb < B) {i : Nat} {f : Fr} (hi : fr' i = some f) :
    Calls Tryz.prog 158 #[ptrFr fb i, .pointer (some ⟨d, 0, none⟩)] w fun e w' => e = .returned (.tuple #[]) ∧ ∃ fr2, Flushed S p d fb mb n hand m fr fr2 C P N B w0 w' ∧ (∀ f, fr2 i = some f → f.changed = false) ∧ ∀ j, j ≠ i → fr2 j = fr' j := by
  obtain ⟨S', ops', hd, hv, hS'⟩ := h.st
  obtain ⟨hin, hFr, hfb, hfq⟩ := h.g.at_ i f hi
  have oP : ¬ S' p := fun e => (hS' p e).elim hp.1 (by omega)
  have oF : ¬ S' fb := fun e => (hS' fb e).elim hf.1 (by omega)
  have oM : ¬ S' mb := fun e => (hS' mb e).elim hm.1 (by omega)
  refine (save_any fb (i * 516) d f S' ops' w hd (by have := hv.cost; omega) hFr hfq hfb h.g.froz oF).mono ?_
  rintro e w' ⟨he, hs⟩
  refine ⟨he, ?_⟩
  rcases hs with ⟨hc, rfl⟩ | ⟨hc, w3, g1, g2, rfl⟩
  · exact ⟨fr', h, fun g hg => by rw [hi] at hg; cases hg; exact hc, fun _ _ => rfl⟩
  · have hG3 := h.g.kept g2 oP oF oM
    obtain ⟨_, hFr, hfb, _⟩ := hG3.at_ i f hi
    have hfar : ∀ j, j ≠ 3 → (w3.setCell ⟨fb, i * 516 + 3, none⟩ (.bool false)).cell? ⟨fb, i * 516 + j, none⟩ = w3.cell? ⟨fb, i * 516 + j, none⟩ := fun j hj => World.cell?_setCell_other _ _ _ _ (fun e => by injection e with _ e _; omega)
    have hk3 : Kept (fun k => k = fb) w3 (w3.setCell ⟨fb, i * 516 + 3, none⟩ (.bool false)) := Kept.setCell (fun k => k = fb) w3 (b := fb) rfl _
    refine ⟨upd fr' i (some { f with changed := false }), ⟨?_, ⟨More S' w.heap.size, _, ?_, hv.save h.g.one hi hin hfb hc, ?_⟩, fun j => ?_, ?_⟩, ?_, fun j hj => upd_other _ _ hj⟩
    · refine hG3.turnFr hi (Touch.setCell w3 _ (by omega) (by omega)) hk3 (FrAt.mk ((hfar 0 (by omega)).trans hFr.page) ((hfar 1 (by omega)).trans hFr.pins) ((hfar 2 (by omega)).trans hFr.lately) ?_ (fun j v hv => ?_)) hfb rfl
      · exact World.cell?_setCell_same _ _ _ hFr.changed
      · rw [show i * 516 + 4 + j = i * 516 + (4 + j) by omega, hfar (4 + j) (by omega), ← Nat.add_assoc]
        exact hFr.bytes j v hv
    · refine g1.kept hk3 (fun k _ hs e => ?_)
      subst e
      rcases hs with hs | hs
      · exact oF hs
      · omega
    · rintro k (hk | hk)
      · exact hS' k hk
      · exact .inr (by omega)
    · by_cases hj : j = i
      · subst hj; rw [upd_same, ← h.same, hi]; rfl
      · rw [upd_other _ _ hj]; exact h.same j
    · refine (h.kept.trans g2 (fun k hk => ?_)).trans hk3 (fun k hk => .inl (.inr hk))
      rcases hS' k hk with h1 | h1
      · exact .inl (.inl h1)
      · exact .inr (by omega)
    · intro g hg
      rw [upd_same] at hg; cases hg; rfl

set_option maxHeartbeats 1600000 in
theorem flush_any (p d fb mb n hand m : Nat) (fr : Nat → Option Fr) (S : Nat → Prop) (ops : List RawOp) (C : Nat → List UInt8) (P : Nat → Nat) (N : Nat) (w : World) (h : PoolG p d fb mb n hand m fr w) (hm : m ≤ n) (hd : DiskAt S d ops w) (hv : View n fr ops C P N) (hN : N ≤ 4398046511104)
    (h1 : ¬ S p) (h2 : ¬ S fb) (h3 : ¬ S mb) (hS : ∀ k, S k → k < w.heap.size) :
    Calls Tryz.prog 111 #[.pointer (some ⟨p, 0, none⟩)] w fun e w' => e = .returned (.int .i64 0) ∧ ∃ fr', Flushed S p d fb mb n hand m fr fr' C P N w.heap.size w w' ∧ ∀ i f, fr' i = some f → f.changed = false := by
  have HG := Lib.hid (pgiven_self p w h.c0)
  have HH := Lib.hid (held_any p d fb mb n hand m fr w h hm)
  have h2n := h.n2
  have H := Lib.hid h
  have HD := Lib.hid hd; clear hd
  have HV := Lib.hid hv; clear hv
  have HS := Lib.hid (show (¬ S p ∧ ¬ S fb ∧ ¬ S mb) ∧ ∀ k, S k → k < w.heap.size from ⟨⟨h1, h2, h3⟩, hS⟩)
  clear h h1 h2 h3 hS
  go_enter Tryz.func111, Tryz.ntmps111
  go_wp2_with fail
  refine HG.out.mono ?_
  rintro e w' ⟨rfl, hw⟩
  subst w'
  go_wp2_with fail
  refine HH.out.mono ?_
  rintro e w1 ⟨v, l, rfl, hR, hln, _, hmem, hb⟩
  obtain ⟨a, c, rfl, hcell⟩ := hR
  have hlen : (asInts l).length = l.length := by simp [asInts]
  rw [hlen]
  obtain ⟨ll, hll⟩ : ∃ ll, ll = l.length := ⟨_, rfl⟩
  rw [← hll] at hln ⊢
  have HLL := Lib.hid hll
  have HM := Lib.hid hmem; clear hmem
  have HC : Hid (∀ k, k < ll → ∃ g x, a = some ⟨g, 0, none⟩ ∧ w.heap.size ≤ g ∧ g < w1.heap.size ∧ l[k]? = some x ∧ w1.cell? ⟨g, k, none⟩ = some (.int .i64 x)) := Lib.hid (fun k hk => by
    rcases hcell with h0 | ⟨g, rfl, hg1, hg2, hg3⟩
    · simp [asInts] at h0; subst h0; simp at hll; omega
    · refine ⟨g, l[k], rfl, hg1, hg2, List.getElem?_eq_getElem (by omega), hg3 k _ ?_⟩
      simp [asInts, show k < l.length by omega])
  have hF0 : Flushed S p d fb mb n hand m fr fr C P N w1.heap.size w1 w1 := ⟨H.out.below hb, ⟨S, ops, HD.out.below hb, HV.out, fun k hk => .inl hk⟩, fun _ => rfl, Kept.refl _ _⟩
  have HB := Lib.hid hb
  have HF0 := Lib.hid hF0
  clear hF0 hcell hlen hll hb
  go_wp2
  go_loopw [11] (fun i wr => ∃ (k : Nat) (fr' : Nat → Option Fr), k ≤ ll ∧ i = .int .i64 k ∧ Hid (Flushed S p d fb mb n hand m fr fr' C P N w1.heap.size w1 wr) ∧ Hid (∀ j x i f, j < k → l[j]? = some x → fr' i = some f → (f.page : Int) = x → f.changed = false)) (fun i _ => ll - (intOf i).toNat)
  case atStart => exact ⟨0, fr, by omega, rfl, HF0, Lib.hid (fun j x i f hj => by omega)⟩
  case round =>
    obtain ⟨k, fr', hk, rfl, HF, HQ⟩ := hrel
    by_cases hlt : k < ll
    · obtain ⟨g, x, rfl, hg1, hg2, hlx, hcx⟩ := HC.out k hlt
      have hxw : wr.cell? ⟨g, k, none⟩ = some (.int .i64 x) := (World.cell?_of_block (HF.out.kept.block g hg2 (fun e => by
        rcases e with e | e
        · have := HS.out.2 g e; omega
        · have := H.out.ltF; omega))).trans hcx
      obtain ⟨i0, f0, hf0, hx⟩ := (HM.out x).1 (List.mem_of_getElem? hlx)
      obtain ⟨f, hf, hfp⟩ : ∃ f, fr' i0 = some f ∧ f.page = f0.page := by
        have := HF.out.same i0
        rw [hf0] at this
        cases hfr : fr' i0 with
        | none => rw [hfr] at this; cases this
        | some f => rw [hfr] at this; simp at this; exact ⟨f, rfl, this⟩
      rw [← hfp] at hx
      have HLX := Lib.hid hlx; clear hlx hcx
      have hG2 : PoolG p d fb mb n hand m fr' wr.drew := HF.out.g.block rfl rfl rfl
      have c3 := hG2.c3
      have c1 := hG2.c1
      have hlk := hG2.look hf
      rw [hx] at hlk
      have hwz := HB.out.size
      have hF2 : Flushed S p d fb mb n hand m fr fr' C P N w1.heap.size w1 wr.drew := by
        obtain ⟨S', ops', hd', hv', hs'⟩ := HF.out.st
        exact ⟨hG2, ⟨S', ops', hd'.below ⟨rfl, rfl, rfl, Nat.le_refl _, fun _ _ => rfl⟩, hv', hs'⟩, HF.out.same, HF.out.kept.trans (Kept.ofBelow (S := fun _ => False) ⟨rfl, rfl, rfl, Nat.le_refl _, fun _ _ => rfl⟩) (fun _ h => h.elim)⟩
      have HSV := Lib.hid (flushed_save hF2 hN (by exact HF.out.kept.size) (Nat.le_refl _) ⟨HS.out.1.1, by have := H.out.lt; omega⟩ ⟨HS.out.1.2.1, by have := H.out.ltF; omega⟩ ⟨HS.out.1.2.2, by have := H.out.ltM; omega⟩ hf)
      have d3 := HF.out.g.c3
      have d1 := HF.out.g.c1
      have HX := Lib.hid hx
      have HFF := Lib.hid hf
      unfold ptrFr at hlk HSV
      clear hf0 hfp hG2 hF2 hf hx
      go_wp2
      go_still_tail 10, (by kernel_rfl)
      go_wp2_with fail
      refine HSV.out.mono ?_
      rintro e w3 ⟨rfl, fr2, hF3, hc3, hs3⟩
      have HF3 := Lib.hid hF3
      have HQ3 : Hid (∀ j x i f, j < k + 1 → l[j]? = some x → fr2 i = some f → (f.page : Int) = x → f.changed = false) := Lib.hid (fun j y i h hj hy hi hpy => by
        by_cases hii : i = i0
        · subst hii; exact hc3 h hi
        · rw [hs3 i hii] at hi
          by_cases hjk : j = k
          · subst hjk
            rw [HLX.out] at hy; cases hy
            exact absurd (HF.out.g.one i i0 h f hi HFF.out (by have := HX.out; omega)) hii
          · exact HQ.out j y i h (by omega) hy hi hpy)
      clear hF3 hc3 hs3
      go_wp2
      go_roundw
      case rel => exact ⟨k + 1, fr2, by omega, by go_num, HF3, HQ3⟩
      case measure => simp [intOf]; omega
    · have hkl : k = ll := by omega
      have HKL := Lib.hid hkl; clear hkl
      go_wp2
      go_ret
      refine ⟨rfl, fr', ⟨HF.out.g, ?_, HF.out.same, (Kept.ofBelow (S := fun k => S k ∨ k = fb) HB.out).trans HF.out.kept (fun _ h => .inl h)⟩, fun i f hi => ?_⟩
      · obtain ⟨S', ops', hd', hv', hs'⟩ := HF.out.st
        exact ⟨S', ops', hd', hv', fun k hk => (hs' k hk).imp id (fun h => by have := HB.out.size; omega)⟩
      · have hmem : (f.page : Int) ∈ l := by
          refine (HM.out _).2 ?_
          have := HF.out.same i
          rw [hi] at this
          cases hfr : fr i with
          | none => rw [hfr] at this; cases this
          | some f0 => rw [hfr] at this; simp at this; exact ⟨i, f0, hfr, by rw [this]⟩
        obtain ⟨j, hj, hjl⟩ := List.getElem_of_mem hmem
        exact HQ.out j _ i f (by have := HLL.out; have := HKL.out; omega) (by rw [List.getElem?_eq_getElem hj, hjl]) hi rfl
end Go.Proofs.YtjhdfpchoepkaaaGreatDoor

/- A pool as whoever uses it sees it: what each page holds, how often it is pinned; New, Pin, Unpin, Read, Write, Pins, Held, Flush so said. -/
set_option maxRecDepth 100000
namespace Go.Proofs.YtjhdfpchoepkaaaGreatDoor
open Go.RowKit

/-- How many pages are pinned. -/
def pinnedN (P : Nat → Nat) : Nat := ((List.range 4096).filter fun q => decide (0 < P q)).length

theorem nodup_le {α : Type} [DecidableEq α] : ∀ (l l' : List α), l.Nodup → (∀ x ∈ l, x ∈ l') → l.length ≤ l'.length
  | [], _, _, _ => by simp
  | a :: l, l', hd, hs => by
    obtain ⟨h1, h2⟩ := List.nodup_cons.1 hd
    have ha := hs a (by simp)
    have := nodup_le l (l'.erase a) h2 (fun x hx => (List.mem_erase_of_ne (fun e => by subst e; exact h1 hx)).2 (hs x (by simp [hx])))
    rw [List.length_erase_of_mem ha] at this
    have := List.length_pos_of_mem ha
    simp only [List.length_cons]
    omega
theorem mem_pinned {P : Nat → Nat} {q : Nat} : q ∈ ((List.range 4096).filter fun q => decide (0 < P q)) ↔ q < 4096 ∧ 0 < P q := by simp
theorem pinned_nodup (P : Nat → Nat) : ((List.range 4096).filter fun q => decide (0 < P q)).Nodup := List.Pairwise.filter _ List.nodup_range

/-- A list of the pinned pages has just so many. -/
theorem pinnedN_list {P : Nat → Nat} {l : List Nat} (hd : l.Nodup) (hm : ∀ q, q ∈ l ↔ q < 4096 ∧ 0 < P q) : l.length = pinnedN P :=
  Nat.le_antisymm (nodup_le _ _ hd (fun q hq => mem_pinned.2 ((hm q).1 hq))) (nodup_le _ _ (pinned_nodup P) (fun q hq => (hm q).2 (mem_pinned.1 hq)))

section
variable {p d fb mb n hand m N : Nat} {fr : Nat → Option Fr} {w : World} {ops : List RawOp} {C : Nat → List UInt8} {P : Nat → Nat}

def pageAt (fr : Nat → Option Fr) (i : Nat) : Nat := match fr i with | some f => f.page | none => 0

theorem holder (h : PoolG p d fb mb n hand m fr w) (hv : View n fr ops C P N) {q : Nat} (hq : 0 < P q) : ∃ i f, fr i = some f ∧ f.page = q ∧ i < n ∧ f.pins = P q ∧ q < 4096 := by
  by_cases hx : ∃ i f, fr i = some f ∧ f.page = q
  · obtain ⟨i, f, hi, rfl⟩ := hx
    obtain ⟨h1, _, _, h4⟩ := h.at_ i f hi
    exact ⟨i, f, hi, rfl, h1, (hv.held i f hi).2.1.symm, h4⟩
  · have := (hv.free q (fun i f hi e => hx ⟨i, f, hi, e⟩)).2
    omega

theorem full_yes (h : PoolG p d fb mb n hand m fr w) (hv : View n fr ops C P N) (ha : ∀ i, i < n → ∃ f, fr i = some f ∧ 0 < f.pins) : pinnedN P = n := by
  have hnd : ((List.range n).map (pageAt fr)).Nodup := by
    refine List.pairwise_map.2 ((List.pairwise_lt_range (n := n)).imp_of_mem ?_)
    intro a b ha' hb' hab e
    obtain ⟨f, hf, _⟩ := ha a (List.mem_range.1 ha')
    obtain ⟨g, hg, _⟩ := ha b (List.mem_range.1 hb')
    unfold pageAt at e
    rw [hf, hg] at e
    have := h.one a b f g hf hg e
    omega
  have := pinnedN_list (P := P) hnd (fun q => by
    constructor
    · intro hq
      obtain ⟨i, hi, rfl⟩ := List.mem_map.1 hq
      obtain ⟨f, hf, hp⟩ := ha i (List.mem_range.1 hi)
      unfold pageAt
      rw [hf]
      exact ⟨(h.at_ i f hf).2.2.2, by rw [(hv.held i f hf).2.1]; exact hp⟩
    · rintro ⟨_, hp⟩
      obtain ⟨i, f, hf, e, hin, _⟩ := holder h hv hp
      exact List.mem_map.2 ⟨i, List.mem_range.2 hin, by unfold pageAt; rw [hf]; exact e⟩)
  rw [← this]; simp

theorem full_no (h : PoolG p d fb mb n hand m fr w) (hv : View n fr ops C P N) {i : Nat} (hi : i < n) (hp : ∀ f, fr i = some f → f.pins = 0) : pinnedN P ≠ n := by
  have hle : pinnedN P ≤ (((List.range n).erase i).map (pageAt fr)).length := by
    refine nodup_le _ _ (pinned_nodup P) (fun q hq => ?_)
    obtain ⟨_, hpq⟩ := mem_pinned.1 hq
    obtain ⟨j, f, hf, e, hjn, hfp, _⟩ := holder h hv hpq
    refine List.mem_map.2 ⟨j, (List.mem_erase_of_ne (fun e => ?_)).2 (List.mem_range.2 hjn), by unfold pageAt; rw [hf]; exact e⟩
    subst e
    have := hp f hf
    omega
  rw [List.length_map, List.length_erase_of_mem (List.mem_range.2 hi), List.length_range] at hle
  omega
end

/-- A pool that New gave, as it is seen from outside; all its blocks, the disk's too, are of S, and lie from B on. -/
def PoolSt (B : Nat) (S : Nat → Prop) (p d n : Nat) (C : Nat → List UInt8) (P : Nat → Nat) (N : Nat) (w : World) : Prop :=
  ∃ fb mb hand m fr Sd ops, PoolG p d fb mb n hand m fr w ∧ Filled n m fr ∧ DiskAt Sd d ops w ∧ View n fr ops C P N ∧ (¬ Sd p ∧ ¬ Sd fb ∧ ¬ Sd mb) ∧ (∀ k, Sd k ∨ k = p ∨ k = fb ∨ k = mb → S k) ∧ ∀ k, S k → B ≤ k ∧ k < w.heap.size

/-- What has turned: blocks of S alone; and S' is S, and new blocks. -/
def Turn (S : Nat → Prop) (w : World) (S' : Nat → Prop) (w' : World) : Prop := Kept S w w' ∧ ∀ k, k < w.heap.size → S' k → S k
theorem Turn.refl (S : Nat → Prop) (w : World) : Turn S w S w := ⟨Kept.refl _ _, fun _ _ h => h⟩
theorem Turn.trans {S S' S'' : Nat → Prop} {w w' w'' : World} (h : Turn S w S' w') (k : Turn S' w' S'' w'') : Turn S w S'' w'' := by
  refine ⟨h.1.trans k.1 (fun i hi => ?_), fun i hi hs => h.2 i hi (k.2 i (Nat.lt_of_lt_of_le hi h.1.size) hs)⟩
  rcases Nat.lt_or_ge i w.heap.size with hlt | hge
  · exact .inl (h.2 i hlt hi)
  · exact .inr hge

section
variable {B p d n N : Nat} {S : Nat → Prop} {w w' : World} {C : Nat → List UInt8} {P : Nat → Nat}
theorem PoolSt.size (h : PoolSt B S p d n C P N w) : B ≤ w.heap.size := by
  obtain ⟨fb, mb, hand, m, fr, Sd, ops, h1, _, _, _, _, h6, h7⟩ := h
  have := h7 p (h6 p (.inr (.inl rfl)))
  omega
theorem PoolSt.low (h : PoolSt B S p d n C P N w) : ∀ k, S k → B ≤ k ∧ k < w.heap.size := by
  obtain ⟨fb, mb, hand, m, fr, Sd, ops, h1, _, _, _, _, h6, h7⟩ := h
  exact h7
theorem PoolSt.more (h : PoolSt B S p d n C P N w) {M : Nat} (hM : N ≤ M) : PoolSt B S p d n C P M w := by
  obtain ⟨fb, mb, hand, m, fr, Sd, ops, h1, h2, h3, h4, h5⟩ := h
  exact ⟨fb, mb, hand, m, fr, Sd, ops, h1, h2, h3, h4.more hM, h5⟩
theorem PoolSt.kept {T : Nat → Prop} (h : PoolSt B S p d n C P N w) (hk : Kept T w w') (hd : ∀ k, k < w.heap.size → S k → ¬ T k) : PoolSt B S p d n C P N w' := by
  obtain ⟨fb, mb, hand, m, fr, Sd, ops, h1, h2, h3, h4, h5, h6, h7⟩ := h
  have hn : ∀ k, Sd k ∨ k = p ∨ k = fb ∨ k = mb → ¬ T k := fun k hk' => hd k (h7 k (h6 k hk')).2 (h6 k hk')
  refine ⟨fb, mb, hand, m, fr, Sd, ops, h1.kept hk (hn p (.inr (.inl rfl))) (hn fb (.inr (.inr (.inl rfl)))) (hn mb (.inr (.inr (.inr rfl)))), h2, h3.kept hk (fun k _ hs => hn k (.inl hs)), h4, h5, h6, fun k hs => ⟨(h7 k hs).1, Nat.lt_of_lt_of_le (h7 k hs).2 hk.size⟩⟩
theorem PoolSt.below (h : PoolSt B S p d n C P N w) (hk : Below w.heap.size w w') : PoolSt B S p d n C P N w' :=
  h.kept (Kept.ofBelow (S := fun _ => False) hk) (fun _ _ _ => id)
theorem PoolSt.toBelow {S' : Nat → Prop} (h : PoolSt B S p d n C P N w) (ht : Turn S w S' w') : Below B w w' := ht.1.toBelow h.size (fun k hk => (h.low k hk).1)

/-- A pool's state out of its parts, behind a turn. -/
theorem poolSt_mk {fb mb hand m : Nat} {fr : Nat → Option Fr} {Sd : Nat → Prop} {ops : List RawOp} (h1 : PoolG p d fb mb n hand m fr w') (h2 : Filled n m fr) (h3 : DiskAt Sd d ops w') (h4 : View n fr ops C P N) (h5 : ¬ Sd p ∧ ¬ Sd fb ∧ ¬ Sd mb)
    (h6 : ∀ k, Sd k → S k ∨ w.heap.size ≤ k) (h7 : S p ∧ S fb ∧ S mb) (h8 : ∀ k, S k → B ≤ k ∧ k < w.heap.size) (h9 : Kept S w w') : ∃ S', Turn S w S' w' ∧ PoolSt B S' p d n C P N w' := by
  refine ⟨fun k => (S k ∨ w.heap.size ≤ k) ∧ k < w'.heap.size, ⟨h9, fun k hk hs => hs.1.elim id (by omega)⟩, fb, mb, hand, m, fr, fun k => Sd k ∧ k < w'.heap.size, ops, h1, h2, h3.bound, h4, ⟨fun h => h5.1 h.1, fun h => h5.2.1 h.1, fun h => h5.2.2 h.1⟩, ?_, ?_⟩
  · rintro k (⟨h, hlt⟩ | rfl | rfl | rfl)
    · exact ⟨h6 k h, hlt⟩
    · exact ⟨.inl h7.1, h1.lt⟩
    · exact ⟨.inl h7.2.1, h1.ltF⟩
    · exact ⟨.inl h7.2.2, h1.ltM⟩
  · rintro k ⟨hk, hlt⟩
    refine ⟨hk.elim (fun h => (h8 k h).1) (fun h => ?_), hlt⟩
    have := h8 p h7.1
    omega
end

def PinPost (B : Nat) (S : Nat → Prop) (p d n : Nat) (C : Nat → List UInt8) (P : Nat → Nat) (N q : Nat) (w : World) (e : Ending) (w' : World) : Prop :=
  ∃ S', Turn S w S' w' ∧ (e = .returned (.int .i64 40) ∧ P q = 0 ∧ pinnedN P = n ∧ PoolSt B S' p d n C P N w' ∨ e = .returned (.int .i64 0) ∧ ¬ (P q = 0 ∧ pinnedN P = n) ∧ PoolSt B S' p d n C (upd P q (P q + 1)) (N + 1) w')

theorem upd_self {α : Type} (F : Nat → α) (f : Nat) : upd F f (F f) = F := by
  funext i
  by_cases h : i = f
  · subst h; rw [upd_same]
  · rw [upd_other _ _ h]
theorem late_some {fr fr' : Nat → Option Fr} (h : Late fr fr') {i : Nat} {f' : Fr} (hi : fr' i = some f') : ∃ f, fr i = some f ∧ f'.page = f.page ∧ f'.pins = f.pins ∧ f'.changed = f.changed ∧ f'.bytes = f.bytes := by
  obtain ⟨b, hb⟩ := h i
  rw [hi] at hb
  cases hf : fr i with
  | none => rw [hf] at hb; cases hb
  | some f => rw [hf] at hb; simp at hb; subst hb; exact ⟨f, rfl, rfl, rfl, rfl, rfl⟩
theorem late_back {fr fr' : Nat → Option Fr} (h : Late fr fr') {i : Nat} {f : Fr} (hi : fr i = some f) : ∃ b, fr' i = some { f with lately := b } := by
  obtain ⟨b, hb⟩ := h i
  rw [hi] at hb
  exact ⟨b, hb⟩

theorem pin_st (B : Nat) (S : Nat → Prop) (p d n : Nat) (C : Nat → List UInt8) (P : Nat → Nat) (N q : Nat) (w : World) (h : PoolSt B S p d n C P N w) (hN : N ≤ 4398046511104) (hq : q < 4096) :
    Calls Tryz.prog 101 #[.pointer (some ⟨p, 0, none⟩), .int .i64 q] w (PinPost B S p d n C P N q w) := by
  obtain ⟨fb, mb, hand, m, fr, Sd, ops, hG, hF, hD, hV, hO, hS, hB⟩ := h
  have hSS : S p ∧ S fb ∧ S mb := ⟨hS p (.inr (.inl rfl)), hS fb (.inr (.inr (.inl rfl))), hS mb (.inr (.inr (.inr rfl)))⟩
  by_cases hx : ∃ i f, fr i = some f ∧ f.page = q
  · -- a frame holds it
    obtain ⟨i, f, hi, rfl⟩ := hx
    obtain ⟨hin, _, hfb, _⟩ := hG.at_ i f hi
    obtain ⟨hC, hP, _⟩ := hV.held i f hi
    have hpn : f.pins ≤ N := by rw [← hP]; exact hV.bnd _
    refine (pin_held p d fb mb n hand m i fr f w hG hi (by omega)).mono ?_
    rintro e w' ⟨rfl, g1, g2⟩
    have hV2 := hV.turn hG.one hi hin (f' := { f with pins := f.pins + 1, lately := true }) rfl (fun h => ⟨h, rfl⟩) (by show f.pins + 1 ≤ N + 1; omega)
    have hC2 : upd C f.page f.bytes = C := by rw [← hC]; exact upd_self _ _
    have hV3 : View n (upd fr i (some { f with pins := f.pins + 1, lately := true })) ops C (upd P f.page (P f.page + 1)) (N + 1) := by
      rw [hP]; rw [show ({ f with pins := f.pins + 1, lately := true } : Fr).bytes = f.bytes from rfl, hC2] at hV2; exact hV2
    obtain ⟨S', hT, hSt⟩ := poolSt_mk (S := S) (B := B) (w := w) g1 ⟨hF.1, fun j => by
      rw [hF.2 j]
      by_cases hj : j = i
      · subst hj; rw [upd_same]; exact ⟨fun _ => ⟨_, rfl⟩, fun _ => ⟨f, hi⟩⟩
      · rw [upd_other _ _ hj]⟩ (hD.kept g2 (fun k _ hs e => hO.2.1 (e ▸ hs))) hV3 hO (fun k hk => .inl (hS k (.inl hk))) hSS hB (g2.mono (fun k hk => hk ▸ hSS.2.1))
    refine ⟨S', hT, .inr ⟨rfl, ?_, hSt⟩⟩
    rintro ⟨h0, h1⟩
    exact full_no hG hV hin (fun g hg => by rw [hi] at hg; cases hg; omega) h1
  · have hno : ∀ j f, fr j = some f → f.page ≠ q := fun j f hj e => hx ⟨j, f, hj, e⟩
    have hP0 := (hV.free q hno).2
    by_cases hm : m < n
    · -- a frame is free
      have hnone : fr m = none := by
        cases hf : fr m with
        | none => rfl
        | some f => have := (hF.2 m).2 ⟨f, hf⟩; omega
      have hs : Calls Tryz.prog 150 #[.pointer (some ⟨p, 0, none⟩)] w fun e w' => ∃ i hand' m' fr' S ops', e = .returned (ptrFr fb i) ∧ Spared S p d fb mb n q hand' m' fr' ops' i w' ∧ (i = m ∧ m' = m ∧ fr' = fr ∧ S = Sd ∧ ops' = ops ∧ w' = w) :=
        (spare_free p d fb mb n hand m fr w hG hm).mono fun e w' ⟨h1, h2⟩ => ⟨m, hand, m, fr, Sd, ops, h1, by subst h2; exact ⟨hG, hnone, hm, hF.1, hno, hD, hO.1, hO.2.1, hO.2.2⟩, rfl, rfl, rfl, rfl, rfl, h2⟩
      refine (pin_new p d fb mb n hand m fr q (fun i m' fr' S ops' w' => i = m ∧ m' = m ∧ fr' = fr ∧ S = Sd ∧ ops' = ops ∧ w' = w) w hG hq hno hs).mono ?_
      rintro e w' ⟨rfl, i, hand', m', fr', S2, ops', w1, _, ⟨hX1, hX2, hX3, hX4, hX5, hX6⟩, g1, g2, g3⟩
      subst hX2 hX3 hX4 hX5 hX6
      rw [hX1] at g1
      obtain ⟨S', hT, hSt⟩ := poolSt_mk (S := S) (B := B) (w := w1) g1 ⟨hm, fun j => by
        by_cases hj : j = m'
        · subst hj; rw [upd_same]; exact ⟨fun _ => ⟨_, rfl⟩, fun _ => by omega⟩
        · rw [upd_other _ _ hj, ← hF.2 j]; omega⟩ g2 (hV.load hnone hm hno) hO (fun k hk => .inl (hS k (.inl hk))) hSS hB (g3.mono (fun k hk => by rcases hk with rfl | rfl; exact hSS.2.1; exact hSS.2.2))
      refine ⟨S', hT, .inr ⟨rfl, ?_, ?_⟩⟩
      · rintro ⟨_, h1⟩
        exact full_no hG hV hm (fun g hg => by rw [hnone] at hg; cases hg) h1
      · rw [hP0]; exact hSt
    · have hmn : m = n := by have := hF.1; omega
      have hsp := spare_full p d fb mb n hand m fr Sd ops w hG hF hmn hD (by have := hV.cost; omega) hO.1 hO.2.1 hO.2.2
      by_cases hall : ∀ i, i < n → ∃ f, fr i = some f ∧ 0 < f.pins
      · -- all are pinned
        have hs : Calls Tryz.prog 150 #[.pointer (some ⟨p, 0, none⟩)] w fun e w' => e = .returned (.pointer none) ∧ ∃ hand' fr', Late fr fr' ∧ PoolG p d fb mb n hand' m fr' w' ∧ Kept (fun k => k = p ∨ k = fb) w w' := by
          refine hsp.mono ?_
          rintro e w' ⟨hand', fr', hL, he | ⟨i, f, S', hin, hi, hp, _⟩⟩
          · exact ⟨he.1, hand', fr', hL, he.2.1, he.2.2.2⟩
          · exfalso
            obtain ⟨f0, hf0, _, e2, _⟩ := late_some hL hi
            obtain ⟨g, hg, hgp⟩ := hall i hin
            rw [hf0] at hg; cases hg
            omega
        refine (pin_nil p d fb mb n hand m fr q (fun w' => ∃ hand' fr', Late fr fr' ∧ PoolG p d fb mb n hand' m fr' w' ∧ Kept (fun k => k = p ∨ k = fb) w w') w hG hq hno hs).mono ?_
        rintro e w' ⟨rfl, hand', fr', hL, g1, g2⟩
        obtain ⟨S', hT, hSt⟩ := poolSt_mk (S := S) (B := B) (w := w) g1 ⟨hF.1, fun j => by
          rw [hF.2 j]
          constructor
          · rintro ⟨f, hf⟩; obtain ⟨b, hb⟩ := late_back hL hf; exact ⟨_, hb⟩
          · rintro ⟨f, hf⟩; obtain ⟨f0, hf0, _⟩ := late_some hL hf; exact ⟨_, hf0⟩⟩ (hD.kept g2 (fun k _ hsd e => by rcases e with rfl | rfl; exact hO.1 hsd; exact hO.2.1 hsd)) (hV.late hL) hO (fun k hk => .inl (hS k (.inl hk))) hSS hB (g2.mono (fun k hk => by rcases hk with rfl | rfl; exact hSS.1; exact hSS.2.1))
        exact ⟨S', hT, .inl ⟨rfl, hP0, full_yes hG hV hall, hSt⟩⟩
      · -- one is taken from another page
        obtain ⟨i0, hi0, hp0⟩ : ∃ i, i < n ∧ ∀ f, fr i = some f → f.pins = 0 := by
          refine Classical.byContradiction fun hc => hall fun i hi => ?_
          obtain ⟨f, hf⟩ := (hF.2 i).1 (by omega)
          refine ⟨f, hf, ?_⟩
          refine Classical.byContradiction fun hc2 => hc ⟨i, hi, fun g hg => ?_⟩
          rw [hf] at hg; cases hg; omega
        have hs : Calls Tryz.prog 150 #[.pointer (some ⟨p, 0, none⟩)] w fun e w' => ∃ i hand' m' fr2 S2 ops', e = .returned (ptrFr fb i) ∧ Spared S2 p d fb mb n q hand' m' fr2 ops' i w' ∧
            (m' = m - 1 ∧ (∃ fr1 f, Late fr fr1 ∧ fr1 i = some f ∧ f.pins = 0 ∧ fr2 = upd fr1 i none ∧ ops' = saved f ops ∧ f.bytes.length = 512) ∧ Kept (fun k => Sd k ∨ k = p ∨ k = fb ∨ k = mb) w w' ∧ ∀ k, S2 k → Sd k ∨ w.heap.size ≤ k) := by
          refine hsp.mono ?_
          rintro e w' ⟨hand', fr', hL, ⟨_, _, ha, _⟩ | ⟨i, f, S2, hin, hi, hp, he, g1, g2, g3, g4⟩⟩
          · exfalso
            obtain ⟨f, hf⟩ := (hF.2 i0).1 (by omega)
            obtain ⟨b, hb⟩ := late_back hL hf
            have h1 := ha i0 _ hi0 hb
            have h2 := hp0 f hf
            simp only at h1
            omega
          · obtain ⟨f0, hf0, _, _, _, e4⟩ := late_some hL hi
            have hbl : f.bytes.length = 512 := by rw [e4]; exact (hG.at_ i f0 hf0).2.2.1
            refine ⟨i, hand', m - 1, upd fr' i none, S2, saved f ops, he, ⟨g1, upd_same _ _ _, hin, by omega, fun j g hg => ?_, g2, ?_, ?_, ?_⟩, rfl, ⟨fr', f, hL, hi, hp, rfl, rfl, hbl⟩, g3, g4⟩
            · by_cases hj : j = i
              · subst hj; rw [upd_same] at hg; cases hg
              · rw [upd_other _ _ hj] at hg
                obtain ⟨g0, hg0, e1, _⟩ := late_some hL hg
                rw [e1]; exact hno j g0 hg0
            · exact fun hh => (g4 p hh).elim hO.1 (by have := hG.lt; omega)
            · exact fun hh => (g4 fb hh).elim hO.2.1 (by have := hG.ltF; omega)
            · exact fun hh => (g4 mb hh).elim hO.2.2 (by have := hG.ltM; omega)
        refine (pin_new p d fb mb n hand m fr q _ w hG hq hno hs).mono ?_
        rintro e w' ⟨rfl, i, hand', m', fr2, S2, ops', w1, hSp, ⟨rfl, ⟨fr1, f, hL, hi, hp, rfl, rfl, hbl⟩, k1, k2⟩, g1, g2, g3⟩
        have one1 : ∀ a b x y, fr1 a = some x → fr1 b = some y → x.page = y.page → a = b := fun a b x y hx hy hxy => by
          obtain ⟨x0, hx0, ex, _⟩ := late_some hL hx
          obtain ⟨y0, hy0, ey, _⟩ := late_some hL hy
          exact hG.one a b x0 y0 hx0 hy0 (by omega)
        have hV1 := (hV.late hL).evict one1 hi hSp.lt hbl hp
        have hV2 := hV1.load hSp.none_ hSp.lt hSp.no
        have hn1 := hG.n1
        obtain ⟨S', hT, hSt⟩ := poolSt_mk (S := S) (B := B) (w := w) g1 ⟨by omega, fun j => by
          by_cases hj : j = i
          · subst hj; rw [upd_same]
            have := hSp.lt
            exact ⟨fun _ => ⟨_, rfl⟩, fun _ => by omega⟩
          · rw [upd_other _ _ hj, upd_other _ _ hj]
            rw [show j < m - 1 + 1 ↔ j < m from by omega, hF.2 j]
            constructor
            · rintro ⟨f, hf⟩; obtain ⟨b, hb⟩ := late_back hL hf; exact ⟨_, hb⟩
            · rintro ⟨f, hf⟩; obtain ⟨f0, hf0, _⟩ := late_some hL hf; exact ⟨_, hf0⟩⟩ g2 hV2 ⟨hSp.oP, hSp.oF, hSp.oM⟩ (fun k hk => (k2 k hk).imp (fun h => hS k (.inl h)) id) hSS hB
          ((k1.mono (fun k hk => hS k hk)).trans g3 (fun k hk => by rcases hk with rfl | rfl; exact .inl hSS.2.1; exact .inl hSS.2.2))
        refine ⟨S', hT, .inr ⟨rfl, ?_, ?_⟩⟩
        · rintro ⟨_, h1⟩
          exact full_no hG hV hi0 hp0 h1
        · rw [hP0]; exact hSt
end Go.Proofs.YtjhdfpchoepkaaaGreatDoor
