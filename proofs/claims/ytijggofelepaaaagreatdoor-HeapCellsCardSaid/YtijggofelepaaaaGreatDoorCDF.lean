/- Texts of the same proof, one behind the other: AG, AH, AI, AE. -/
import Derived.Test.YtijggofelepaaaaGreatDoorCDE
import Derived.StillTailTactics
import Derived.Test.YtijggofelepaaaaGreatDoorRows
import Derived.ProofKit
import Derived.SizedLaws
import Derived.LaidMore
import Derived.OpenShut
import Derived.Lib.SmallJoins
import Derived.Deep.Slices
import Derived.Deep.Fields
import Derived.ChangeSame
import Derived.Carry
/- The contract of the heap's Of: the row of bytes; other memory stands. -/
set_option maxRecDepth 100000
namespace Go.Proofs.YtijggofelepaaaaGreatDoor.Dm
open Go Go.RowKit

theorem isF_len : ∀ (n : Nat) (l : List UInt8) {p : List (Int × Int × ByteArray)} {m : Nat}, isF n l = some (p, m) → m ≤ l.length ∧ p.length = n
  | 0, l, p, m, h => by
    rw [isF] at h
    injection h with h
    injection h with h1 h2
    subst h1 h2
    exact ⟨Nat.zero_le _, rfl⟩
  | n + 1, l, p, m, h => by
    cases hit : itF l with
    | none => rw [isF_none hit] at h; cases h
    | some q =>
      obtain ⟨⟨k, i, t⟩, m1⟩ := q
      rw [isF_step hit] at h
      obtain ⟨⟨p2, m2⟩, h1, h2⟩ := Option.map_eq_some_iff.1 h
      injection h2 with h2 h3
      subst h2 h3
      obtain ⟨_, h4, h5⟩ := itF_some hit
      obtain ⟨h6, h7⟩ := isF_len n _ h1
      rw [List.length_drop] at h6
      exact ⟨by simp only; omega, by simp [h7]⟩
theorem ofF_len {l : List UInt8} {x : Int × Int × ByteArray} {is : List (Int × Int × ByteArray)} {m : Nat} (h : ofF l = some (x, is, m)) : 1 ≤ m ∧ m ≤ l.length := by
  unfold ofF at h
  split at h
  · obtain ⟨⟨p, m1⟩, h1, h2⟩ := Option.map_eq_some_iff.1 h
    injection h2 with _ h2
    injection h2 with _ h2
    subst h2
    match l with
    | [] => cases h1
    | [_] => cases h1
    | a :: d :: r =>
      rw [lsF] at h1
      split at h1
      · cases h1
      · obtain ⟨⟨p2, m2⟩, h3, h4⟩ := Option.map_eq_some_iff.1 h1
        injection h4 with _ h4
        subst h4
        have := (isF_len _ _ h3).1
        simp only [List.length_cons]
        exact ⟨by omega, by omega⟩
  · obtain ⟨⟨⟨k, i, t⟩, m1⟩, h1, h2⟩ := Option.map_eq_some_iff.1 h
    injection h2 with _ h2
    injection h2 with _ h2
    subst h2
    exact (itF_some h1).2

/-- A datum that was made by a call: its items in blocks from B on. -/
def InN (B : Nat) (w : World) (x : It) (c : Dt) : Prop := I64 x.n ∧ ∃ ys : List It, ys.length = x.ll ∧ SlG B w x.a ys ∧ AllI ys ∧ c = (x.k, x.n, x.s, ys.map itC)
theorem InN.inC {B : Nat} {w : World} {x : It} {c : Dt} (h : InN B w x c) : InC w x c := by
  obtain ⟨h1, ys, h2, h3, h4, h5⟩ := h
  exact ⟨h1, ys, h2, h3.sl, h4, h5⟩
theorem InN.below {B : Nat} {w w' : World} {x : It} {c : Dt} (h : InN B w x c) (hb : Below w.heap.size w w') : InN B w' x c := by
  obtain ⟨h1, ys, h2, h3, h4, h5⟩ := h
  exact ⟨h1, ys, h2, h3.below hb (Nat.le_refl _), h4, h5⟩
theorem InN.setCell {B : Nat} {w : World} {x : It} {c : Dt} (h : InN B w x c) {p : Addr} (hp : p.block < B) (v : Value) : InN B (w.setCell p v) x c := by
  obtain ⟨h1, ys, h2, h3, h4, h5⟩ := h
  exact ⟨h1, ys, h2, h3.setCell hp v, h4, h5⟩
/-- Data that were made by a call. -/
def AllN (B : Nat) (w : World) (acc : List It) (cs : List Dt) : Prop := acc.length = cs.length ∧ (∀ j (h : j < acc.length) (h2 : j < cs.length), InN B w (acc[j]'h) (cs[j]'h2)) ∧ ∀ c ∈ cs, c.few
theorem AllN.nil_ (B : Nat) (w : World) : AllN B w [] [] := ⟨rfl, fun j h => by simp at h, fun c h => by simp at h⟩
theorem AllN.below {B : Nat} {w w' : World} {acc : List It} {cs : List Dt} (h : AllN B w acc cs) (hb : Below w.heap.size w w') : AllN B w' acc cs := ⟨h.1, fun j h1 h2 => (h.2.1 j h1 h2).below hb, h.2.2⟩
theorem AllN.setCell {B : Nat} {w : World} {acc : List It} {cs : List Dt} (h : AllN B w acc cs) {p : Addr} (hp : p.block < B) (v : Value) : AllN B (w.setCell p v) acc cs := ⟨h.1, fun j h1 h2 => (h.2.1 j h1 h2).setCell hp v, h.2.2⟩
theorem AllN.snoc {B : Nat} {w : World} {acc : List It} {cs : List Dt} {x : It} {c : Dt} (h : AllN B w acc cs) (hx : InN B w x c) (hf : c.few) : AllN B w (acc ++ [x]) (cs ++ [c]) := by
  refine ⟨by simp [h.1], fun j h1 h2 => ?_, fun d hd => ?_⟩
  · by_cases hj : j < acc.length
    · rw [List.getElem_append_left hj, List.getElem_append_left (by rw [← h.1]; exact hj)]
      exact h.2.1 j hj _
    · have hj' : j = acc.length := by simp at h1; omega
      subst hj'
      rw [List.getElem_append_right (Nat.le_refl _), List.getElem_append_right (by rw [h.1]; exact Nat.le_refl _)]
      simp only [Nat.sub_self, List.getElem_cons_zero, h.1]
      exact hx
  · rcases List.mem_append.1 hd with hd | hd
    · exact h.2.2 d hd
    · rw [List.mem_singleton] at hd; subst hd; exact hf

theorem Row0.storeL {w : World} {G D : Nat} {acc : List It} (h : Row0 w G D acc) (hlt : acc.length < D) (x : It) : Row0 (st4 w G (acc.length * 4) (.int .i64 x.k) (.int .i64 x.n) (.string x.s) (.slice x.a x.ll x.lc)) G D (acc ++ [x]) := by
  rw [st4_eq]
  have hin := World.cell?_setCells_in G [.int .i64 x.k, .int .i64 x.n, .string x.s, .slice x.a x.ll x.lc] (acc.length * 4) w (by
    obtain ⟨e0, e1, e2, e3⟩ := h.zero acc.length (Nat.le_refl _) hlt
    intro j hj
    have hq : j = 0 ∨ j = 1 ∨ j = 2 ∨ j = 3 := by simp only [List.length_cons, List.length_nil] at hj; omega
    rcases hq with rfl | rfl | rfl | rfl
    · rw [Nat.add_zero, e0]; rfl
    · rw [e1]; rfl
    · rw [e2]; rfl
    · rw [e3]; rfl)
  have hout : ∀ o, o < acc.length * 4 ∨ acc.length * 4 + 4 ≤ o → (w.setCells G (acc.length * 4) [.int .i64 x.k, .int .i64 x.n, .string x.s, .slice x.a x.ll x.lc]).cell? ⟨G, o, none⟩ = w.cell? ⟨G, o, none⟩ := fun o ho =>
    World.cell?_setCells_out G _ _ w ⟨G, o, none⟩ (fun _ _ => ho)
  refine ⟨fun j hj => ?_, fun q h1 h2 => ?_, fun o => by rw [World.frozen?_setCells]; exact h.cold o⟩
  · simp only [List.length_append, List.length_singleton] at hj
    by_cases hj' : j < acc.length
    · obtain ⟨e0, e1, e2, e3⟩ := h.got j hj'
      have e : (acc ++ [x])[j]'(by simp; omega) = acc[j] := List.getElem_append_left hj'
      rw [e]
      exact ⟨(hout _ (by omega)).trans e0, (hout _ (by omega)).trans e1, (hout _ (by omega)).trans e2, (hout _ (by omega)).trans e3⟩
    · obtain rfl : j = acc.length := by omega
      have e : (acc ++ [x])[acc.length]'(by simp) = x := by simp
      rw [e, Nat.zero_add]
      exact ⟨hin 0 (by simp), hin 1 (by simp), hin 2 (by simp), hin 3 (by simp)⟩
  · simp only [List.length_append, List.length_singleton] at h1
    obtain ⟨e0, e1, e2, e3⟩ := h.zero q (by omega) h2
    exact ⟨(hout _ (by omega)).trans e0, (hout _ (by omega)).trans e1, (hout _ (by omega)).trans e2, (hout _ (by omega)).trans e3⟩

/-- What Of of a row leaves. -/
def RowPost (s : List UInt8) (w : World) (e : Ending) (w' : World) : Prop :=
  Below w.heap.size w w' ∧ ((rowF s = none ∧ e = .returned (.tuple #[.slice none 0 0, .int .i64 70])) ∨
    ∃ (a : Option Addr) (xs : List It) (lc : Nat) (cs : List Dt), rowF s = some cs ∧ e = .returned (.tuple #[.slice a xs.length lc, .int .i64 0]) ∧ DsR w' a xs cs ∧ ∀ c ∈ cs, c.few)
/-- How far a row's bytes are read. -/
def ReadTo (l : List UInt8) (D : Nat) (cs : List Dt) (at' : Nat) : Prop := dsF D (l.drop 1) = (dsF (D - cs.length) (l.drop at')).map fun p => (cs ++ p.1, (at' - 1) + p.2)
theorem ReadTo.zero (l : List UInt8) (D : Nat) : ReadTo l D [] 1 := by
  unfold ReadTo
  simp
theorem ReadTo.none_ {l : List UInt8} {D at' : Nat} {cs : List Dt} (h : ReadTo l D cs at') (hlt : cs.length < D) (ho : ofF (l.drop at') = none) : dsF D (l.drop 1) = none := by
  obtain ⟨c, hc⟩ : ∃ c, D - cs.length = c + 1 := ⟨D - cs.length - 1, by omega⟩
  rw [h, hc, dsF_none ho]; rfl
theorem ReadTo.step {l : List UInt8} {D at' m : Nat} {cs : List Dt} {x : Int × Int × ByteArray} {is : List (Int × Int × ByteArray)} (h : ReadTo l D cs at') (h1 : 1 ≤ at') (hlt : cs.length < D) (ho : ofF (l.drop at') = some (x, is, m)) : ReadTo l D (cs ++ [dtF x is]) (at' + m) := by
  obtain ⟨c, hc⟩ : ∃ c, D - cs.length = c + 1 := ⟨D - cs.length - 1, by omega⟩
  unfold ReadTo
  rw [h, hc, dsF_step ho, List.drop_drop, show D - (cs ++ [dtF x is]).length = c by simp; omega, Option.map_map]
  congr 1
  funext p
  simp only [Function.comp, List.append_assoc, List.cons_append, List.nil_append]
  refine Prod.ext rfl ?_
  show at' - 1 + (m + p.2) = at' + m - 1 + p.2
  omega
theorem ReadTo.end_ {l : List UInt8} {D at' : Nat} {cs : List Dt} (h : ReadTo l D cs at') (hD : cs.length = D) : dsF D (l.drop 1) = some (cs, at' - 1) := by
  rw [h, hD, Nat.sub_self, dsF]
  simp
theorem rowF_cons {l : List UInt8} {c : UInt8} {r : List UInt8} (hl : l = c :: r) (h1 : l.length ≤ 400) (h2 : c.toNat ≤ 4) : rowF l = match dsF c.toNat (l.drop 1) with
    | none => none
    | some (ds, m) => if 1 + m = l.length then some ds else none := by
  subst hl
  unfold rowF
  simp only [List.length_cons] at h1
  simp only [List.drop_one, List.tail_cons, List.length_cons]
  rw [if_neg (by omega)]
  cases dsF c.toNat r <;> rfl
theorem dtF_of {k n : Int} {t : ByteArray} {xs : List It} (h : Fre xs) : dtF (k, n, t) (xs.map cont) = (k, n, t, xs.map itC) := by
  unfold dtF
  rw [itC_fre h]

set_option maxHeartbeats 3200000 in
theorem hof_row (s : ByteArray) (w : World) : Calls Tryz.prog 30 #[.string s] w (RowPost s.data.toList w) := by
  have HLEN := Lib.hid (toList_size s)
  by_cases h0 : s.size = 0
  · obtain rfl : s = ⟨#[]⟩ := by
      obtain ⟨d⟩ := s
      have : d = #[] := Array.eq_empty_of_size_eq_zero h0
      rw [this]
    go_enter Tryz.func30, Tryz.ntmps30
    go_wp2
    go_ret2
    exact ⟨Below.refl _ _, .inl ⟨rfl, rfl⟩⟩
  obtain ⟨c0, r, hl⟩ : ∃ c r, s.data.toList = c :: r := by
    match hl : s.data.toList with
    | [] => have := HLEN.out; rw [hl] at this; exact absurd this.symm h0
    | c :: r => exact ⟨c, r, rfl⟩
  have hp : 0 < s.size := by omega
  have hb0 : s[0] = c0 := first_cons hl hp
  have hz2 : s.toList ≠ [] := by rw [ByteArray.toList_eq, hl]; simp
  have hz3 : s.toList.isEmpty = false := by rw [ByteArray.toList_eq, hl]; rfl
  by_cases h4 : 400 < s.size
  · have HN : Hid (rowF s.data.toList = none) := Lib.hid (by
      have := HLEN.out
      rw [hl] at this ⊢
      unfold rowF
      simp only [List.length_cons] at this
      simp only
      rw [if_pos (.inl (by omega))])
    have f1 : (400 : Int) < (s.size : Int) := by omega
    clear hl hb0
    go_enter Tryz.func30, Tryz.ntmps30
    go_wp2
    go_ret2
    exact ⟨Below.refl _ _, .inl ⟨HN.out, rfl⟩⟩
  have f1 : ¬ (400 : Int) < (s.size : Int) := by omega
  by_cases h5 : 4 < c0.toNat
  · have HN : Hid (rowF s.data.toList = none) := Lib.hid (by
      rw [hl]
      unfold rowF
      simp only
      rw [if_pos (.inr h5)])
    have b4 : (4 : Int) < (s[0].toNat : Int) := by rw [hb0]; omega
    clear hl hb0
    go_enter Tryz.func30, Tryz.ntmps30
    go_wp2
    go_ret2
    exact ⟨Below.refl _ _, .inl ⟨HN.out, rfl⟩⟩
  obtain ⟨D, hD⟩ : ∃ D : Nat, D = s[0].toNat := ⟨_, rfl⟩
  have hD4 : D ≤ 4 := by rw [hD, hb0]; omega
  have b4 : ¬ (4 : Int) < (s[0].toNat : Int) := by omega
  have HF : Hid (rowF s.data.toList = match dsF D (s.data.toList.drop 1) with
      | none => none
      | some (ds, m) => if 1 + m = s.size then some ds else none) := Lib.hid (by
    rw [hD, hb0, rowF_cons hl (by rw [HLEN.out]; omega) (by omega), HLEN.out])
  have hmk := mkd D (by omega) w
  have HRZ := Lib.hid (row0_start w D (by omega))
  rw [hD] at hmk
  clear hl hb0 h5
  go_enter Tryz.func30, Tryz.ntmps30
  go_wp2
  rw [← hD]
  have HD := Lib.hid hD; clear hD hmk
  go_loopw [5, 6, 7, 8, 9, 27] (fun vat _ _ _ _ vi wr => ∃ (at' : Nat) (acc : List It) (cs : List Dt), vi = .int .i64 acc.length ∧ vat = .int .i64 at' ∧ acc.length ≤ D ∧ 1 ≤ at' ∧ at' ≤ s.size ∧ w.heap.size < wr.heap.size ∧ Hid (ReadTo s.data.toList D cs at') ∧ Hid (AllN (w.heap.size + 1) wr acc cs) ∧ Hid (Row0 wr w.heap.size D acc) ∧ Hid (Below w.heap.size w wr)) (fun _ _ _ _ _ i _ => D - (intOf i).toNat)
  case atStart => exact ⟨1, [], [], rfl, rfl, Nat.zero_le _, Nat.le_refl _, by omega, by simp, Lib.hid (ReadTo.zero _ _), Lib.hid (AllN.nil_ _ _), HRZ, Lib.hid ((Below.refl _ _).alloc (Nat.le_refl _) _)⟩
  case round =>
    obtain ⟨at', acc, cs, rfl, rfl, h1, h2a, h2b, hsz, HQ, HA, HRW, HB⟩ := hrel
    clear HRZ
    by_cases hlt : acc.length < D
    · have f2 : (acc.length : Int) < (D : Int) := by omega
      have HOF := Lib.hid (of_any (s.extract at' s.size) wr (extract_small s at' (by omega)))
      rw [extract_drop] at HOF
      go_wp2_with fail
      refine HOF.out.mono ?_
      rintro e w1 ⟨hb1, hpost⟩
      have hz1 := hb1.size
      have HR1 := Lib.hid (HRW.out.below hb1 hsz)
      have HA1 := Lib.hid (HA.out.below hb1)
      have HB1 := Lib.hid (HB.out.trans (hb1.mono HB.out.size))
      have HP := Lib.hid hpost
      clear hb1 hpost HOF HRW HA HB
      rcases HP.out with ⟨hno, rfl⟩ | ⟨k, n, t, a, xs, lc, m, ho, rfl, hn, hfr, h8, hsl⟩
      · have HN : Hid (rowF s.data.toList = none) := Lib.hid (by
          rw [HF.out, HQ.out.none_ (by rw [← HA1.out.1]; exact hlt) hno])
        have HE := Lib.hid (HB1.out.alloc (by omega) (.cells #[.int .i64 0, .int .i64 0, .string ⟨#[]⟩, .slice none 0 0] 130))
        clear hno HP
        go_wp2
        go_ret2
        exact ⟨HE.out, .inl ⟨HN.out, rfl⟩⟩
      · obtain ⟨hm1, hm2⟩ := ofF_len ho
        rw [List.length_drop, HLEN.out] at hm2
        have HX : Hid (InN (w.heap.size + 1) w1 ⟨k, n, t, a, xs.length, lc⟩ (dtF (k, n, t) (xs.map cont))) := Lib.hid ⟨hn, xs, rfl, hsl.weak (by omega), hfr.allI, by rw [dtF_of hfr]⟩
        have HQ2 := Lib.hid (HQ.out.step h2a (by rw [← HA1.out.1]; exact hlt) ho)
        have HA2 := Lib.hid (HA1.out.snoc HX.out (few_f _ (by rw [List.length_map]; exact h8)))
        obtain ⟨nl, hnl⟩ : ∃ nl, nl = xs.length := ⟨_, rfl⟩
        rw [← hnl] at HA2 ⊢
        obtain ⟨cx, hcx⟩ : ∃ cx, cx = dtF (k, n, t) (xs.map cont) := ⟨_, rfl⟩
        rw [← hcx] at HA2 HQ2
        have hba := (Below.refl w1.heap.size w1).alloc (Nat.le_refl _) (.cells #[.int .i64 k, .int .i64 n, .string t, .slice a nl lc] 130)
        have HR2 := Lib.hid (HR1.out.below hba (by omega))
        have HR3 := Lib.hid (HR2.out.storeL hlt ⟨k, n, t, a, nl, lc⟩)
        have HA3 := Lib.hid ((((((HA2.out.below hba).setCell (p := ⟨w.heap.size, acc.length * 4, none⟩) (Nat.lt_succ_self _) (.int .i64 k)).setCell (p := ⟨w.heap.size, acc.length * 4 + 1, none⟩) (Nat.lt_succ_self _) (.int .i64 n)).setCell (p := ⟨w.heap.size, acc.length * 4 + 2, none⟩) (Nat.lt_succ_self _) (.string t)).setCell (p := ⟨w.heap.size, acc.length * 4 + 3, none⟩) (Nat.lt_succ_self _) (.slice a nl lc)))
        obtain ⟨e0, e1, e2, e3⟩ := HR2.out.zero acc.length (Nat.le_refl _) hlt
        have g0 := HR2.out.cold (acc.length * 4)
        have g1 := HR2.out.cold (acc.length * 4 + 1)
        have g2 := HR2.out.cold (acc.length * 4 + 2)
        have g3 := HR2.out.cold (acc.length * 4 + 3)
        clear ho hn hfr h8 hsl HP hnl hcx HX HA2 HQ HR1 HA1 hba
        go_wp2
        go_roundw
        case rel =>
          refine ⟨at' + m, acc ++ [⟨k, n, t, a, nl, lc⟩], cs ++ [cx], by rw [List.length_append]; go_num, by go_num, by simp; omega, by omega, by omega, ?_, HQ2, HA3, HR3, ?_⟩
          · simp [World.setCell]; omega
          · exact Lib.hid ((((((HB1.out.alloc (by omega) _).setCell (p := ⟨w.heap.size, _, none⟩) (Nat.le_refl _) _).setCell (p := ⟨w.heap.size, _, none⟩) (Nat.le_refl _) _).setCell (p := ⟨w.heap.size, _, none⟩) (Nat.le_refl _) _).setCell (p := ⟨w.heap.size, _, none⟩) (Nat.le_refl _) _))
        case measure => simp [intOf]; omega
    · have f2 : ¬ (acc.length : Int) < (D : Int) := by omega
      have hcD : cs.length = D := by have := HA.out.1; omega
      have HE : Hid (rowF s.data.toList = if at' = s.size then some cs else none) := Lib.hid (by
        rw [HF.out, HQ.out.end_ hcD]
        simp only
        rw [show 1 + (at' - 1) = at' by omega])
      have HDS : Hid (DsR wr (some ⟨w.heap.size, 0, none⟩) acc cs) := Lib.hid ⟨.inr ⟨w.heap.size, 0, rfl, hsz, HRW.out.got⟩, HA.out.1, fun j h h' => (HA.out.2.1 j h h').inC⟩
      have HFW := Lib.hid HA.out.2.2
      by_cases hat : at' = s.size
      · have f3 : ((at' : Int) != (s.size : Int)) = false := by simpa using (by omega : (at' : Int) = (s.size : Int))
        have f4 : (at' : Int) = (s.size : Int) := by omega
        have HN := Lib.hid (HE.out.trans (if_pos hat))
        have hDa : D = acc.length := by omega
        subst hDa
        clear HE HQ HA HRW hat
        go_wp2
        go_ret2
        exact ⟨HB.out, .inr ⟨_, acc, acc.length, cs, HN.out, rfl, HDS.out, HFW.out⟩⟩
      · have f3 : ((at' : Int) != (s.size : Int)) = true := by simpa using (by omega : ¬ (at' : Int) = (s.size : Int))
        have f4 : ¬ (at' : Int) = (s.size : Int) := by omega
        have HN := Lib.hid (HE.out.trans (if_neg hat))
        clear HE HQ HA HRW hat
        go_wp2
        go_ret2
        exact ⟨HB.out, .inl ⟨HN.out, rfl⟩⟩
end Go.Proofs.YtijggofelepaaaaGreatDoor.Dm

/- The contract of the document's Of: the row of bytes; other memory stands. -/
set_option maxRecDepth 100000
namespace Go.Proofs.YtijggofelepaaaaGreatDoor.Dm
open Go Go.RowKit

theorem extract_le (s : ByteArray) (j : Nat) : (s.extract j s.size).size ≤ s.size := by
  have e1 : (s.extract j s.size).size = (s.extract j s.size).data.toList.length := rfl
  have e2 : s.data.toList.length = s.size := rfl
  rw [e1, extract_drop, List.length_drop]
  omega
/-- No item's own list lies in the row's block. -/
def Off (acc : List It) (v : Value) : Prop := ∀ x ∈ acc, x.ll ≠ 0 → ∀ b o, x.a = some ⟨b, o, none⟩ → v.ownBlock ≠ some b
theorem InN.kept {B : Nat} {w w' : World} {x : It} {c : Dt} (h : InN B w x c) (hs : w.heap.size ≤ w'.heap.size) (hk : x.ll ≠ 0 → ∀ b o, x.a = some ⟨b, o, none⟩ → b < w.heap.size → w'.heap[b]? = w.heap[b]?) : InN B w' x c := by
  obtain ⟨h1, ys, h2, h3, h4, h5⟩ := h
  refine ⟨h1, ys, h2, ?_, h4, h5⟩
  rcases h3 with h3 | ⟨b, off, e1, e2, e3, e4⟩
  · exact .inl h3
  · by_cases h0 : x.ll = 0
    · exact .inl (List.eq_nil_of_length_eq_zero (by omega))
    · have hb := hk h0 b off e1 e3
      refine .inr ⟨b, off, e1, e2, by omega, fun j hj => ?_⟩
      obtain ⟨a0, a1, a2, a3⟩ := e4 j hj
      have hh : ∀ i, w'.cell? ⟨b, i, none⟩ = w.cell? ⟨b, i, none⟩ := fun i => World.cell?_of_block hb
      exact ⟨(hh _).trans a0, (hh _).trans a1, (hh _).trans a2, (hh _).trans a3⟩
theorem AllN.kept {B : Nat} {w w' : World} {acc : List It} {cs : List Dt} {v : Value} (h : AllN B w acc cs) (hf : Off acc v) (hs : w.heap.size ≤ w'.heap.size) (hk : ∀ k, k < w.heap.size → v.ownBlock ≠ some k → w'.heap[k]? = w.heap[k]?) : AllN B w' acc cs :=
  ⟨h.1, fun j h1 h2 => (h.2.1 j h1 h2).kept hs fun h0 b o e hb => hk b hb (hf _ (List.getElem_mem h1) h0 b o e), h.2.2⟩
theorem InN.lt {B : Nat} {w : World} {x : It} {c : Dt} (h : InN B w x c) (h0 : x.ll ≠ 0) {b o : Nat} (e : x.a = some ⟨b, o, none⟩) : B ≤ b ∧ b < w.heap.size := by
  obtain ⟨h1, ys, h2, h3, h4, h5⟩ := h
  rcases h3 with h3 | ⟨b', off, e1, e2, e3, e4⟩
  · rw [h3] at h2; exact absurd h2.symm h0
  · rw [e1] at e
    injection e with e
    injection e with e e'
    subst e
    exact ⟨e2, e3⟩
/-- One datum more in a row. -/
theorem data_push (ty : TypeId) {w : World} {v : Value} {acc : List It} (h : w.ownsRow 0 130 4 v acc.length (itVals acc)) (x : It) (hl : acc.length ≤ 100000) :
    ∃ v' w', (Builtin.append_ #[82, 82] ty #[v, .slice (some ⟨w.heap.size, 0, none⟩) 1 1]).run Tryz.prog (w.alloc (.cells #[.int .i64 x.k, .int .i64 x.n, .string x.s, .slice x.a x.ll x.lc] 130)) = .ok v' w' ∧ w'.ownsRow 0 130 4 v' (acc ++ [x]).length (itVals (acc ++ [x])) ∧
      (∀ g, v'.ownBlock = some g → v.ownBlock = some g ∨ w.heap.size ≤ g) ∧ w.heap.size ≤ w'.heap.size ∧ (∀ k, k < w.heap.size → v.ownBlock ≠ some k → w'.heap[k]? = w.heap[k]?) ∧ w'.os = w.os ∧ w'.tape = w.tape ∧ w'.output = w.output := by
  obtain ⟨i0, hi, q0, q1, q2⟩ := info_parts infoDat
  have hba := (Below.refl w.heap.size w).alloc (Nat.le_refl _) (.cells #[.int .i64 x.k, .int .i64 x.n, .string x.s, .slice x.a x.ll x.lc] 130)
  obtain ⟨v', w', hr, h1, h2⟩ := append_own2 (w.alloc (.cells #[.int .i64 x.k, .int .i64 x.n, .string x.s, .slice x.a x.ll x.lc] 130)) 82 ty 130 i0 (.agg #[.int .i64 0, .int .i64 0, .string ⟨#[]⟩, .slice none 0 0]) 4 56 Tryz.underlying82 hi q0 q1 q2 rfl (by decide) v acc.length (itVals acc) (ownsRow_below' h hba) ⟨w.heap.size, 0, none⟩ 1 1 [.int .i64 x.k, .int .i64 x.n, .string x.s, .slice x.a x.ll x.lc] rfl (fun j u hu => by
    rw [show (⟨w.heap.size, 0, none⟩ : Addr).add j = ⟨w.heap.size, 0 + j, none⟩ from Addr.add_lit _ _ _, Nat.zero_add, Lib.cell_of_heap (new_heap w _), ← hu]
    match j with
    | 0 => rfl
    | 1 => rfl
    | 2 => rfl
    | 3 => rfl
    | j + 4 => simp) (fun u hu => by
    simp only [List.mem_cons, List.not_mem_nil, or_false] at hu
    rcases hu with rfl | rfl | rfl | rfl <;> rfl) (by unfold maxLen; omega) (by omega) (by omega)
  refine ⟨v', w', hr, by rw [itVals_snoc, List.length_append]; exact h1, fun g hg => ?_, ?_, fun k hk hne => ?_, h2.1.os, h2.1.tape, h2.1.output⟩
  · rcases h2.2 g hg with h3 | h3
    · exact .inl h3
    · right; simp at h3; omega
  · have := h2.1.size; simp at this; omega
  · exact (h2.1.block k (by simp; omega) (fun e => hne e.symm)).trans (Below.heap_alloc w _ k (by omega))

set_option maxHeartbeats 3200000 in
theorem rof_row (s : ByteArray) (w : World) : Calls Tryz.prog 31 #[.string s] w (RowPost s.data.toList w) := by
  have HLEN := Lib.hid (toList_size s)
  by_cases h0 : s.size = 0
  · obtain rfl : s = ⟨#[]⟩ := by
      obtain ⟨d⟩ := s
      have : d = #[] := Array.eq_empty_of_size_eq_zero h0
      rw [this]
    go_enter Tryz.func31, Tryz.ntmps31
    go_wp2
    go_ret2
    exact ⟨Below.refl _ _, .inl ⟨rfl, rfl⟩⟩
  obtain ⟨c0, r, hl⟩ : ∃ c r, s.data.toList = c :: r := by
    match hl : s.data.toList with
    | [] => have := HLEN.out; rw [hl] at this; exact absurd this.symm h0
    | c :: r => exact ⟨c, r, rfl⟩
  have hp : 0 < s.size := by omega
  have hb0 : s[0] = c0 := first_cons hl hp
  have hz2 : s.toList ≠ [] := by rw [ByteArray.toList_eq, hl]; simp
  have hz3 : s.toList.isEmpty = false := by rw [ByteArray.toList_eq, hl]; rfl
  by_cases h4 : 400 < s.size
  · have HN : Hid (rowF s.data.toList = none) := Lib.hid (by
      have := HLEN.out
      rw [hl] at this ⊢
      unfold rowF
      simp only [List.length_cons] at this
      simp only
      rw [if_pos (.inl (by omega))])
    have f1 : (400 : Int) < (s.size : Int) := by omega
    clear hl hb0
    go_enter Tryz.func31, Tryz.ntmps31
    go_wp2
    go_ret2
    exact ⟨Below.refl _ _, .inl ⟨HN.out, rfl⟩⟩
  have f1 : ¬ (400 : Int) < (s.size : Int) := by omega
  by_cases h5 : 4 < c0.toNat
  · have HN : Hid (rowF s.data.toList = none) := Lib.hid (by
      rw [hl]
      unfold rowF
      simp only
      rw [if_pos (.inr h5)])
    have b4 : (4 : Int) < (s[0].toNat : Int) := by rw [hb0]; omega
    clear hl hb0
    go_enter Tryz.func31, Tryz.ntmps31
    go_wp2
    go_ret2
    exact ⟨Below.refl _ _, .inl ⟨HN.out, rfl⟩⟩
  obtain ⟨D, hD⟩ : ∃ D : Nat, D = s[0].toNat := ⟨_, rfl⟩
  have hD4 : D ≤ 4 := by rw [hD, hb0]; omega
  have b4 : ¬ (4 : Int) < (s[0].toNat : Int) := by omega
  have HF : Hid (rowF s.data.toList = match dsF D (s.data.toList.drop 1) with
      | none => none
      | some (ds, m) => if 1 + m = s.size then some ds else none) := Lib.hid (by
    rw [hD, hb0, rowF_cons hl (by rw [HLEN.out]; omega) (by omega), HLEN.out]
    try (cases dsF c0.toNat (List.drop 1 s.data.toList) <;> rfl))
  have hDi : (s[0].toNat : Int) = (D : Int) := by rw [hD]
  clear hl hb0 h5 hD
  go_enter Tryz.func31, Tryz.ntmps31
  go_wp2
  go_loopw [4, 5, 6, 7, 8, 9] (fun vl vat vi _ _ _ wr => ∃ (at' : Nat) (acc : List It) (cs : List Dt) (va : Option Addr) (vc : Nat), vi = .int .i64 acc.length ∧ vat = .int .i64 at' ∧ vl = .slice va acc.length vc ∧ acc.length ≤ D ∧ 1 ≤ at' ∧ at' ≤ s.size ∧ Hid (ReadTo s.data.toList D cs at') ∧ Hid (AllN w.heap.size wr acc cs) ∧ Hid (wr.ownsRow 0 130 4 (.slice va acc.length vc) acc.length (itVals acc)) ∧ Hid (Off acc (.slice va acc.length vc)) ∧ Hid (∀ g, (Value.slice va acc.length vc).ownBlock = some g → w.heap.size ≤ g) ∧ Hid (Below w.heap.size w wr)) (fun _ _ i _ _ _ _ => D - (intOf i).toNat)
  case atStart => exact ⟨1, [], [], none, 0, rfl, rfl, rfl, Nat.zero_le _, Nat.le_refl _, by omega, Lib.hid (ReadTo.zero _ _), Lib.hid (AllN.nil_ _ _), Lib.hid (World.ownsRow_nil _ _ _ _), Lib.hid (fun x hx => by simp at hx), Lib.hid (fun g hg => by simp [Value.ownBlock] at hg), Lib.hid (Below.refl _ _)⟩
  case round =>
    obtain ⟨at', acc, cs, va, vc, rfl, rfl, rfl, h1, h2a, h2b, HQ, HA, HRW, HOFF, HGB, HB⟩ := hrel
    by_cases hlt : acc.length < D
    · have f2 : (acc.length : Int) < (D : Int) := by omega
      have HOF := Lib.hid (rof_any (s.extract at' s.size) wr (Nat.le_trans (extract_le s at') (by omega)))
      rw [extract_drop] at HOF
      go_wp2_with fail
      refine HOF.out.mono ?_
      rintro e w1 ⟨hb1, hpost⟩
      have hz1 := hb1.size
      have HR1 := Lib.hid (ownsRow_below' HRW.out hb1)
      have HA1 := Lib.hid (HA.out.below hb1)
      have HB1 := Lib.hid (HB.out.trans (hb1.mono HB.out.size))
      have hzw := HB.out.size
      have HP := Lib.hid hpost
      have HLT := Lib.hid (fun g hg => (World.ownsRow.lt HRW.out g hg).2)
      clear hb1 hpost HOF HRW HA HB
      rcases HP.out with ⟨hno, rfl⟩ | ⟨k, n, t, a, xs, lc, m, ho, rfl, hn, hfr, h8, hsl⟩
      · have HN : Hid (rowF s.data.toList = none) := Lib.hid (by
          rw [HF.out, HQ.out.none_ (by rw [← HA1.out.1]; exact hlt) hno])
        have HE := Lib.hid (HB1.out.alloc (by omega) (.cells #[.int .i64 0, .int .i64 0, .string ⟨#[]⟩, .slice none 0 0] 130))
        clear hno HP
        go_wp2
        go_ret2
        exact ⟨HE.out, .inl ⟨HN.out, rfl⟩⟩
      · obtain ⟨hm1, hm2⟩ := ofF_len ho
        rw [List.length_drop, HLEN.out] at hm2
        have HX : Hid (InN w.heap.size w1 ⟨k, n, t, a, xs.length, lc⟩ (dtF (k, n, t) (xs.map cont))) := Lib.hid ⟨hn, xs, rfl, hsl.weak (by omega), hfr.allI, by rw [dtF_of hfr]⟩
        have HQ2 := Lib.hid (HQ.out.step h2a (by rw [← HA1.out.1]; exact hlt) ho)
        have HA2 := Lib.hid (HA1.out.snoc HX.out (few_f _ (by rw [List.length_map]; exact h8)))
        obtain ⟨nl, hnl⟩ : ∃ nl, nl = xs.length := ⟨_, rfl⟩
        rw [← hnl] at HA2 ⊢
        obtain ⟨cx, hcx⟩ : ∃ cx, cx = dtF (k, n, t) (xs.map cont) := ⟨_, rfl⟩
        rw [← hcx] at HA2 HQ2
        have HXN : Hid (InN wr.heap.size w1 ⟨k, n, t, a, nl, lc⟩ (dtF (k, n, t) (xs.map cont))) := Lib.hid ⟨hn, xs, hnl.symm, hsl, hfr.allI, by rw [dtF_of hfr]⟩
        obtain ⟨v2, w2, hr, hO2, hg2, hs2, hk2, o1, o2, o3⟩ := data_push 82 (ownsRow_below' HR1.out ((Below.refl w1.heap.size w1).alloc (Nat.le_refl _) (.cells #[.int .i64 k, .int .i64 n, .string t, .slice a nl lc] 130))) ⟨k, n, t, a, nl, lc⟩ (by omega)
        obtain ⟨va2, vc2, rfl⟩ : ∃ va2 vc2, v2 = .slice va2 (acc.length + 1) vc2 := by
          rcases hO2.2 with ⟨e1, e2⟩ | ⟨g', cap', cur, hv, _⟩
          · simp at e2
          · exact ⟨_, cap', by rw [hv, List.length_append]; rfl⟩
        simp only [World.size_alloc] at hr hg2 hs2 hk2
        have hk3 : ∀ q, q < w1.heap.size → (Value.slice va acc.length vc).ownBlock ≠ some q → w2.heap[q]? = w1.heap[q]? := fun q hq hne => (hk2 q (by omega) hne).trans (Below.heap_alloc w1 _ q (by omega))
        have HOF2 : Hid (Off (acc ++ [(⟨k, n, t, a, nl, lc⟩ : It)]) (.slice va acc.length vc)) := Lib.hid (fun x hx h0 b o e => by
          rcases List.mem_append.1 hx with hx | hx
          · exact HOFF.out x hx h0 b o e
          · rw [List.mem_singleton] at hx
            subst hx
            intro hb
            have h3 := HLT.out b hb
            have h4 := (HXN.out.lt h0 e).1
            omega)
        have HLB : Hid (∀ x ∈ acc ++ [(⟨k, n, t, a, nl, lc⟩ : It)], x.ll ≠ 0 → ∀ b o, x.a = some ⟨b, o, none⟩ → b < w1.heap.size) := Lib.hid (fun x hx h0 b o e => by
          obtain ⟨i, hi', rfl⟩ := List.getElem_of_mem hx
          exact ((HA2.out.2.1 i hi' (by rw [← HA2.out.1]; exact hi')).lt h0 e).2)
        have HOF3 : Hid (Off (acc ++ [(⟨k, n, t, a, nl, lc⟩ : It)]) (.slice va2 (acc.length + 1) vc2)) := Lib.hid (fun x hx h0 b o e hb => by
          rcases hg2 b hb with h3 | h3
          · exact HOF2.out x hx h0 b o e h3
          · have := HLB.out x hx h0 b o e
            omega)
        have HA3 := Lib.hid (HA2.out.kept HOF2.out (by omega) hk3)
        have HO2 : Hid (w2.ownsRow 0 130 4 (.slice va2 (acc.length + 1) vc2) (acc.length + 1) (itVals (acc ++ [(⟨k, n, t, a, nl, lc⟩ : It)]))) := Lib.hid (by rw [List.length_append] at hO2; exact hO2)
        have HGB2 : Hid (∀ g, (Value.slice va2 (acc.length + 1) vc2).ownBlock = some g → w.heap.size ≤ g) := Lib.hid (fun g hg => by
          rcases hg2 g hg with h3 | h3
          · exact HGB.out g h3
          · omega)
        have HB2 : Hid (Below w.heap.size w w2) := Lib.hid (HB1.out.trans ⟨o1, o2, o3, by omega, fun q hq => hk3 q (by omega) (fun e => by have := HGB.out q e; omega)⟩)
        clear ho hn hfr h8 hsl HP hnl hcx HX HQ HA1 HXN hO2 hg2 hs2 hk2 hk3 o1 o2 o3 HA2 HOF2 HLB HOFF HGB HLT HR1
        go_wp2_with (at_builtin; refine Lib.wpList_append_run _ rfl _ _ 82 82 rfl _ _ rfl rfl _ _ hr ?_)
        go_roundw
        case rel => exact ⟨at' + m, acc ++ [⟨k, n, t, a, nl, lc⟩], cs ++ [cx], va2, vc2, by rw [List.length_append]; go_num, by go_num, by rw [List.length_append]; rfl, by simp; omega, by omega, by omega, HQ2, HA3, by rw [List.length_append]; exact HO2, by rw [List.length_append]; exact HOF3, by rw [List.length_append]; exact HGB2, HB2⟩
        case measure => simp [intOf]; omega
    · have f2 : ¬ (acc.length : Int) < (D : Int) := by omega
      have hcD : cs.length = D := by have := HA.out.1; omega
      have HE : Hid (rowF s.data.toList = if at' = s.size then some cs else none) := Lib.hid (by
        rw [HF.out, HQ.out.end_ hcD]
        simp only
        rw [show 1 + (at' - 1) = at' by omega])
      have HDS : Hid (DsR wr va acc cs) := Lib.hid ⟨by
        rcases HRW.out.2 with ⟨_, e2⟩ | ⟨g, cap', cur, hv, _⟩
        · exact .inl (List.eq_nil_of_length_eq_zero e2)
        · injection hv with hv _ hc
          subst hv
          exact .inr ⟨g, 0, rfl, (HRW.out.lt g rfl).2, cells_of_row HRW.out⟩, HA.out.1, fun j h h' => (HA.out.2.1 j h h').inC⟩
      have HFW := Lib.hid HA.out.2.2
      clear HOFF HGB
      by_cases hat : at' = s.size
      · have f3 : ((at' : Int) != (s.size : Int)) = false := by simpa using (by omega : (at' : Int) = (s.size : Int))
        have f4 : (at' : Int) = (s.size : Int) := by omega
        have HN := Lib.hid (HE.out.trans (if_pos hat))
        clear HE HQ HA HRW hat
        go_wp2
        go_ret2
        exact ⟨HB.out, .inr ⟨va, acc, vc, cs, HN.out, rfl, HDS.out, HFW.out⟩⟩
      · have f3 : ((at' : Int) != (s.size : Int)) = true := by simpa using (by omega : ¬ (at' : Int) = (s.size : Int))
        have f4 : ¬ (at' : Int) = (s.size : Int) := by omega
        have HN := Lib.hid (HE.out.trans (if_neg hat))
        clear HE HQ HA HRW hat
        go_wp2
        go_ret2
        exact ⟨HB.out, .inl ⟨HN.out, rfl⟩⟩
end Go.Proofs.YtijggofelepaaaaGreatDoor.Dm

/- The contracts of the document's Same at two rows of one content, and of both Pages; what both Of answer. -/
set_option maxRecDepth 100000
namespace Go.Proofs.YtijggofelepaaaaGreatDoor.Dm
open Go Go.RowKit

theorem same_c {w : World} {x y : It} {c : Dt} (hx : InC w x c) (hy : InC w y c) (hf : c.few) : Calls Tryz.prog 74 #[.agg #[.int .i64 x.k, .int .i64 x.n, .string x.s, .slice x.a x.ll x.lc], .agg #[.int .i64 y.k, .int .i64 y.n, .string y.s, .slice y.a y.ll y.lc]] w fun e w' => e = .returned (.bool true) ∧ Below w.heap.size w w' := by
  obtain ⟨_, xs, h2, h3, _, h5⟩ := hx
  obtain ⟨_, ys, g2, g3, _, g5⟩ := hy
  have hz : ∀ (zs : List It), c.2.2.2 = zs.map itC → zs.length ≤ 8 ∧ ∀ z, z ∈ zs → z.ll = 0 := fun zs e => by
    have h1 := hf.1
    rw [e, List.length_map] at h1
    exact ⟨h1, fun z hz => hf.2 (itC z) (by rw [e]; exact List.mem_map_of_mem hz)⟩
  obtain ⟨a1, a2⟩ := hz xs (by rw [h5])
  obtain ⟨b1, b2⟩ := hz ys (by rw [g5])
  rw [← h2, ← g2]
  refine (same_any _ _ _ _ xs _ _ _ _ _ ys _ w h3 g3 a1 a2 b2).mono ?_
  rintro e w' ⟨rfl, hb⟩
  exact ⟨by rw [← h5, ← g5]; simp, hb⟩

set_option maxHeartbeats 1600000 in
theorem same_row (a : Option Addr) (xs : List It) (lc : Nat) (b : Option Addr) (ys : List It) (lb : Nat) (cs : List Dt) (w : World) (hx : DsR w a xs cs) (hy : DsR w b ys cs) (hf : ∀ c ∈ cs, c.few) (h4 : xs.length ≤ 100000) :
    Calls Tryz.prog 32 #[.slice a xs.length lc, .slice b ys.length lb] w fun e w' => e = .returned (.bool true) ∧ Below w.heap.size w w' := by
  have HC : Hid (∀ wr j, Below w.heap.size w wr → j < xs.length → ∃ (g o g' o' : Nat) (x y : It), a = some ⟨g, o, none⟩ ∧ b = some ⟨g', o', none⟩ ∧ g < wr.heap.size ∧ g' < wr.heap.size ∧
      (wr.cell? ⟨g, o + j * 4, none⟩ = some (.int .i64 x.k) ∧ wr.cell? ⟨g, o + j * 4 + 1, none⟩ = some (.int .i64 x.n) ∧ wr.cell? ⟨g, o + j * 4 + 2, none⟩ = some (.string x.s) ∧ wr.cell? ⟨g, o + j * 4 + 3, none⟩ = some (.slice x.a x.ll x.lc)) ∧
      (wr.cell? ⟨g', o' + j * 4, none⟩ = some (.int .i64 y.k) ∧ wr.cell? ⟨g', o' + j * 4 + 1, none⟩ = some (.int .i64 y.n) ∧ wr.cell? ⟨g', o' + j * 4 + 2, none⟩ = some (.string y.s) ∧ wr.cell? ⟨g', o' + j * 4 + 3, none⟩ = some (.slice y.a y.ll y.lc)) ∧
      Hid (Calls Tryz.prog 74 #[.agg #[.int .i64 x.k, .int .i64 x.n, .string x.s, .slice x.a x.ll x.lc], .agg #[.int .i64 y.k, .int .i64 y.n, .string y.s, .slice y.a y.ll y.lc]] wr.drew fun e w' => e = .returned (.bool true) ∧ Below wr.drew.heap.size wr.drew w')) := Lib.hid fun wr j hb hj => by
    obtain ⟨g, o, x, c, e1, e2, _, e4, e5, e6⟩ := (hx.below hb).at_ hj
    obtain ⟨g', o', y, c', f1, f2, _, f4, f5, f6⟩ := (hy.below hb).at_ (j := j) (by rw [hy.len, ← hx.len]; exact hj)
    rw [e4] at f4
    cases f4
    exact ⟨g, o, g', o', x, y, e1, f1, e2, f2, e6, f6, Lib.hid (same_c (e5.below (Below.refl _ _).drew) (f5.below (Below.refl _ _).drew) (hf _ (List.mem_of_getElem? e4)))⟩
  have hl : ys.length = xs.length := by rw [hy.len, hx.len]
  rw [hl]
  obtain ⟨n, hn⟩ : ∃ n, n = xs.length := ⟨_, rfl⟩
  rw [← hn] at HC h4 ⊢
  clear hx hy hf hl hn
  go_enter Tryz.func32, Tryz.ntmps32
  go_wp2
  go_loopw [5] (fun i wr => ∃ j : Nat, j ≤ n ∧ i = .int .i64 j ∧ Hid (Below w.heap.size w wr)) (fun i _ => n - (intOf i).toNat)
  case atStart => exact ⟨0, Nat.zero_le _, rfl, Lib.hid (Below.refl _ _)⟩
  case round =>
    obtain ⟨j, hj, rfl, HB⟩ := hrel
    by_cases hlt : j < n
    · obtain ⟨g, o, g', o', x, y, rfl, rfl, l1, l2, ⟨c0, c1, c2, c3⟩, ⟨d0, d1, d2, d3⟩, HCALL⟩ := HC.out wr j HB.out hlt
      have f1 : (j : Int) < (n : Int) := by omega
      have f2 : (0 : Int) ≤ (j : Int) := by omega
      clear HC
      go_wp2
      go_still_tail 8, (by kernel_rfl)
      go_wp2_with fail
      refine HCALL.out.mono ?_
      rintro e w1 ⟨rfl, hb1⟩
      have HB1 : Hid (Below w.heap.size w w1) := Lib.hid (HB.out.trans (((Below.refl _ _).drew.trans hb1).mono HB.out.size))
      clear HCALL hb1
      go_wp2
      go_roundw
      case rel => exact ⟨j + 1, by omega, by go_num, HB1⟩
      case measure => simp [intOf]; omega
    · have f1 : ¬ (j : Int) < (n : Int) := by omega
      clear HC
      go_wp2
      go_ret
      exact ⟨rfl, HB.out⟩

/-- The page of an address. -/
def pgI (t : Int) : Int := if t < 0 then 0 else t / 64
theorem page_int (t : Int) (w : World) (ht : I64 t) : Calls Tryz.prog 33 #[.int .i64 t] w fun e w' => e = .returned (.int .i64 (pgI t)) ∧ w' = w := by
  obtain ⟨h0, h1⟩ := ht
  by_cases hn : t < 0
  · have em : max t 0 = 0 := by omega
    rw [pgI, if_pos hn]
    go_enter Tryz.func33, Tryz.ntmps33
    go_wp2
    go_ret
    exact ⟨rfl, rfl⟩
  · obtain ⟨q, hq⟩ : ∃ q, q = t / 64 := ⟨_, rfl⟩
    have e2 : IntKind.i64.wrap q = q := IntWalk.i64_in _ (by omega)
    have e3 : t.tdiv 64 = q := by rw [Int.tdiv_eq_ediv_of_nonneg (by omega)]; omega
    have em : max t 0 = t := by omega
    have e4 : (0 : Int) ≤ t := by omega
    rw [pgI, if_neg hn, ← hq]
    clear h0 h1 hq
    go_enter Tryz.func33, Tryz.ntmps33
    go_wp2
    go_ret
    exact ⟨rfl, rfl⟩
theorem rpage_int (t : Int) (w : World) (ht : I64 t) : Calls Tryz.prog 34 #[.int .i64 t] w fun e w' => e = .returned (.int .i64 (pgI t)) ∧ w' = w := by
  obtain ⟨h0, h1⟩ := ht
  by_cases hn : t < 0
  · rw [pgI, if_pos hn]
    go_enter Tryz.func34, Tryz.ntmps34
    go_wp2
    go_ret
    exact ⟨rfl, rfl⟩
  · obtain ⟨q, hq⟩ : ∃ q, q = t / 64 := ⟨_, rfl⟩
    have e2 : IntKind.i64.wrap q = q := IntWalk.i64_in _ (by omega)
    have e3 : t.tdiv 64 = q := by rw [Int.tdiv_eq_ediv_of_nonneg (by omega)]; omega
    have e4 : (0 : Int) ≤ t := by omega
    rw [pgI, if_neg hn, ← hq]
    clear h0 h1 hq
    go_enter Tryz.func34, Tryz.ntmps34
    go_wp2
    go_ret
    exact ⟨rfl, rfl⟩

theorem dsF_count : ∀ (n : Nat) (l : List UInt8) {ds : List Dt} {m : Nat}, dsF n l = some (ds, m) → ds.length = n
  | 0, l, ds, m, h => by
    rw [dsF] at h
    injection h with h
    injection h with h1 h2
    subst h1
    rfl
  | n + 1, l, ds, m, h => by
    cases ho : ofF l with
    | none => rw [dsF_none ho] at h; cases h
    | some q =>
      obtain ⟨x, is, m1⟩ := q
      rw [dsF_step ho] at h
      obtain ⟨⟨p2, m2⟩, h1, h2⟩ := Option.map_eq_some_iff.1 h
      injection h2 with h2 _
      subst h2
      simp [dsF_count n _ h1]
theorem rowF_few {l : List UInt8} {ds : List Dt} (h : rowF l = some ds) : ds.length ≤ 4 := by
  match l with
  | [] => cases h
  | c :: r =>
    unfold rowF at h
    simp only at h
    split at h
    · cases h
    · rename_i hc
      split at h
      · cases h
      · rename_i p2 m2 hd
        split at h
        · injection h with h
          subst h
          rw [dsF_count _ _ hd]
          omega
        · cases h

/-- What Of of a row answers, in one form. -/
def RowAns (s : List UInt8) (w : World) (e : Ending) (w' : World) : Prop :=
  ∃ (a : Option Addr) (xs : List It) (lc : Nat), e = .returned (.tuple #[.slice a xs.length lc, .int .i64 (if (rowF s).isSome then 0 else 70)]) ∧ DsR w' a xs ((rowF s).getD []) ∧ (∀ c ∈ (rowF s).getD [], c.few) ∧ Below w.heap.size w w'
theorem RowPost.ans {s : List UInt8} {w w' : World} {e : Ending} (h : RowPost s w e w') : RowAns s w e w' := by
  obtain ⟨hb, ⟨h1, rfl⟩ | ⟨a, xs, lc, cs, h1, rfl, h2, h3⟩⟩ := h
  · exact ⟨none, [], 0, by rw [h1]; rfl, by rw [h1]; exact DsR.nil_ _ _, (by rw [h1]; intro c hc; cases hc), hb⟩
  · exact ⟨a, xs, lc, by rw [h1]; rfl, by rw [h1]; exact h2, by rw [h1]; exact h3, hb⟩
end Go.Proofs.YtijggofelepaaaaGreatDoor.Dm

/- A list of data that came in, with the items' own lists. -/
set_option maxRecDepth 100000
namespace Go.Proofs.YtijggofelepaaaaGreatDoor.Dm
open Go Go.ChangeShapes Go.WideShapes Go.ChangeAt Go.RowKit Go.Deep Go.Joins

theorem laidOut : laidOutB Tryz.prog = true := by kernel_rfl
theorem readRecData : Tryz.prog.readableRec 82 = true := by kernel_rfl
theorem cellsDt : Tryz.prog.cellsOf 130 = 4 := by kernel_rfl
theorem cellsDs : Tryz.prog.cellsOf 82 = 1 := by kernel_rfl
theorem cells3 : Tryz.prog.cellsOf 3 = 1 := by kernel_rfl
theorem cells9 : Tryz.prog.cellsOf 9 = 1 := by kernel_rfl

section
variable {H : Type} {enc : TypeId × Value → H} {W : World} {base : Nat} {sp : Nat → Bool} {held : Bool}

theorem i64_of_wf {n : Int} (h : (Lit.int .i64 n).wf = true) : I64 n := by
  have e1 : IntKind.i64.min = -9223372036854775808 := rfl
  have e2 : IntKind.i64.max = 9223372036854775807 := rfl
  simp [Lit.wf, e1, e2] at h
  exact ⟨h.1, h.2⟩
theorem read_int {fuel : Nat} {v : Value} {y : DataW H × List MemPlace} (h : DataW.trod enc Tryz.prog W base sp held fuel 3 [v] = some y) : ∃ n, v = .int .i64 n ∧ I64 n := by
  obtain ⟨n, e, _, wf⟩ := DataW.trod_int Tryz.underlying3 h
  simp at e
  exact ⟨n, e, i64_of_wf wf⟩
theorem read_text {fuel : Nat} {v : Value} {y : DataW H × List MemPlace} (h : DataW.trod enc Tryz.prog W base sp held fuel 9 [v] = some y) : ∃ s, v = .string s := by
  obtain ⟨s, e, _, _⟩ := DataW.trod_string Tryz.underlying9 h
  simp at e
  exact ⟨s, e⟩
theorem read_slice {fuel : Nat} {v : Value} {y : DataW H × List MemPlace} (h : DataW.trod enc Tryz.prog W base sp held fuel 82 [v] = some y) : ∃ a len cap, v = .slice a len cap := by
  rcases open_slice Tryz.underlying82 h with ⟨e, _⟩ | ⟨a, len, cap, _, _, _, _, e, _⟩
  · simp at e; exact ⟨_, _, _, e⟩
  · simp at e; exact ⟨_, _, _, e⟩

/-- The four cells of one item. -/
def ItemAt (W : World) (a : Addr) (i : Nat) (x : It) : Prop :=
  W.cell? (a.add (i * 4)) = some (.int .i64 x.k) ∧ W.cell? (a.add (i * 4 + 1)) = some (.int .i64 x.n) ∧ W.cell? (a.add (i * 4 + 2)) = some (.string x.s) ∧ W.cell? (a.add (i * 4 + 3)) = some (.slice x.a x.ll x.lc) ∧ I64 x.n

theorem read_item {a : Addr} {i n : Nat} {cs : List Value} {y : DataW H × List MemPlace} (hc : W.cells? base (a.add (i * 4)) 4 = some cs) (h : DataW.trod enc Tryz.prog W base sp held n 130 cs = some y) : ∃ x, ItemAt W a i x := by
  obtain ⟨ys, n', _, _, _, hyl, hf⟩ := DataW.trod_struct Tryz.underlying130 h
  obtain ⟨_, hcl, hat⟩ := World.cells?_some hc
  match cs, hcl, ys, hyl with
  | [u0, u1, u2, u3], _, [y0, y1, y2, y3], _ =>
    have f0 : DataW.trod enc Tryz.prog W base sp held n' 3 (([u0, u1, u2, u3].drop 0).take (Tryz.prog.cellsOf 3)) = some y0 := hf 0 _ rfl
    have f1 : DataW.trod enc Tryz.prog W base sp held n' 3 (([u0, u1, u2, u3].drop 1).take (Tryz.prog.cellsOf 3)) = some y1 := hf 1 _ rfl
    have f2 : DataW.trod enc Tryz.prog W base sp held n' 9 (([u0, u1, u2, u3].drop 2).take (Tryz.prog.cellsOf 9)) = some y2 := hf 2 _ rfl
    have f3 : DataW.trod enc Tryz.prog W base sp held n' 82 (([u0, u1, u2, u3].drop 3).take (Tryz.prog.cellsOf 82)) = some y3 := hf 3 _ rfl
    rw [cells3] at f0 f1
    rw [cells9] at f2
    rw [cellsDs] at f3
    obtain ⟨k, rfl, _⟩ := read_int (v := u0) (y := y0) f0
    obtain ⟨m, rfl, hm⟩ := read_int (v := u1) (y := y1) f1
    obtain ⟨s, rfl⟩ := read_text (v := u2) (y := y2) f2
    obtain ⟨b, l, c, rfl⟩ := read_slice (v := u3) (y := y3) f3
    refine ⟨⟨k, m, s, b, l, c⟩, ?_, ?_, ?_, ?_, hm⟩
    · exact hat 0 (by omega)
    · rw [← add_add]; exact hat 1 (by omega)
    · rw [← add_add]; exact hat 2 (by omega)
    · rw [← add_add]; exact hat 3 (by omega)

/-- A list of data that came in. -/
theorem open_items {fuel : Nat} {cs : List Value} {y : DataW H × List MemPlace} (h : DataW.trod enc Tryz.prog W base sp held fuel 82 cs = some y) :
    ∃ (a : Option Addr) (xs : List It) (lc : Nat), cs = [.slice a xs.length lc] ∧ Sl W a xs ∧ AllI xs := by
  rcases open_slice Tryz.underlying82 h with ⟨e, _⟩ | ⟨a, len, cap, m, n, D, Pl, e, _, hl, _, hm, _, hi⟩
  · exact ⟨none, [], 0, e, .inl rfl, fun x hx => by simp at hx⟩
  · have hlen : len ≤ m := by rw [hm]; split <;> omega
    rw [cellsDt] at hi
    have hx : ∀ i, i < len → ∃ x, ItemAt W a i x := fun i hil => by
      obtain ⟨cs', hc, ht⟩ := hi i (by omega)
      exact read_item hc ht
    let f : Nat → It := fun i => if h : i < len then Classical.choose (hx i h) else ⟨0, 0, ⟨#[]⟩, none, 0, 0⟩
    have hf : ∀ i, i < len → ItemAt W a i (f i) := fun i hil => by
      have : f i = Classical.choose (hx i hil) := dif_pos hil
      rw [this]
      exact Classical.choose_spec (hx i hil)
    have hlf : ((List.range len).map f).length = len := by simp
    have hget : ∀ j (hj : j < ((List.range len).map f).length), ((List.range len).map f)[j]'hj = f j := fun j hj => by simp
    refine ⟨some a, (List.range len).map f, cap, by rw [hlf]; exact e, ?_, ?_⟩
    · cases len with
      | zero => exact .inl rfl
      | succ len =>
        obtain ⟨b, off, spot⟩ := a
        have h0 := (hf 0 (by omega)).1
        have hspot : spot = none := by simpa [Addr.add] using World.cell?_spot h0
        subst hspot
        refine .inr ⟨b, off, rfl, ?_, fun j hj => ?_⟩
        · rw [add_plain] at h0
          unfold World.cell? at h0
          split at h0
          · rename_i hh
            exact (Array.getElem?_eq_some_iff.1 hh).1
          · cases h0
        · obtain ⟨e0, e1, e2, e3, _⟩ := hf j (by rw [hlf] at hj; exact hj)
          rw [add_plain] at e0 e1 e2 e3
          rw [hget j hj]
          exact ⟨e0, e1, e2, e3⟩
    · intro x hx
      obtain ⟨i, hi, rfl⟩ := List.mem_map.1 hx
      exact (hf i (List.mem_range.1 hi)).2.2.2.2

/-- A datum of a row. -/
theorem read_item2 {a : Addr} {i n : Nat} {cs : List Value} {y : DataW H × List MemPlace} (hc : W.cells? base (a.add (i * 4)) 4 = some cs) (h : DataW.trod enc Tryz.prog W base sp held n 130 cs = some y) : ∃ x c, ItemAt W a i x ∧ InC W x c := by
  obtain ⟨ys, n', _, _, _, hyl, hf⟩ := DataW.trod_struct Tryz.underlying130 h
  obtain ⟨_, hcl, hat⟩ := World.cells?_some hc
  match cs, hcl, ys, hyl with
  | [u0, u1, u2, u3], _, [y0, y1, y2, y3], _ =>
    have f0 : DataW.trod enc Tryz.prog W base sp held n' 3 (([u0, u1, u2, u3].drop 0).take (Tryz.prog.cellsOf 3)) = some y0 := hf 0 _ rfl
    have f1 : DataW.trod enc Tryz.prog W base sp held n' 3 (([u0, u1, u2, u3].drop 1).take (Tryz.prog.cellsOf 3)) = some y1 := hf 1 _ rfl
    have f2 : DataW.trod enc Tryz.prog W base sp held n' 9 (([u0, u1, u2, u3].drop 2).take (Tryz.prog.cellsOf 9)) = some y2 := hf 2 _ rfl
    have f3 : DataW.trod enc Tryz.prog W base sp held n' 82 (([u0, u1, u2, u3].drop 3).take (Tryz.prog.cellsOf 82)) = some y3 := hf 3 _ rfl
    rw [cells3] at f0 f1
    rw [cells9] at f2
    rw [cellsDs] at f3
    obtain ⟨k, rfl, _⟩ := read_int (v := u0) (y := y0) f0
    obtain ⟨m, rfl, hm⟩ := read_int (v := u1) (y := y1) f1
    obtain ⟨s, rfl⟩ := read_text (v := u2) (y := y2) f2
    obtain ⟨b, zs, c, e, hS, hA⟩ := open_items f3
    obtain rfl : u3 = .slice b zs.length c := by simpa using e
    refine ⟨⟨k, m, s, b, zs.length, c⟩, (k, m, s, zs.map itC), ⟨?_, ?_, ?_, ?_, hm⟩, hm, zs, rfl, hS, hA, rfl⟩
    · exact hat 0 (by omega)
    · rw [← add_add]; exact hat 1 (by omega)
    · rw [← add_add]; exact hat 2 (by omega)
    · rw [← add_add]; exact hat 3 (by omega)

/-- A list of data that came in. -/
theorem open_list {r : Reach} {b0 : Nat} {v : Value} {d : DataW H} {p : List MemPlace} (hv : Value.okWide Tryz.prog W r b0 82 v) (hd : DataW.Trod enc Tryz.prog W base sp held 82 v d p) :
    ∃ (a : Option Addr) (xs : List It) (lc : Nat) (cs : List Dt), v = .slice a xs.length lc ∧ DsR W a xs cs := by
  obtain ⟨a1, len1, cap1, rfl⟩ := okWide_slice Tryz.underlying82 hv
  obtain ⟨fuel, h⟩ := hd
  rcases open_slice Tryz.underlying82 h with ⟨e, _⟩ | ⟨a, len, cap, m, n, D, Pl, e, _, hl, _, hm, _, hi⟩
  · simp [Value.cells] at e
    obtain ⟨rfl, rfl, rfl⟩ := e
    exact ⟨none, [], 0, [], rfl, DsR.nil_ _ _⟩
  · simp [Value.cells] at e
    obtain ⟨rfl, rfl, rfl⟩ := e
    have hlen : len1 ≤ m := by rw [hm]; split <;> omega
    rw [cellsDt] at hi
    have hx : ∀ i, i < len1 → ∃ xc : It × Dt, ItemAt W a i xc.1 ∧ InC W xc.1 xc.2 := fun i hil => by
      obtain ⟨cs', hc, ht⟩ := hi i (by omega)
      obtain ⟨x, c, h1, h2⟩ := read_item2 hc ht
      exact ⟨(x, c), h1, h2⟩
    let f : Nat → It × Dt := fun i => if h : i < len1 then Classical.choose (hx i h) else (⟨0, 0, ⟨#[]⟩, none, 0, 0⟩, (0, 0, ⟨#[]⟩, []))
    have hf : ∀ i, i < len1 → ItemAt W a i (f i).1 ∧ InC W (f i).1 (f i).2 := fun i hil => by
      have : f i = Classical.choose (hx i hil) := dif_pos hil
      rw [this]
      exact Classical.choose_spec (hx i hil)
    have hlf : ((List.range len1).map fun i => (f i).1).length = len1 := by simp
    have hget : ∀ j (hj : j < ((List.range len1).map fun i => (f i).1).length), ((List.range len1).map fun i => (f i).1)[j]'hj = (f j).1 := fun j hj => by simp
    refine ⟨some a, (List.range len1).map fun i => (f i).1, cap1, (List.range len1).map fun i => (f i).2, by rw [hlf], ⟨?_, by simp, ?_⟩⟩
    · cases len1 with
      | zero => exact .inl rfl
      | succ len =>
        obtain ⟨b, off, spot⟩ := a
        have h0 := (hf 0 (by omega)).1.1
        have hspot : spot = none := by simpa [Addr.add] using World.cell?_spot h0
        subst hspot
        refine .inr ⟨b, off, rfl, ?_, fun j hj => ?_⟩
        · rw [add_plain] at h0
          unfold World.cell? at h0
          split at h0
          · rename_i hh
            exact (Array.getElem?_eq_some_iff.1 hh).1
          · cases h0
        · obtain ⟨e0, e1, e2, e3, _⟩ := (hf j (by rw [hlf] at hj; exact hj)).1
          rw [add_plain] at e0 e1 e2 e3
          rw [hget j hj]
          exact ⟨e0, e1, e2, e3⟩
    · intro j h1 h2
      rw [hget j h1, show ((List.range len1).map fun i => (f i).2)[j]'h2 = (f j).2 by simp]
      exact (hf j (by rw [hlf] at h1; exact h1)).2
end
end Go.Proofs.YtijggofelepaaaaGreatDoor.Dm
