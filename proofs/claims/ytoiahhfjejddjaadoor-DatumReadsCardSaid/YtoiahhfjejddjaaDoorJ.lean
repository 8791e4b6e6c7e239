/- The contracts of readHex: for every string of at most 2^47 bytes; and plain lemmas on how a text's text is read. -/
import Derived.Test.YtoiahhfjejddjaaDoorI
set_option maxRecDepth 100000
namespace Go.Proofs.YtoiahhfjejddjaaDoor
open Go Go.RowKit

def hexV (c : UInt8) : Int := Lib.indexByte digS.data.toList c

theorem hexV_bd (u : UInt8) : (-1 : Int) ≤ hexV u ∧ hexV u ≤ 15 := by
  have h : ∀ n : Fin 256, (-1 : Int) ≤ hexV (UInt8.ofNat n.val) ∧ hexV (UInt8.ofNat n.val) ≤ 15 := by decide +kernel
  have := h ⟨u.toNat, u.toNat_lt⟩
  simpa using this
theorem hexV_hexD (x : Nat) (h : x < 16) : hexV (hexD x) = x := by
  have h' : ∀ n : Fin 16, hexV (hexD n.val) = (n.val : Int) := by decide +kernel
  exact h' ⟨x, h⟩
theorem or_hex (x y : Nat) (hx : x < 16) (hy : y < 16) : bits BinOp.or IntKind.i64 ((x : Int) * 16) (y : Int) = (x : Int) * 16 + (y : Int) := by
  have h' : ∀ n m : Fin 16, bits BinOp.or IntKind.i64 ((n.val : Int) * 16) (m.val : Int) = (n.val : Int) * 16 + (m.val : Int) := by decide +kernel
  exact h' ⟨x, hx⟩ ⟨y, hy⟩

/-- The byte of two signs. -/
def hexB (c d : UInt8) : UInt8 := byt (bits BinOp.or IntKind.i64 (hexV c * 16) (hexV d))
theorem hexB_hexD (u : UInt8) : hexB (hexD (u.toNat / 16)) (hexD (u.toNat % 16)) = u := by
  have hu := u.toNat_lt
  unfold hexB
  rw [hexV_hexD _ (by omega), hexV_hexD _ (by omega), or_hex _ _ (by omega) (by omega)]
  apply UInt8.toNat_inj.1
  have := byt_nat (((u.toNat / 16 : Nat) : Int) * 16 + ((u.toNat % 16 : Nat) : Int))
  omega

theorem indexDig (u : UInt8) (w : World) : Calls Tryd.prog 75 #[.string digS, .int .u8 (u.toNat : Int)] w fun e w' => e = .returned (.int .i64 (hexV u)) ∧ w' = w := by
  have := Tryd.strings_IndexByte digS (u.toNat : Int) w
  simpa [hexV] using this

/-- What readHex leaves. -/
def HexPost (l : List UInt8) (w : World) (e : Ending) (w' : World) : Prop :=
  Below w.heap.size w w' ∧ ∃ (u : UInt8) (b : Bool), e = .returned (.tuple #[.int .u8 (u.toNat : Int), .bool b]) ∧ (b = true → 2 ≤ l.length) ∧
    ∀ (v : UInt8) r, l = hexD (v.toNat / 16) :: hexD (v.toNat % 16) :: r → u = v ∧ b = true

theorem ret_hex {x : Int} {u : UInt8} {b : Bool} (h : x = (u.toNat : Int)) : Ending.returned (.tuple #[.int .u8 x, .bool b]) = .returned (.tuple #[.int .u8 (u.toNat : Int), .bool b]) := by rw [h]

set_option maxHeartbeats 1600000 in
theorem readHex_any (s : ByteArray) (w : World) (hs : s.size ≤ 140737488355328) : Calls Tryd.prog 71 #[.string s] w (HexPost s.data.toList w) := by
  have hlen : s.data.toList.length = s.size := rfl
  have HLEN := Lib.hid hlen; clear hlen
  by_cases h2 : 1 < s.size
  · have h0 : 0 < s.size := by omega
    have a := hexV_bd s[0]
    have b := hexV_bd s[1]
    obtain ⟨a0, a1⟩ := a
    obtain ⟨b0, b1⟩ := b
    have hl : Hid (∃ r, s.data.toList = s[0] :: s[1] :: r) := by
      refine Lib.hid ⟨s.data.toList.drop 2, ?_⟩
      have e1 : s.data.toList.drop 0 = s.data.toList[0]'(by have := HLEN.out; omega) :: s.data.toList.drop 1 := List.drop_eq_getElem_cons (by have := HLEN.out; omega)
      have e2 : s.data.toList.drop 1 = s.data.toList[1]'(by have := HLEN.out; omega) :: s.data.toList.drop 2 := List.drop_eq_getElem_cons (by have := HLEN.out; omega)
      rw [e2] at e1
      exact e1
    have HOK : Hid (∀ (v : UInt8) r, s.data.toList = hexD (v.toNat / 16) :: hexD (v.toNat % 16) :: r → hexB s[0] s[1] = v ∧ 0 ≤ hexV s[0] ∧ 0 ≤ hexV s[1]) := by
      refine Lib.hid (fun v r h => ?_)
      obtain ⟨r', hr⟩ := hl.out
      rw [hr] at h
      injection h with q1 q2
      injection q2 with q2 q3
      have hv := v.toNat_lt
      rw [q1, q2]
      refine ⟨hexB_hexD v, ?_, ?_⟩
      · rw [hexV_hexD _ (by omega)]; omega
      · rw [hexV_hexD _ (by omega)]; omega
    by_cases c1 : (0 : Int) ≤ hexV s[0]
    · by_cases c2 : (0 : Int) ≤ hexV s[1]
      · go_enter Tryd.func71, Tryd.ntmps71
        go_wp2_with fail
        go_region_held3 (fun _ => True) (trivial) (first | (go_at_call 75; refine (indexDig _ _).mono ?_; rintro e w' ⟨rfl, rfl⟩))
        all_goals go_wp2
        all_goals first
          | (go_ret2
             refine ⟨(Below.refl _ _).drew, hexB s[0] s[1], true, ret_hex (byt_nat _).symm, fun _ => by have := HLEN.out; omega, fun v r h => ⟨(HOK.out v r h).1, rfl⟩⟩)
          | (exfalso; omega)
      · go_enter Tryd.func71, Tryd.ntmps71
        go_wp2_with fail
        go_region_held3 (fun _ => True) (trivial) (first | (go_at_call 75; refine (indexDig _ _).mono ?_; rintro e w' ⟨rfl, rfl⟩))
        all_goals go_wp2
        all_goals first
          | (go_ret2
             refine ⟨(Below.refl _ _).drew, 0, false, ret_hex rfl, fun h => Bool.noConfusion h, fun v r h => absurd (HOK.out v r h).2.2 (by omega)⟩)
          | (exfalso; omega)
    · go_enter Tryd.func71, Tryd.ntmps71
      go_wp2_with fail
      go_region_held3 (fun _ => True) (trivial) (first | (go_at_call 75; refine (indexDig _ _).mono ?_; rintro e w' ⟨rfl, rfl⟩))
      all_goals go_wp2
      all_goals first
        | (go_ret2
           refine ⟨(Below.refl _ _).drew, 0, false, ret_hex rfl, fun h => Bool.noConfusion h, fun v r h => absurd (HOK.out v r h).2.1 (by omega)⟩)
        | (exfalso; omega)
  · go_enter Tryd.func71, Tryd.ntmps71
    go_wp2
    go_ret2
    refine ⟨Below.refl _ _, 0, false, ret_hex rfl, fun h => Bool.noConfusion h, fun v r h => ?_⟩
    have := HLEN.out
    rw [h] at this
    simp at this
    omega

theorem pB_cases (u : UInt8) : (esc u = true ∧ pB u = [37, hexD (u.toNat / 16), hexD (u.toNat % 16)]) ∨ (esc u = false ∧ pB u = [u] ∧ u ≠ 39 ∧ u ≠ 37) := by
  cases h : esc u
  · refine .inr ⟨rfl, by simp [pB, h], ?_, ?_⟩ <;> (intro e; subst e; revert h; decide)
  · exact .inl ⟨rfl, by simp [pB, h]⟩

theorem scan_quote {t2 r d : List UInt8} (h : 39 :: d = t2.flatMap pB ++ 39 :: r) : t2 = [] ∧ d = r := by
  cases t2 with
  | nil => simp at h; exact ⟨rfl, h⟩
  | cons u t3 =>
    exfalso
    rcases pB_cases u with ⟨_, e⟩ | ⟨_, e, h1, _⟩
    · rw [List.flatMap_cons, e] at h
      injection h with h _
      exact absurd h (by decide)
    · rw [List.flatMap_cons, e] at h
      injection h with h _
      exact h1 h.symm

theorem scan_esc {t2 r d : List UInt8} (h : 37 :: d = t2.flatMap pB ++ 39 :: r) : ∃ u t3, t2 = u :: t3 ∧ d = hexD (u.toNat / 16) :: hexD (u.toNat % 16) :: (t3.flatMap pB ++ 39 :: r) := by
  cases t2 with
  | nil =>
    exfalso
    simp at h
  | cons u t3 =>
    rcases pB_cases u with ⟨_, e⟩ | ⟨_, e, _, h1⟩
    · rw [List.flatMap_cons, e] at h
      refine ⟨u, t3, rfl, ?_⟩
      injection h with _ h
    · rw [List.flatMap_cons, e] at h
      injection h with h _
      exact absurd h.symm h1

theorem scan_plain {c : UInt8} {t2 r d : List UInt8} (h : c :: d = t2.flatMap pB ++ 39 :: r) (h39 : c ≠ 39) (h37 : c ≠ 37) : ∃ t3, t2 = c :: t3 ∧ d = t3.flatMap pB ++ 39 :: r := by
  cases t2 with
  | nil =>
    exfalso
    simp at h
    exact h39 h.1
  | cons u t3 =>
    rcases pB_cases u with ⟨_, e⟩ | ⟨_, e, _, h1⟩
    · rw [List.flatMap_cons, e] at h
      injection h with h _
      exact absurd h h37
    · rw [List.flatMap_cons, e] at h
      injection h with h1 h2
      exact ⟨t3, by rw [h1], by simpa using h2⟩
end Go.Proofs.YtoiahhfjejddjaaDoor
