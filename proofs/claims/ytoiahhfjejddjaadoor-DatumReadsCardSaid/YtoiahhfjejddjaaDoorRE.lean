/- The contract of the reference's read at texts that are not quoted. -/
import Derived.Test.YtoiahhfjejddjaaDoorRD
set_option maxRecDepth 100000
namespace Go.Proofs.YtoiahhfjejddjaaDoor
open Go Go.RowKit

/-- What read leaves: an item and whether it was read; it was, if and only if the text is that item's. -/
def ReadR (s : List UInt8) (w : World) (e : Ending) (w' : World) : Prop :=
  Below w.heap.size w w' ∧ ∃ (k n : Int) (t : ByteArray) (ok : Bool), e = .returned (.tuple #[.agg #[.int .i64 k, .int .i64 n, .string t, .slice none 0 0], .bool ok]) ∧ I64 n ∧
    (ok = true → itemOk k n t 0 = true ∧ itemT k n t = s) ∧ (ok = false → ∀ k n t, itemOk k n t 0 = true → I64 n → itemT k n t ≠ s)

/-- A text that does not begin with a quote is no text's. -/
theorem itemT_num {s : List UInt8} (h39 : s.head? ≠ some 39) {k n : Int} {t : ByteArray} (_hok : itemOk k n t 0 = true) (h : itemT k n t = s) : k = 1 ∧ Lib.itoa n = s := by
  unfold itemT at h
  split at h
  · rename_i hk
    exact ⟨hk, h⟩
  · exfalso
    apply h39
    rw [← h]
    rfl

set_option maxHeartbeats 1600000 in
theorem read_num (s : ByteArray) (w : World) (hs : s.size ≤ 140737488355328) (h39 : s.data.toList.head? ≠ some 39) : Calls Tryd.prog 49 #[.string s] w (ReadR s.data.toList w) := by
  have HNUM := Lib.hid (number_any s · hs)
  have H39 := Lib.hid h39
  have hcond : s = ⟨#[]⟩ ∨ ∃ h : 0 < s.size, (s.toList ≠ [] ∧ s.toList.isEmpty = false) ∧ ((s[0].toNat : Int) != 39) = true := by
    match hl : s.data.toList with
    | [] => exact .inl (ByteArray.ext (by simpa using hl))
    | c :: r =>
      have h0 : 0 < s.size := by have := size_cons hl; omega
      refine .inr ⟨h0, by rw [ByteArray.toList_eq, hl]; exact ⟨by simp, rfl⟩, ?_⟩
      have := u8_not (c := 39) (u := c) (fun h => h39 (by rw [hl, h]; rfl))
      rw [first_cons hl h0, bne, show (39 : Int) = ((39 : UInt8).toNat : Int) from rfl, this]
      rfl
  clear h39
  rcases hcond with rfl | ⟨h0, ⟨hz2, hz3⟩, hb⟩
  all_goals
    go_enter Tryd.func49, Tryd.ntmps49
    go_wp2_with fail
    refine (HNUM.out _).mono ?_
    rintro e w1 ⟨hpost, rfl⟩
    rcases hpost with ⟨n, hn, hsn, rfl⟩ | ⟨n, hn, rfl, hno⟩
    · have HN := Lib.hid hn; have HSN := Lib.hid hsn
      clear hn hsn
      go_wp2
      refine bodyPost_ret (v := .tuple #[.agg #[.int .i64 1, .int .i64 n, .string ⟨#[]⟩, .slice none 0 0], .bool true]) (by simp [results, Tryd.results49, go_sem]) rfl ⟨by first | exact (Below.refl _ _).alloc (Nat.le_refl _) _ | exact below_res ((Below.refl _ _).alloc (Nat.le_refl _) _), 1, n, _, true, rfl, HN.out, fun _ => ⟨itemOk_of ⟨by omega, .inl ⟨rfl, by simp⟩⟩, ?_⟩, fun h => by cases h⟩
      rw [itemT, if_pos rfl]
      exact HSN.out.symm
    · have HN := Lib.hid hn; have HNO := Lib.hid hno
      clear hn hno
      go_wp2
      exact bodyPost_ret (v := .tuple #[.agg #[.int .i64 1, .int .i64 n, .string ⟨#[]⟩, .slice none 0 0], .bool false]) (by simp [results, Tryd.results49, go_sem]) rfl ⟨by first | exact (Below.refl _ _).alloc (Nat.le_refl _) _ | exact below_res ((Below.refl _ _).alloc (Nat.le_refl _) _), 1, n, _, false, rfl, HN.out, (fun h => by cases h), fun _ k' n' t' hok hn' he => HNO.out n' hn' (itemT_num H39.out hok he).2⟩
end Go.Proofs.YtoiahhfjejddjaaDoor
