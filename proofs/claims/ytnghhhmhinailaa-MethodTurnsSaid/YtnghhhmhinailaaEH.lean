/- The contract of the program's Of: the datum that the bytes begin with; other memory stands. -/
import Derived.Test.YtnghhhmhinailaaEG
set_option maxRecDepth 100000
namespace Go.Proofs.Ytnghhhmhinailaa.Dm
open Go Go.RowKit

/-- The datum that bytes begin with, its items, and how many bytes it has. -/
def ofF (l : List UInt8) : Option ((Int × Int × ByteArray) × List (Int × Int × ByteArray) × Nat) :=
  if l.head? = some 3 then (lsF l).map fun p => ((3, 0, ⟨#[]⟩), p.1, p.2) else (itF l).map fun p => (p.1, [], p.2)

/-- What Of leaves. -/
def OfPost (s : List UInt8) (w : World) (e : Ending) (w' : World) : Prop :=
  Below w.heap.size w w' ∧
  ((ofF s = none ∧ e = .returned (.tuple #[.agg #[.int .i64 0, .int .i64 0, .string ⟨#[]⟩, .slice none 0 0], .int .i64 0, .int .i64 11])) ∨
   ∃ (k n : Int) (t : ByteArray) (a : Option Addr) (xs : List It) (lc m : Nat), ofF s = some ((k, n, t), xs.map cont, m) ∧ e = .returned (.tuple #[.agg #[.int .i64 k, .int .i64 n, .string t, .slice a xs.length lc], .int .i64 m, .int .i64 0]) ∧ I64 n ∧ Fre xs ∧ xs.length ≤ 8 ∧ SlG w.heap.size w' a xs)

set_option maxHeartbeats 1600000 in
theorem of_item (s : ByteArray) (w : World) (hs : s.size ≤ 140737488355328) (h3 : s.data.toList.head? ≠ some 3) : Calls Try.prog 49 #[.string s] w (OfPost s.data.toList w) := by
  have HLEN := Lib.hid (toList_size s)
  have HO : Hid (ofF s.data.toList = (itF s.data.toList).map fun p => (p.1, [], p.2)) := Lib.hid (by rw [ofF, if_neg h3])
  have hcond : s.size = 0 ∨ ∃ h : 0 < s.size, ((s[0].toNat : Int) == 3) = false := by
    match hl : s.data.toList with
    | [] => exact .inl (by have := HLEN.out; rw [hl] at this; simpa using this.symm)
    | c :: r =>
      have h0 : 0 < s.size := by have := size_cons hl; omega
      refine .inr ⟨h0, ?_⟩
      rw [first_cons hl h0]
      exact u8_not (c := 3) (fun h => h3 (by rw [hl, h]; rfl))
  clear h3
  match hit : itF s.data.toList with
  | none =>
    have HIT := Lib.hid hit; clear hit
    have HN : Hid (ofF s.data.toList = none) := Lib.hid (by rw [HO.out, HIT.out]; rfl)
    rcases hcond with hz | ⟨hz, hb3⟩
    all_goals
      go_enter Try.func49, Try.ntmps49
      go_wp2_with fail
      refine (itemOf_any _ _ hs).mono ?_
      rw [HIT.out]
      rintro e w1 ⟨rfl, hb⟩
      have hz1 := hb.size
      simp only [World.size_alloc] at hz1
      have HB1 := Lib.hid ((show Below (w.heap.size + 1) _ w1 from by simpa using hb).alloc (by omega) (.cells #[.int .i64 0, .int .i64 0, .string ⟨#[]⟩, .slice none 0 0] 33)); clear hb
      obtain ⟨c0, c1, c2, c3⟩ := box_cells HB1.out
      obtain ⟨f0, f1, f2, f3⟩ := box_frozen HB1.out
      have HBW : Hid (Below w.heap.size w (w1.alloc (.cells #[.int .i64 0, .int .i64 0, .string ⟨#[]⟩, .slice none 0 0] 33))) := Lib.hid (below_al _ (by simpa using HB1.out))
      rw [resF]
      go_wp2
      exact bodyPost_ret (v := .tuple #[.agg #[.int .i64 0, .int .i64 0, .string ⟨#[]⟩, .slice none 0 0], .int .i64 0, .int .i64 11]) (by simp [results, Try.results49, go_sem, c0, c1, c2, c3]) rfl ⟨below_res HBW.out, .inl ⟨HN.out, rfl⟩⟩
  | some ((k, n, t), m) =>
    obtain ⟨hn, hm1, hm2⟩ := itF_some hit
    have hmz : ((m : Int) == 0) = false := by rw [beq_eq_false_iff_ne]; omega
    have HIT := Lib.hid hit; have HNN := Lib.hid hn; clear hit hn
    have HN : Hid (ofF s.data.toList = some ((k, n, t), ([] : List It).map cont, m)) := Lib.hid (by rw [HO.out, HIT.out]; rfl)
    rcases hcond with hz | ⟨hz, hb3⟩
    all_goals
      go_enter Try.func49, Try.ntmps49
      go_wp2_with fail
      refine (itemOf_any _ _ hs).mono ?_
      rw [HIT.out]
      rintro e w1 ⟨rfl, hb⟩
      have hz1 := hb.size
      simp only [World.size_alloc] at hz1
      have HB1 := Lib.hid ((show Below (w.heap.size + 1) _ w1 from by simpa using hb).alloc (by omega) (.cells #[.int .i64 k, .int .i64 n, .string t, .slice none 0 0] 33)); clear hb
      obtain ⟨c0, c1, c2, c3⟩ := box_cells HB1.out
      obtain ⟨f0, f1, f2, f3⟩ := box_frozen HB1.out
      have HBW : Hid (Below w.heap.size w (w1.alloc (.cells #[.int .i64 k, .int .i64 n, .string t, .slice none 0 0] 33))) := Lib.hid (below_al _ (by simpa using HB1.out))
      rw [resF]
      go_wp2
      exact bodyPost_ret (v := .tuple #[.agg #[.int .i64 k, .int .i64 n, .string t, .slice none 0 0], .int .i64 m, .int .i64 0]) (by simp [results, Try.results49, go_sem, c0, c1, c2, c3]) rfl ⟨below_res HBW.out, .inr ⟨k, n, t, none, [], 0, m, HN.out, rfl, HNN.out, (fun x hx => by simp at hx), by simp, .inl rfl⟩⟩

set_option maxHeartbeats 1600000 in
theorem of_list (s : ByteArray) (w : World) (hs : s.size ≤ 140737488355328) (h3 : s.data.toList.head? = some 3) : Calls Try.prog 49 #[.string s] w (OfPost s.data.toList w) := by
  have HLEN := Lib.hid (toList_size s)
  have HO : Hid (ofF s.data.toList = (lsF s.data.toList).map fun p => ((3, 0, ⟨#[]⟩), p.1, p.2)) := Lib.hid (by rw [ofF, if_pos h3])
  obtain ⟨r, hl⟩ : ∃ r, s.data.toList = 3 :: r := by
    match hl : s.data.toList with
    | [] => rw [hl] at h3; cases h3
    | c :: r => rw [hl] at h3; injection h3 with h3; exact ⟨r, by rw [h3]⟩
  have h0 : 0 < s.size := by have := size_cons hl; omega
  have hb3 : ((s[0].toNat : Int) == 3) = true := by rw [first_cons hl h0]; rfl
  have HIT : Hid (itF s.data.toList = none) := Lib.hid (by rw [hl, itF, if_neg (by decide), if_neg (by decide)])
  clear h3 hl
  go_enter Try.func49, Try.ntmps49
  go_wp2_with fail
  refine (itemOf_any _ _ hs).mono ?_
  rw [HIT.out]
  rintro e w1 ⟨rfl, hb⟩
  have hz1 := hb.size
  simp only [World.size_alloc] at hz1
  have HB1 := Lib.hid ((show Below (w.heap.size + 1) _ w1 from by simpa using hb).alloc (by omega) (.cells #[.int .i64 0, .int .i64 0, .string ⟨#[]⟩, .slice none 0 0] 33)); clear hb
  rw [resF]
  go_wp2_with fail
  refine (listOf_any _ _ hs).mono ?_
  rintro e w2 ⟨hb2, hpost⟩
  have HP := Lib.hid hpost; clear hpost
  have hz2 := hb2.size
  simp only [World.size_alloc] at hz2
  obtain ⟨e0, e1, e2, e3⟩ := box_cells (w := w1) (by simpa using hb2)
  obtain ⟨g0, g1, g2, g3⟩ := box_frozen (w := w1) (by simpa using hb2)
  have HB2 := Lib.hid (HB1.out.trans (hb2.mono (by simp only [World.size_alloc]; omega))); clear hb2
  obtain ⟨c0, c1, c2, c3⟩ := box_cells HB2.out
  obtain ⟨f0, f1, f2, f3⟩ := box_frozen HB2.out
  have HBW : Hid (Below w.heap.size w w2) := Lib.hid (below_al _ (by simpa using HB2.out))
  have hne : w1.heap.size ≠ w.heap.size := by omega
  have hne' : w.heap.size ≠ w1.heap.size := by omega
  rcases HP.out with ⟨hno, rfl⟩ | ⟨a, xs, lc, m, hl, hm1, rfl, hfr, h8, hsl⟩
  · have HN : Hid (ofF s.data.toList = none) := Lib.hid (by rw [HO.out, hno]; rfl)
    clear hno HP
    go_wp2
    exact bodyPost_ret (v := .tuple #[.agg #[.int .i64 0, .int .i64 0, .string ⟨#[]⟩, .slice none 0 0], .int .i64 0, .int .i64 11]) (by simp [results, Try.results49, go_sem, c0, c1, c2, c3]) rfl ⟨below_set4 (below_set4 HBW.out (by omega) _ _ _ _) (Nat.le_refl _) _ _ _ _, .inl ⟨HN.out, rfl⟩⟩
  · have HN : Hid (ofF s.data.toList = some ((3, 0, ⟨#[]⟩), xs.map cont, m)) := Lib.hid (by rw [HO.out, hl]; rfl)
    have hmz : ((m : Int) == 0) = false := by rw [beq_eq_false_iff_ne]; omega
    have HFR := Lib.hid hfr
    have HSL := Lib.hid (show SlG (w1.heap.size + 1) w2 a xs by simpa using hsl)
    clear hl hfr hsl HP
    go_wp2
    exact bodyPost_ret (v := .tuple #[.agg #[.int .i64 3, .int .i64 0, .string ⟨#[]⟩, .slice a xs.length lc], .int .i64 m, .int .i64 0]) (by simp [results, Try.results49, go_sem, c0, c1, c2, c3]) rfl ⟨below_set4 (below_set4 HBW.out (by omega) _ _ _ _) (Nat.le_refl _) _ _ _ _, .inr ⟨3, 0, _, a, xs, lc, m, HN.out, rfl, ⟨by decide, by decide⟩, HFR.out, h8, ((HSL.out.setCells (by omega) _ _ _ _).setCells (by omega) _ _ _ _).weak (by omega)⟩⟩

theorem of_any (s : ByteArray) (w : World) (hs : s.size ≤ 140737488355328) : Calls Try.prog 49 #[.string s] w (OfPost s.data.toList w) := by
  by_cases h3 : s.data.toList.head? = some 3
  · exact of_list s w hs h3
  · exact of_item s w hs h3
end Go.Proofs.Ytnghhhmhinailaa.Dm
