/- The contracts of Atoi at this program and of readInt: for every string of at most 2^47 bytes; other memory stands. -/
import Derived.Test.YtoiahhfjejddjaaDoorH
import Derived.Test.YtoiahhfjejddjaaDoorText
import Derived.Lib.AtoiErrMem
set_option maxRecDepth 100000
namespace Go.Proofs.YtoiahhfjejddjaaDoor
open Go Go.RowKit

def AtoiPost (l : List UInt8) (w : World) (e : Ending) (w' : World) : Prop :=
  Below w.heap.size w w' ∧ ((∃ v, Lib.atoiAll l = .ok v ∧ e = .returned (.tuple #[.int .i64 v, .nilIface])) ∨ ((∀ v, Lib.atoiAll l ≠ .ok v) ∧ ∃ (v : Int) (N : Nat), e = .returned (.tuple #[.int .i64 v, .iface 98 (.pointer (some ⟨N, 0, none⟩))])))

theorem atoi_none (s : ByteArray) (w : World) (hL : Laid w) (hs : s.size ≤ 140737488355328) (h1 : ∀ v, Lib.atoiAll s.data.toList ≠ .ok v) (h2 : Lib.atoiAll s.data.toList ≠ .range) : Calls Tryd.prog 72 #[.string s] w (AtoiPost s.data.toList w) := by
  obtain ⟨ev, q1, q2⟩ := hL.syn
  refine (Any.strconv_Atoi_syntax Tryd.laysC172 s (by omega) ?_ ev w q1 q2).mono ?_
  · cases e : Lib.atoiAll s.data.toList <;> first | rfl | exact absurd e (h1 _) | exact absurd e h2
  · rintro e w' ⟨N, rfl, _, _, hb⟩
    exact ⟨hb, .inr ⟨h1, _, N, rfl⟩⟩

theorem atoi_any (s : ByteArray) (w : World) (hL : Laid w) (hs : s.size ≤ 140737488355328) : Calls Tryd.prog 72 #[.string s] w (AtoiPost s.data.toList w) := by
  by_cases hv : ∃ v, Lib.atoiAll s.data.toList = .ok v
  · obtain ⟨v, h⟩ := hv
    refine (Tryd.strconv_Atoi_ok s (by omega) v h w).mono ?_
    rintro e w' ⟨rfl, hw⟩
    refine ⟨?_, .inl ⟨v, h, rfl⟩⟩
    rcases hw with rfl | ⟨t, rfl⟩
    · exact Below.refl _ _
    · exact Lib.bytesWorld_below _ _ _
  · by_cases h : Lib.atoiAll s.data.toList = .range
    · obtain ⟨ev, h1, h2⟩ := hL.rng
      refine (Tryd.strconv_Atoi_range s (by omega) h ev w h1 h2).mono ?_
      rintro e w' ⟨N, rfl, _, _, hb⟩
      exact ⟨hb, .inr ⟨fun v e => hv ⟨v, e⟩, _, N, rfl⟩⟩
    · exact atoi_none s w hL hs (fun v e => hv ⟨v, e⟩) h

/-- That item whose text the bytes begin with, if its kind is one of K. -/
def Clause (K : Int → Prop) (s : List UInt8) (k n : Int) (t : ByteArray) (m : Nat) : Prop :=
  ∀ k' n' (t' : ByteArray) r, K k' → itemOk k' n' t' 0 = true → I64 n' → Rest r → s = itemT k' n' t' ++ r → k = k' ∧ n = n' ∧ t = t' ∧ m = (itemT k' n' t').length
/-- What reading an item leaves: some item and how many bytes it has; that item whose text the bytes begin with, if its kind is one of K. -/
def ReadPost (K : Int → Prop) (s : List UInt8) (w : World) (e : Ending) (w' : World) : Prop :=
  ∃ (k n : Int) (t : ByteArray) (m : Nat), e = .returned (.tuple #[.agg #[.int .i64 k, .int .i64 n, .string t, .slice none 0 0], .int .i64 m]) ∧ Below w.heap.size w w' ∧ I64 n ∧ m ≤ s.length ∧ t.size ≤ 33 ∧ Clause K s k n t m

theorem extract_take (s : ByteArray) (j : Nat) (_hj : j ≤ s.size) : (s.extract 0 j).data.toList = s.data.toList.take j := by
  simp

set_option maxHeartbeats 1600000 in
theorem readInt_any (s : ByteArray) (w : World) (hL : Hid (Laid w)) (hs : s.size ≤ 140737488355328) :
    Calls Tryd.prog 64 #[.string s] w (ReadPost (· = 1) s.data.toList w) := by
  go_enter Tryd.func64, Tryd.ntmps64
  go_wp2
  go_loop [4] (fun i => ∃ j : Nat, j ≤ s.size ∧ j ≤ 20 ∧ i = .int .i64 j ∧ Hid (∀ i (hi : i < s.data.toList.length), i < j → numC (s.data.toList[i]'hi) = true)) (fun i => s.size - (intOf i).toNat)
  case atStart => exact ⟨0, by omega, by omega, rfl, Lib.hid (fun i hi h => by omega)⟩
  case round =>
    obtain ⟨j, h1, h20, rfl, HP⟩ := hrel
    by_cases hgo : ∃ (hlt : j < s.size), j < 20 ∧ numC s[j] = true
    · obtain ⟨hlt, hl2, hnc⟩ := hgo
      have HN := Lib.hid hnc; clear hnc
      have hrel2 : Hid (∀ i (hi : i < s.data.toList.length), i < j + 1 → numC (s.data.toList[i]'hi) = true) := Lib.hid (fun i hi hij => by
        by_cases h : i < j
        · exact HP.out i hi h
        · obtain rfl : i = j := by omega
          exact HN.out)
      go_wp2_with fail
      all_goals first
        | (go_round
           case rel => exact ⟨j + 1, by omega, by omega, by go_num, hrel2⟩
           case measure => simp [intOf]; omega)
        | (exfalso; have := of_decide_eq_true HN.out; grind)
    · have hE : Hid (j = s.data.toList.length ∨ j = 20 ∨ ∃ h : j < s.data.toList.length, numC (s.data.toList[j]'h) = false) := by
        have e : s.data.toList.length = s.size := rfl
        refine Lib.hid ?_
        by_cases hlt : j < s.size
        · by_cases hl2 : j < 20
          · right; right
            refine ⟨by omega, ?_⟩
            cases hn : numC s[j]
            · exact hn
            · exact absurd ⟨hlt, hl2, hn⟩ hgo
          · right; left; omega
        · left; omega
      have hex : (s.extract 0 j).data.toList = s.data.toList.take j := extract_take s j h1
      have hsz : (s.extract 0 j).size ≤ 140737488355328 := by
        have e1 : (s.extract 0 j).size = (s.extract 0 j).data.toList.length := rfl
        rw [e1, hex]
        have := List.length_take_le j s.data.toList
        omega
      have HSZ := Lib.hid hsz; clear hsz
      have HOK : Hid (∀ v, Lib.atoiAll (s.extract 0 j).data.toList = .ok v → I64 v ∧ Clause (· = 1) s.data.toList 1 v ⟨#[]⟩ j) := by
        refine Lib.hid (fun v hv => ⟨Lib.atoiAll_bounds hv, ?_⟩)
        rintro k' n' t' r rfl hit hn' hr hs'
        obtain ⟨q1, q2⟩ := int_scan (n := n') (r := r) (by simpa [itemT] using hs') hn'.1 hn'.2 hr (by show j ≤ s.size; exact h1) h20 HP.out hE.out
        rw [hex, q1, atoi_itoa n' hn'.1 hn'.2] at hv
        have ht : t'.toList.isEmpty = true := by
          rcases (itemOk_true hit).2 with ⟨_, h⟩ | ⟨h, _⟩
          · exact h
          · omega
        refine ⟨rfl, by injection hv with hv; exact hv.symm, ?_, by simpa [itemT] using q2⟩
        rw [ByteArray.toList_eq] at ht
        apply ByteArray.ext
        apply Array.toList_inj.1
        rw [List.isEmpty_iff.1 ht]
      have HNO : Hid ((∀ v, Lib.atoiAll (s.extract 0 j).data.toList ≠ .ok v) → Clause (· = 1) s.data.toList 0 0 ⟨#[]⟩ 0) := by
        refine Lib.hid (fun hv => ?_)
        rintro k' n' t' r rfl hit hn' hr hs'
        obtain ⟨q1, q2⟩ := int_scan (n := n') (r := r) (by simpa [itemT] using hs') hn'.1 hn'.2 hr (by show j ≤ s.size; exact h1) h20 HP.out hE.out
        exact absurd (by rw [hex, q1, atoi_itoa n' hn'.1 hn'.2]) (hv n')
      have HG := Lib.hid hgo; clear hgo hex
      have hw : ∀ o : Obj, Hid (Laid (w.alloc o)) := fun o => Lib.hid (hL.out.below ((Below.refl _ _).alloc (Nat.le_refl _) _) hL.out.six)
      by_cases hlt : j < s.size
      · by_cases hl2 : j < 20
        · have hnc : numC s[j] = false := by
            cases hn : numC s[j]
            · rfl
            · exact absurd ⟨hlt, hl2, hn⟩ HG.out
          have HN := Lib.hid hnc; clear hnc
          go_wp2_with fail
          all_goals first
            | (exfalso; have := of_decide_eq_false HN.out; grind)
            | skip
          all_goals
            refine (atoi_any _ _ (hw _).out HSZ.out).mono ?_
            rintro e w2 ⟨hb, ⟨v, hv, rfl⟩ | ⟨hv, v, N, rfl⟩⟩
            · obtain ⟨q1, q2⟩ := HOK.out v hv
              have HV := Lib.hid q2; have HI := Lib.hid q1; clear hv q1 q2
              obtain ⟨c0, c1, c2, c3⟩ := box_cells (by simpa using hb)
              obtain ⟨f0, f1, f2, f3⟩ := box_frozen (by simpa using hb)
              go_wp2
              refine bodyPost_ret (v := .tuple #[.agg #[.int .i64 1, .int .i64 v, .string ⟨#[]⟩, .slice none 0 0], .int .i64 j]) (by simp [results, Tryd.results64, go_sem, c0, c1, c2, c3]) rfl ⟨_, _, _, j, rfl, ?_, HI.out, h1, by decide, HV.out⟩
              exact ((((below_al _ hb).setCell (p := ⟨w.heap.size, 0, none⟩) (Nat.le_refl _) _).setCell (p := ⟨w.heap.size, 1, none⟩) (Nat.le_refl _) _).setCell (p := ⟨w.heap.size, 2, none⟩) (Nat.le_refl _) _).setCell (p := ⟨w.heap.size, 3, none⟩) (Nat.le_refl _) _
            · have HV := Lib.hid (HNO.out hv); clear hv
              obtain ⟨c0, c1, c2, c3⟩ := box_cells (by simpa using hb)
              obtain ⟨f0, f1, f2, f3⟩ := box_frozen (by simpa using hb)
              go_wp2
              refine bodyPost_ret (v := .tuple #[.agg #[.int .i64 0, .int .i64 0, .string ⟨#[]⟩, .slice none 0 0], .int .i64 0]) (by simp [results, Tryd.results64, go_sem, c0, c1, c2, c3]) rfl ⟨_, _, _, 0, rfl, ?_, ⟨by decide, by decide⟩, Nat.zero_le _, by decide, HV.out⟩
              exact ((((below_al _ hb).setCell (p := ⟨w.heap.size, 0, none⟩) (Nat.le_refl _) _).setCell (p := ⟨w.heap.size, 1, none⟩) (Nat.le_refl _) _).setCell (p := ⟨w.heap.size, 2, none⟩) (Nat.le_refl _) _).setCell (p := ⟨w.heap.size, 3, none⟩) (Nat.le_refl _) _
        · go_wp2_with fail
          all_goals
            refine (atoi_any _ _ (hw _).out HSZ.out).mono ?_
            rintro e w2 ⟨hb, ⟨v, hv, rfl⟩ | ⟨hv, v, N, rfl⟩⟩
            · obtain ⟨q1, q2⟩ := HOK.out v hv
              have HV := Lib.hid q2; have HI := Lib.hid q1; clear hv q1 q2
              obtain ⟨c0, c1, c2, c3⟩ := box_cells (by simpa using hb)
              obtain ⟨f0, f1, f2, f3⟩ := box_frozen (by simpa using hb)
              go_wp2
              refine bodyPost_ret (v := .tuple #[.agg #[.int .i64 1, .int .i64 v, .string ⟨#[]⟩, .slice none 0 0], .int .i64 j]) (by simp [results, Tryd.results64, go_sem, c0, c1, c2, c3]) rfl ⟨_, _, _, j, rfl, ?_, HI.out, h1, by decide, HV.out⟩
              exact ((((below_al _ hb).setCell (p := ⟨w.heap.size, 0, none⟩) (Nat.le_refl _) _).setCell (p := ⟨w.heap.size, 1, none⟩) (Nat.le_refl _) _).setCell (p := ⟨w.heap.size, 2, none⟩) (Nat.le_refl _) _).setCell (p := ⟨w.heap.size, 3, none⟩) (Nat.le_refl _) _
            · have HV := Lib.hid (HNO.out hv); clear hv
              obtain ⟨c0, c1, c2, c3⟩ := box_cells (by simpa using hb)
              obtain ⟨f0, f1, f2, f3⟩ := box_frozen (by simpa using hb)
              go_wp2
              refine bodyPost_ret (v := .tuple #[.agg #[.int .i64 0, .int .i64 0, .string ⟨#[]⟩, .slice none 0 0], .int .i64 0]) (by simp [results, Tryd.results64, go_sem, c0, c1, c2, c3]) rfl ⟨_, _, _, 0, rfl, ?_, ⟨by decide, by decide⟩, Nat.zero_le _, by decide, HV.out⟩
              exact ((((below_al _ hb).setCell (p := ⟨w.heap.size, 0, none⟩) (Nat.le_refl _) _).setCell (p := ⟨w.heap.size, 1, none⟩) (Nat.le_refl _) _).setCell (p := ⟨w.heap.size, 2, none⟩) (Nat.le_refl _) _).setCell (p := ⟨w.heap.size, 3, none⟩) (Nat.le_refl _) _
      · go_wp2_with fail
        all_goals
          refine (atoi_any _ _ (hw _).out HSZ.out).mono ?_
          rintro e w2 ⟨hb, ⟨v, hv, rfl⟩ | ⟨hv, v, N, rfl⟩⟩
          · obtain ⟨q1, q2⟩ := HOK.out v hv
            have HV := Lib.hid q2; have HI := Lib.hid q1; clear hv q1 q2
            obtain ⟨c0, c1, c2, c3⟩ := box_cells (by simpa using hb)
            obtain ⟨f0, f1, f2, f3⟩ := box_frozen (by simpa using hb)
            go_wp2
            refine bodyPost_ret (v := .tuple #[.agg #[.int .i64 1, .int .i64 v, .string ⟨#[]⟩, .slice none 0 0], .int .i64 j]) (by simp [results, Tryd.results64, go_sem, c0, c1, c2, c3]) rfl ⟨_, _, _, j, rfl, ?_, HI.out, h1, by decide, HV.out⟩
            exact ((((below_al _ hb).setCell (p := ⟨w.heap.size, 0, none⟩) (Nat.le_refl _) _).setCell (p := ⟨w.heap.size, 1, none⟩) (Nat.le_refl _) _).setCell (p := ⟨w.heap.size, 2, none⟩) (Nat.le_refl _) _).setCell (p := ⟨w.heap.size, 3, none⟩) (Nat.le_refl _) _
          · have HV := Lib.hid (HNO.out hv); clear hv
            obtain ⟨c0, c1, c2, c3⟩ := box_cells (by simpa using hb)
            obtain ⟨f0, f1, f2, f3⟩ := box_frozen (by simpa using hb)
            go_wp2
            refine bodyPost_ret (v := .tuple #[.agg #[.int .i64 0, .int .i64 0, .string ⟨#[]⟩, .slice none 0 0], .int .i64 0]) (by simp [results, Tryd.results64, go_sem, c0, c1, c2, c3]) rfl ⟨_, _, _, 0, rfl, ?_, ⟨by decide, by decide⟩, Nat.zero_le _, by decide, HV.out⟩
            exact ((((below_al _ hb).setCell (p := ⟨w.heap.size, 0, none⟩) (Nat.le_refl _) _).setCell (p := ⟨w.heap.size, 1, none⟩) (Nat.le_refl _) _).setCell (p := ⟨w.heap.size, 2, none⟩) (Nat.le_refl _) _).setCell (p := ⟨w.heap.size, 3, none⟩) (Nat.le_refl _) _
end Go.Proofs.YtoiahhfjejddjaaDoor
