/- Texts of the same proof, one behind the other: EB, BShelf, EA, EC, DC. -/
import Derived.Test.YtijggofelepaaaaGreatDoorCDA
import Derived.Test.YtijggofelepaaaaGreatDoorMAD
import Derived.WalkKit
import Derived.WalkLawsBesides
import Derived.Below
import Derived.Test.YtijggofelepaaaaGreatDoorMAA
import Derived.Laws.BitsAllLaws
import Derived.Laws.IdiomStrings
import Derived.Laws.OwnMore
/- The contract of Check: whether a datum may be. -/
set_option maxRecDepth 100000
namespace Go.Proofs.YtijggofelepaaaaGreatDoor.Dm
open Go.RowKit

set_option maxHeartbeats 400000 in
theorem checkItem_ok (k n : Int) (s : ByteArray) (a : Option Addr) (ll lc : Nat) (w : World) (h : itemOk k n s ll = true) :
    Calls Tryz.prog 161 #[.agg #[.int .i64 k, .int .i64 n, .string s, .slice a ll lc]] w fun e w' => e = .returned (.int .i64 0) ∧ Below w.heap.size w w' := by
  have H := Lib.hid h; clear h
  go_enter Tryz.func161, Tryz.ntmps161
  go_wp2
  all_goals first
    | (exfalso; have := itemOk_true H.out; grind)
    | (go_ret; exact ⟨rfl, (Below.refl _ _).alloc (Nat.le_refl _) _⟩)

set_option maxHeartbeats 400000 in
theorem checkItem_no (k n : Int) (s : ByteArray) (a : Option Addr) (ll lc : Nat) (w : World) (h : itemOk k n s ll = false) :
    Calls Tryz.prog 161 #[.agg #[.int .i64 k, .int .i64 n, .string s, .slice a ll lc]] w fun e w' => e = .returned (.int .i64 11) ∧ Below w.heap.size w w' := by
  have H := Lib.hid h; clear h
  go_enter Tryz.func161, Tryz.ntmps161
  go_wp2
  all_goals first
    | (exfalso; have := itemOk_false H.out; grind)
    | (go_ret; exact ⟨rfl, (Below.refl _ _).alloc (Nat.le_refl _) _⟩)

set_option maxHeartbeats 400000 in
theorem checkList_ok (k n : Int) (s : ByteArray) (a : Option Addr) (xs : List It) (lc : Nat) (w : World) (hS : Sl w a xs) (h : listOk n s xs = true) :
    Calls Tryz.prog 160 #[.agg #[.int .i64 k, .int .i64 n, .string s, .slice a xs.length lc]] w fun e w' => e = .returned (.int .i64 0) ∧ Below w.heap.size w w' := by
  simp only [listOk, Bool.and_eq_true, decide_eq_true_eq, List.all_eq_true] at h
  obtain ⟨⟨rfl, hs, hlen⟩, hall⟩ := h
  have HA := Lib.hid hall; clear hall
  have HS := Lib.hid hS; clear hS
  obtain ⟨ll, hll⟩ : ∃ ll, ll = xs.length := ⟨_, rfl⟩
  rw [← hll] at hlen ⊢
  have HL := Lib.hid hll; clear hll
  go_enter Tryz.func160, Tryz.ntmps160
  go_wp2
  go_loopw [22] (fun i wr => ∃ j : Nat, j ≤ ll ∧ i = .int .i64 j ∧ Below w.heap.size w wr) (fun i _ => ll - (intOf i).toNat)
  case atStart => exact ⟨0, Nat.zero_le _, rfl, (Below.refl _ _).alloc (Nat.le_refl _) _⟩
  case round =>
    obtain ⟨j, hj, rfl, hb⟩ := hrel
    by_cases hlt : j < ll
    · have hlt' : j < xs.length := by rw [← HL.out]; exact hlt
      obtain ⟨b, off, rfl, hbw, hc⟩ := (HS.out.below hb (Nat.le_refl _)).at hlt'
      obtain ⟨c0, c1, c2, c3⟩ := hc j hlt'
      clear hc
      have hok : (xs[j]'hlt').ok = true := HA.out _ (List.getElem_mem _)
      have HO := Lib.hid hok; clear hok
      go_wp2_with (go_at_call 161; refine (checkItem_ok _ _ _ _ _ _ _ HO.out).mono ?_)
      rintro e w1 ⟨rfl, hb1⟩
      go_wp2
      go_roundw
      case rel => exact ⟨j + 1, by omega, by go_num, below_then_al hb (Nat.le_refl _) _ hb1⟩
      case measure => simp [intOf]; omega
    · go_wp2
      go_ret
      exact ⟨rfl, hb⟩
set_option maxHeartbeats 800000 in
theorem checkList_no (k n : Int) (s : ByteArray) (a : Option Addr) (xs : List It) (lc : Nat) (w : World) (hS : Sl w a xs) (h : listOk n s xs = false) :
    Calls Tryz.prog 160 #[.agg #[.int .i64 k, .int .i64 n, .string s, .slice a xs.length lc]] w fun e w' => e = .returned (.int .i64 11) ∧ Below w.heap.size w w' := by
  have HF := Lib.hid h; clear h
  have HS := Lib.hid hS; clear hS
  obtain ⟨ll, hll⟩ : ∃ ll, ll = xs.length := ⟨_, rfl⟩
  rw [← hll]
  have HL := Lib.hid hll; clear hll
  by_cases hn : n = 0
  · subst hn
    cases hs : s.toList.isEmpty
    · go_enter Tryz.func160, Tryz.ntmps160
      go_wp2
      go_ret
      exact ⟨rfl, (Below.refl _ _).alloc (Nat.le_refl _) _⟩
    · by_cases hl : (ll : Int) ≤ 8
      · have hfst := listOk_first HF.out rfl hs (by rw [← HL.out]; exact hl)
        have HFS := Lib.hid hfst; clear hfst
        go_enter Tryz.func160, Tryz.ntmps160
        go_wp2
        go_loopw [22] (fun i wr => ∃ j : Nat, j ≤ ll ∧ i = .int .i64 j ∧ Below w.heap.size w wr ∧ Hid (∀ i (hi : i < xs.length), i < j → (xs[i]'hi).ok = true)) (fun i _ => ll - (intOf i).toNat)
        case atStart => exact ⟨0, Nat.zero_le _, rfl, (Below.refl _ _).alloc (Nat.le_refl _) _, Lib.hid (fun _ _ h => by omega)⟩
        case round =>
          obtain ⟨j, hj, rfl, hb, HP⟩ := hrel
          by_cases hlt : j < ll
          · have hlt' : j < xs.length := by rw [← HL.out]; exact hlt
            obtain ⟨b, off, rfl, hbw, hc⟩ := (HS.out.below hb (Nat.le_refl _)).at hlt'
            obtain ⟨c0, c1, c2, c3⟩ := hc j hlt'
            clear hc
            cases hok : (xs[j]'hlt').ok
            · have HO := Lib.hid hok; clear hok
              go_wp2_with (go_at_call 161; refine (checkItem_no _ _ _ _ _ _ _ HO.out).mono ?_)
              rintro e w1 ⟨rfl, hb1⟩
              go_wp2
              go_ret
              exact ⟨rfl, below_then_al hb (Nat.le_refl _) _ hb1⟩
            · have HO := Lib.hid hok; clear hok
              go_wp2_with (go_at_call 161; refine (checkItem_ok _ _ _ _ _ _ _ HO.out).mono ?_)
              rintro e w1 ⟨rfl, hb1⟩
              go_wp2
              go_roundw
              case rel =>
                refine ⟨j + 1, by omega, by go_num, below_then_al hb (Nat.le_refl _) _ hb1, Lib.hid (fun i hi hij => ?_)⟩
                by_cases hij' : i < j
                · exact HP.out i hi hij'
                · obtain rfl : i = j := by omega
                  exact HO.out
              case measure => simp [intOf]; omega
          · exfalso
            exact HFS.out (fun i hi => HP.out i hi (by have := HL.out; omega))
      · go_enter Tryz.func160, Tryz.ntmps160
        go_wp2
        go_ret
        exact ⟨rfl, (Below.refl _ _).alloc (Nat.le_refl _) _⟩
  · go_enter Tryz.func160, Tryz.ntmps160
    go_wp2
    go_ret
    exact ⟨rfl, (Below.refl _ _).alloc (Nat.le_refl _) _⟩

set_option maxHeartbeats 400000 in
theorem check_ok (k n : Int) (s : ByteArray) (a : Option Addr) (xs : List It) (lc : Nat) (w : World) (hS : Sl w a xs) (h : dOk k n s xs = true) :
    Calls Tryz.prog 115 #[.agg #[.int .i64 k, .int .i64 n, .string s, .slice a xs.length lc]] w fun e w' => e = .returned (.int .i64 0) ∧ Below w.heap.size w w' := by
  have HS := Lib.hid hS; clear hS
  have HF := Lib.hid h; clear h
  by_cases hk : k = 3
  · subst hk
    go_enter Tryz.func115, Tryz.ntmps115
    go_wp2_with (go_at_call 160; refine (checkList_ok _ _ _ _ _ _ _ (HS.out.below ((Below.refl _ _).alloc (Nat.le_refl _) _) (Nat.le_refl _)) (by have := HF.out; simpa [dOk] using this)).mono ?_)
    rintro e w1 ⟨rfl, hb1⟩
    go_wp2
    go_ret
    exact ⟨rfl, below_al _ hb1⟩
  · go_enter Tryz.func115, Tryz.ntmps115
    go_wp2_with (go_at_call 161; refine (checkItem_ok _ _ _ _ _ _ _ (by have := HF.out; simpa [dOk, hk] using this)).mono ?_)
    rintro e w1 ⟨rfl, hb1⟩
    go_wp2
    go_ret
    exact ⟨rfl, below_al _ hb1⟩

set_option maxHeartbeats 400000 in
theorem check_no (k n : Int) (s : ByteArray) (a : Option Addr) (xs : List It) (lc : Nat) (w : World) (hS : Sl w a xs) (h : dOk k n s xs = false) :
    Calls Tryz.prog 115 #[.agg #[.int .i64 k, .int .i64 n, .string s, .slice a xs.length lc]] w fun e w' => e = .returned (.int .i64 11) ∧ Below w.heap.size w w' := by
  have HS := Lib.hid hS; clear hS
  have HF := Lib.hid h; clear h
  by_cases hk : k = 3
  · subst hk
    go_enter Tryz.func115, Tryz.ntmps115
    go_wp2_with (go_at_call 160; refine (checkList_no _ _ _ _ _ _ _ (HS.out.below ((Below.refl _ _).alloc (Nat.le_refl _) _) (Nat.le_refl _)) (by have := HF.out; simpa [dOk] using this)).mono ?_)
    rintro e w1 ⟨rfl, hb1⟩
    go_wp2
    go_ret
    exact ⟨rfl, below_al _ hb1⟩
  · go_enter Tryz.func115, Tryz.ntmps115
    go_wp2_with (go_at_call 161; refine (checkItem_no _ _ _ _ _ _ _ (by have := HF.out; simpa [dOk, hk] using this)).mono ?_)
    rintro e w1 ⟨rfl, hb1⟩
    go_wp2
    go_ret
    exact ⟨rfl, below_al _ hb1⟩
end Go.Proofs.YtijggofelepaaaaGreatDoor.Dm

/- A builder's Len and String: among the library's other contracts. -/


/- The contracts of a strings.Builder, for every builder that the call itself has made. -/
set_option maxRecDepth 100000
namespace Go.Proofs.YtijggofelepaaaaGreatDoor.Dm
open Go.RowKit Go.Shelf

theorem sizeB : (Tryz.prog.info? 178).map (·.size) = some 2 := by kernel_rfl
theorem liesB : liesAt Tryz.prog Tryz.prog.depth 178 (2 / Tryz.prog.cellsOf 178) 0 178 1 = true := by kernel_rfl
set_option maxHeartbeats 1000000 in
theorem copyCheck_used (b : Nat) (w : World) (h0 : w.cell? ⟨b, 0, none⟩ = some (.pointer (some ⟨b, 0, none⟩))) :
    Calls Tryz.prog 164 #[.pointer (some ⟨b, 0, none⟩)] w fun e w' => e = .returned (.tuple #[]) ∧ w' = w := by
  obtain ⟨j, hj, _⟩ := Option.map_eq_some_iff.1 sizeB
  go_enter Tryz.func164, Tryz.ntmps164
  go_wp2
  rw [Lib.run_neq_ptr_same w _ Tryz.underlying176 hj]
  go_wp2
  go_end0
  exact ⟨rfl, rfl⟩

set_option maxHeartbeats 1000000 in
theorem copyCheck_fresh (b : Nat) (w : World) (h0 : w.cell? ⟨b, 0, none⟩ = some (.pointer none)) (hsh : w.shape? b = some (178, 2)) (hfz : w.frozen? ⟨b, 0, none⟩ = false) :
    Calls Tryz.prog 164 #[.pointer (some ⟨b, 0, none⟩)] w fun e w' => e = .returned (.tuple #[]) ∧ w' = w.setCell ⟨b, 0, none⟩ (.pointer (some ⟨b, 0, none⟩)) := by
  obtain ⟨j, hj, hjs⟩ := Option.map_eq_some_iff.1 sizeB
  go_enter Tryz.func164, Tryz.ntmps164
  go_wp2
  rw [Lib.run_to_unsafe w ⟨b, 0, none⟩ Tryz.underlying176 Tryz.underlying253 hj (by rw [hjs]; decide) hsh (Nat.zero_lt_succ 1)]
  simp only [Result.andThen]
  rw [Oper.upon_value]
  go_wp2
  rw [run_callFunc_extern Tryz.func190 (by kernel_rfl) (by kernel_rfl) (by kernel_rfl) (e := Extern.AbiNoEscape.same) (by kernel_rfl)]
  rw [Lib.run_noEscape]
  simp only [Result.andThen]
  rw [Oper.upon_value]
  go_wp2
  rw [Lib.run_from_unsafe w ⟨b, 0, none⟩ Tryz.underlying253 Tryz.underlying176 hj hsh liesB]
  simp only [Result.andThen]
  rw [Oper.upon_value]
  go_wp2
  go_end0
  exact ⟨rfl, rfl⟩

theorem copyCheck_k (B b : Nat) (bs : List Value) (w : World) (h : Lib.IsBuilderF 178 5 B b bs w) :
    Calls Tryz.prog 164 #[.pointer (some ⟨b, 0, none⟩)] w fun e w' => e = .returned (.tuple #[]) ∧ (Lib.BuilderAtF 178 5 B b (.pointer (some ⟨b, 0, none⟩)) bs w' ∧ Below B w w' ∧ Lib.OthersKept 5 (some b) w w') := by
  rcases h with h | h
  · refine (copyCheck_fresh b w h.cell0 h.shape h.frozen0).mono ?_
    rintro e w' ⟨rfl, rfl⟩
    exact ⟨rfl, h.used _, (Below.refl B w).setCell (p := ⟨b, 0, none⟩) h.1 _, (Lib.OthersKept.refl _ _ w).setCell ⟨b, 0, none⟩ rfl _⟩
  · refine (copyCheck_used b w h.cell0).mono ?_
    rintro e w' ⟨rfl, rfl⟩
    exact ⟨rfl, h, Below.refl B _, Lib.OthersKept.refl _ _ _⟩

set_option maxHeartbeats 2000000 in
/-- WriteByte onto a builder of the call's own. -/
theorem writeByte_k (B b : Nat) (bs : List Value) (c : Int) (w : World) (h : Lib.IsBuilderF 178 5 B b bs w) (hlen : bs.length + 1 ≤ 140737488355328) (hBw : B ≤ w.heap.size) :
    Calls Tryz.prog 118 #[.pointer (some ⟨b, 0, none⟩), .int .u8 c] w fun e w' => e = .returned .nilIface ∧ (Lib.BuilderAtF 178 5 B b (.pointer (some ⟨b, 0, none⟩)) (bs ++ [.int .u8 c]) w' ∧ Below B w w' ∧ Lib.OthersKept 5 (some b) w w') := by
  obtain ⟨i0, hi, hz0, hz1, hz2⟩ := info_parts infoByte
  go_enter Tryz.func118, Tryz.ntmps118
  go_wp2_with (go_at_call 164; refine (copyCheck_k B b bs _ h).mono ?_)
  rintro e w1 ⟨rfl, h1, hb1, hk1⟩
  obtain ⟨hB, v, hbk, hown, hne⟩ := h1
  have c0 : w1.cell? ⟨b, 0, none⟩ = some (.pointer (some ⟨b, 0, none⟩)) := by rw [Lib.cell_of_heap hbk]; rfl
  have c1 : w1.cell? ⟨b, 1, none⟩ = some v := by rw [Lib.cell_of_heap hbk]; rfl
  go_wp2_with (at_builtin; refine wpList_append_ownF _ rfl _ _ 94 rfl B 5 i0 (.int .u8 0) 1 1 Tryz.underlying94 hi hz0 hz1 hz2 rfl (by decide) _ _ _ rfl (hown.alloc _) ⟨w1.heap.size, 0, none⟩ 1 1 [.int .u8 c] rfl rfl ?c1 ?c2 ?c3 ?c4 ?c5 ?_)
  case c1 =>
    intro j u hj
    match j, hj with
    | 0, hj => simp at hj; subst hj; simp [Addr.add]
  case c2 => intro u hu; simp at hu; subst hu; rfl
  case c3 => unfold maxLen; omega
  case c4 => omega
  case c5 => have := hb1.size; simp; omega
  intro v' w2 hown' hgrow _
  have hlt : b < w1.heap.size := by
    rcases Nat.lt_or_ge b w1.heap.size with h' | h'
    · exact h'
    · simp [Array.getElem?_eq_none h'] at hbk
  have hb2 : w2.heap[b]? = some (.cells #[.pointer (some ⟨b, 0, none⟩), v] 178 (0, 0)) := by
    rw [hgrow.block b (by simp; omega) (fun e => hne e.symm), Lib.alloc_old w1 _ b hlt]
    exact hbk
  have d0 : w2.cell? ⟨b, 0, none⟩ = some (.pointer (some ⟨b, 0, none⟩)) := by rw [Lib.cell_of_heap hb2]; rfl
  have d1 : w2.cell? ⟨b, 1, none⟩ = some v := by rw [Lib.cell_of_heap hb2]; rfl
  have f1 : w2.frozen? ⟨b, 1, none⟩ = false := Lib.frozen_of_heap hb2 1
  obtain ⟨g, cap, rfl⟩ : ∃ g cap, v' = .slice (some ⟨g, 0, none⟩) (bs.length + 1) cap := by
    rcases hown'.2 with ⟨_, h0⟩ | ⟨g, cap, cur, fz, hv, _⟩
    · omega
    · exact ⟨g, cap, hv⟩
  go_wp2
  go_ret
  refine ⟨rfl, ?_, ?_, ((hk1.alloc _).grown hgrow (Lib.ownsRowF_kind (hown.alloc _))).setCell ⟨b, 1, none⟩ rfl _⟩
  · exact Lib.BuilderAtF.put (T := 178) (e := 5) hB hb2 (bs' := bs ++ [.int .u8 c]) (by simpa using hown') (by decide)
  · exact ((hb1.alloc (by have := hb1.size; omega) _).grown hgrow (by have := hb1.size; simp; omega) (fun k hk => (hown.lt k hk).1)).setCell (p := ⟨b, 1, none⟩) hB _
end Go.Proofs.YtijggofelepaaaaGreatDoor.Dm

/- The contracts of the functions that hand the bytes of a datum to a function value. -/
set_option maxRecDepth 100000
namespace Go.Proofs.YtijggofelepaaaaGreatDoor.Dm
open Go.RowKit

/-- A function value that takes bytes one by one: what it has taken so far is told by I. -/
structure Putter (F : Nat) (p : Value) (b B : Nat) (I : List UInt8 → World → Prop) : Prop where
  enters : ∀ args w, (callFunc F args).run Tryz.prog w = .ok (.enter F args) w
  put : ∀ (l : List UInt8) (w : World) (c : Int) (u : UInt8), c = (u.toNat : Int) → I l w → l.length ≤ 100000 → B ≤ w.heap.size →
    Calls Tryz.prog F #[.int .u8 c, p] w fun e w' => e = .returned (.tuple #[]) ∧ I (l ++ [u]) w' ∧ Below B w w' ∧ Lib.OthersKept 5 (some b) w w'
  alloc : ∀ l w o, I l w → I l (w.alloc o)
  low : ∀ l w, I l w → b < w.heap.size

/-- What a function that hands bytes on leaves behind. -/
def Fed (I : List UInt8 → World → Prop) (b B : Nat) (l : List UInt8) (w w' : World) : Prop :=
  I l w' ∧ Below B w w' ∧ Lib.OthersKept 5 (some b) w w'

theorem Fed.trans {I : List UInt8 → World → Prop} {b B : Nat} {l l' : List UInt8} {a c d : World} (h : Fed I b B l a c) (k : Fed I b B l' c d) : Fed I b B l' a d :=
  ⟨k.1, h.2.1.trans k.2.1, h.2.2.trans k.2.2⟩

set_option maxHeartbeats 400000 in
theorem eachOfInt_any {F : Nat} {p : Value} {b B : Nat} {I : List UInt8 → World → Prop} (P : Hid (Putter F p b B I)) (l : List UInt8) (n : Int) (w : World) (hI : Hid (I l w)) (hM : l.length ≤ 50000) (hB : B ≤ w.heap.size) :
    Calls Tryz.prog 162 #[.int .i64 n, .func (.func F) #[] #[p]] w fun e w' => e = .returned (.tuple #[]) ∧ Fed I b B (l ++ intB n) w w' := by
  have hen := P.out.enters
  go_enter Tryz.func162, Tryz.ntmps162
  go_wp2
  go_loopw [5] (fun i wr => ∃ m : Int, -1 ≤ m ∧ m ≤ 7 ∧ i = .int .i64 m ∧ Fed I b B (l ++ intTo n (7 - m).toNat) w wr) (fun i _ => (intOf i + 1).toNat)
  case atStart => exact ⟨7, by omega, by omega, rfl, by simpa [intTo] using hI.out, Below.refl _ _, Lib.OthersKept.refl _ _ _⟩
  case round =>
    obtain ⟨m, h1, h2, rfl, hb⟩ := hrel
    have HB := Lib.hid hb; clear hb
    by_cases hlt : 0 ≤ m
    · go_wp2_with fail
      refine (P.out.put _ _ _ (byt (uOf n / 2 ^ (8 * m).toNat)) (byt_nat _).symm HB.out.1 (by simp [intTo_length]; omega) (by have := HB.out.2.1.size; omega)).mono ?_
      rintro e w1 ⟨rfl, hf⟩
      have HF := Lib.hid (show Fed I b B _ _ _ from hf); clear hf
      go_wp2
      go_roundw
      case rel =>
        refine ⟨m - 1, by omega, by omega, rfl, ?_⟩
        have e1 : (7 - (m - 1)).toNat = (7 - m).toNat + 1 := by omega
        have e2 : (7 : Int) - ((7 - m).toNat : Nat) = m := by omega
        rw [e1, intTo_succ, e2, ← List.append_assoc]
        exact HB.out.trans HF.out
      case measure => simp [intOf]; omega
    · go_wp2
      go_end0
      refine ⟨rfl, ?_⟩
      have e1 : (7 - m).toNat = 8 := by omega
      have := HB.out
      rwa [e1] at this

set_option maxHeartbeats 800000 in
theorem eachOfText_any {F : Nat} {p : Value} {b B : Nat} {I : List UInt8 → World → Prop} (P : Hid (Putter F p b B I)) (l : List UInt8) (s : ByteArray) (w : World) (hI : Hid (I l w)) (hM : l.length ≤ 50000) (hs : s.size ≤ 10000) (hB : B ≤ w.heap.size) :
    Calls Tryz.prog 163 #[.string s, .func (.func F) #[] #[p]] w fun e w' => e = .returned (.tuple #[]) ∧ Fed I b B (l ++ textB s.data.toList) w w' := by
  have hen := P.out.enters
  have hlen : s.data.toList.length = s.size := rfl
  have HLEN := Lib.hid hlen; clear hlen
  go_enter Tryz.func163, Tryz.ntmps163
  go_wp2
  go_loopw [7] (fun i wr => ∃ j : Nat, j ≤ s.size ∧ i = .int .i64 j ∧ Fed I b B (l ++ textTo (s.data.toList.take j)) w wr) (fun i _ => s.size - (intOf i).toNat)
  case atStart => exact ⟨0, by omega, rfl, by simpa [textTo] using hI.out, Below.refl _ _, Lib.OthersKept.refl _ _ _⟩
  case round =>
    obtain ⟨j, h1, rfl, hb⟩ := hrel
    have HB := Lib.hid hb; clear hb
    have hl : (textTo (s.data.toList.take j)).length ≤ 2 * j := by
      have := textTo_length (s.data.toList.take j)
      have := List.length_take_le j s.data.toList
      omega
    by_cases hlt : j < s.size
    · have HT := Lib.hid (take_snoc s j hlt)
      go_wp2_with fail
      refine (P.out.put _ _ _ s[j] rfl HB.out.1 (by simp; omega) (by have := HB.out.2.1.size; omega)).mono ?_
      rintro e w1 ⟨rfl, hf⟩
      have HF := Lib.hid (show Fed I b B _ _ _ from hf); clear hf
      by_cases hz : s[j] = 0
      · have hz1 : ((s[j].toNat : Int) == 0) = true := by rw [hz]; rfl
        have HZ := Lib.hid hz; clear hz
        go_wp2_with fail
        refine (P.out.put _ _ _ 255 rfl HF.out.1 (by simp; omega) (by have := HB.out.2.1.size; have := HF.out.2.1.size; omega)).mono ?_
        rintro e w2 ⟨rfl, hf2⟩
        have HF2 := Lib.hid (show Fed I b B _ _ _ from hf2); clear hf2
        go_wp2
        go_roundw
        case rel =>
          refine ⟨j + 1, by omega, by go_num, ?_⟩
          rw [HT.out, textTo_snoc, if_pos HZ.out, ← List.append_assoc]
          have := HB.out.trans (HF.out.trans HF2.out)
          rw [HZ.out] at this
          simpa using this
        case measure => simp [intOf]; omega
      · have hz1 : ((s[j].toNat : Int) == 0) = false := by
          rw [beq_eq_false_iff_ne]
          intro h
          exact hz (UInt8.toNat_inj.1 (by simpa using h))
        have HZ := Lib.hid hz; clear hz
        go_wp2_with fail
        go_roundw
        case rel =>
          refine ⟨j + 1, by omega, by go_num, ?_⟩
          rw [HT.out, textTo_snoc, if_neg HZ.out, ← List.append_assoc]
          exact HB.out.trans HF.out
        case measure => simp [intOf]; omega
    · go_wp2_with fail
      refine (P.out.put _ _ _ 0 rfl HB.out.1 (by simp; omega) (by have := HB.out.2.1.size; omega)).mono ?_
      rintro e w1 ⟨rfl, hf⟩
      have HF := Lib.hid (show Fed I b B _ _ _ from hf); clear hf
      go_wp2_with fail
      refine (P.out.put _ _ _ 0 rfl HF.out.1 (by simp; omega) (by have := HB.out.2.1.size; have := HF.out.2.1.size; omega)).mono ?_
      rintro e w2 ⟨rfl, hf2⟩
      have HF2 := Lib.hid (show Fed I b B _ _ _ from hf2); clear hf2
      go_wp2
      go_end0
      refine ⟨rfl, ?_⟩
      have := HB.out.trans (HF.out.trans HF2.out)
      rw [List.take_of_length_le (by have := HLEN.out; omega)] at this
      simpa [textB] using this
end Go.Proofs.YtijggofelepaaaaGreatDoor.Dm

/- The contract of the reference's Encoded. -/
set_option maxRecDepth 100000
namespace Go.Proofs.YtijggofelepaaaaGreatDoor.Dm
open Go Go.RowKit

theorem new_heap (w : World) (o : Obj) : (w.alloc o).heap[w.heap.size]? = some o := by
  show (w.heap.push o)[w.heap.size]? = some o
  simp

theorem box_heap_cells {w : World} {k : Nat} {v0 v1 v2 v3 : Value} (h : w.heap[k]? = some (.cells #[v0, v1, v2, v3] 130 (0, 0))) :
    w.cell? ⟨k, 0, none⟩ = some v0 ∧ w.cell? ⟨k, 1, none⟩ = some v1 ∧ w.cell? ⟨k, 2, none⟩ = some v2 ∧ w.cell? ⟨k, 3, none⟩ = some v3 := by
  refine ⟨?_, ?_, ?_, ?_⟩ <;> (rw [Lib.cell_of_heap h]; rfl)

/-- A row of bytes of the call's own. -/
abbrev Row (B : Nat) (w : World) (v : Value) (acc : List UInt8) : Prop := w.ownsRow B 5 1 v acc.length (Lib.byteCells acc)

theorem oneByte (x : UInt8) : Lib.byteCells [x] = [.int .u8 (x.toNat : Int)] := rfl

/-- One byte more. -/
theorem wp_app1 {ops : Array Oper} {rest : List Oper} {o : Oper} {a : Act} {Q : Exit → Act → World → Prop} {w : World} (hgd : o.guard = none) (s x : Operand)
    (ho : o.op = .call { callee := .builtin .append, args := #[s, x], argTypes := #[94, 94] }) (B : Nat) (acc : List UInt8) (v : Value) (hs : a.eval s = v) (hown : Row B w v acc) (hB : B ≤ w.heap.size) (hlen : acc.length ≤ 1000000)
    (u : UInt8) (c : Int) (hc : c = (u.toNat : Int)) (hx : a.eval x = .slice (some ⟨w.heap.size, 0, none⟩) 1 1)
    (h : ∀ g cap w', Row B w' (.slice (some ⟨g, 0, none⟩) (acc.length + 1) cap) (acc ++ [u]) → Below B w w' → Lib.OthersKept 5 none w w' → wpList Tryz.prog ops Q rest (a.put o.dst (.slice (some ⟨g, 0, none⟩) (acc.length + 1) cap)) w') :
    wpList Tryz.prog ops Q (o :: rest) a (w.alloc (.cells #[.int .u8 c] 5)) := by
  subst hc
  obtain ⟨i0, hi, q0, q1, q2⟩ := info_parts infoByte
  refine wpList_append_own _ hgd s x 94 ho B 5 i0 (.int .u8 0) 1 1 Tryz.underlying94 hi q0 q1 q2 rfl (by decide) v acc.length (Lib.byteCells acc) hs (hown.alloc _) ⟨w.heap.size, 0, none⟩ 1 1 [.int .u8 (u.toNat : Int)] hx rfl ?_ ?_ (by unfold maxLen; omega) (by omega) (by rw [World.size_alloc]; omega) ?_
  · intro j u' hj
    match j, hj with
    | 0, hj => simp at hj; subst hj; simp [Addr.add]
  · intro u' hu; simp at hu; subst hu; rfl
  · intro v' w' hown' hgrow _
    obtain ⟨g, cap, rfl⟩ : ∃ g cap, v' = .slice (some ⟨g, 0, none⟩) (acc.length + 1) cap := by
      rcases hown'.2 with ⟨_, h0⟩ | ⟨g, cap, cur, hv, _⟩
      · omega
      · exact ⟨g, cap, hv⟩
    refine h g cap w' ?_ ?_ ?_
    · show w'.ownsRow B 5 1 _ (acc ++ [u]).length (Lib.byteCells (acc ++ [u]))
      rw [List.length_append, Lib.byteCells_append, oneByte]
      exact hown'
    · exact ((Below.refl _ _).alloc hB _).grown hgrow (by rw [World.size_alloc]; omega) (fun k hk => (hown.lt k hk).1)
    · exact ((Lib.OthersKept.refl _ _ w).alloc _).grown hgrow (Lib.ownsRowF_kind (World.ownsRowF_of (hown.alloc _)))

theorem twoBytes (x y : UInt8) : Lib.byteCells [x, y] = [.int .u8 (x.toNat : Int), .int .u8 (y.toNat : Int)] := rfl

/-- Two bytes more. -/
theorem wp_app2 {ops : Array Oper} {rest : List Oper} {o : Oper} {a : Act} {Q : Exit → Act → World → Prop} {w : World} (hgd : o.guard = none) (s x : Operand)
    (ho : o.op = .call { callee := .builtin .append, args := #[s, x], argTypes := #[94, 94] }) (B : Nat) (acc : List UInt8) (v : Value) (hs : a.eval s = v) (hown : Row B w v acc) (hB : B ≤ w.heap.size) (hlen : acc.length ≤ 1000000)
    (u v2 : UInt8) (hx : a.eval x = .slice (some ⟨w.heap.size, 0, none⟩) 2 2)
    (h : ∀ g cap w', Row B w' (.slice (some ⟨g, 0, none⟩) (acc.length + 2) cap) (acc ++ [u, v2]) → Below B w w' → Lib.OthersKept 5 none w w' → wpList Tryz.prog ops Q rest (a.put o.dst (.slice (some ⟨g, 0, none⟩) (acc.length + 2) cap)) w') :
    wpList Tryz.prog ops Q (o :: rest) a (w.alloc (.cells #[.int .u8 (u.toNat : Int), .int .u8 (v2.toNat : Int)] 5)) := by
  obtain ⟨i0, hi, q0, q1, q2⟩ := info_parts infoByte
  refine wpList_append_own _ hgd s x 94 ho B 5 i0 (.int .u8 0) 1 1 Tryz.underlying94 hi q0 q1 q2 rfl (by decide) v acc.length (Lib.byteCells acc) hs (hown.alloc _) ⟨w.heap.size, 0, none⟩ 2 2 [.int .u8 (u.toNat : Int), .int .u8 (v2.toNat : Int)] hx rfl ?_ ?_ (by unfold maxLen; omega) (by omega) (by rw [World.size_alloc]; omega) ?_
  · intro j u' hj
    have hq : j = 0 ∨ j = 1 := by
      have := (List.getElem?_eq_some_iff.1 hj).1
      simp at this
      omega
    rcases hq with rfl | rfl <;> (simp at hj; subst hj; simp [Addr.add])
  · intro u' hu; simp at hu; rcases hu with rfl | rfl <;> rfl
  · intro v' w' hown' hgrow _
    obtain ⟨g, cap, rfl⟩ : ∃ g cap, v' = .slice (some ⟨g, 0, none⟩) (acc.length + 2) cap := by
      rcases hown'.2 with ⟨_, h0⟩ | ⟨g, cap, cur, hv, _⟩
      · omega
      · exact ⟨g, cap, hv⟩
    refine h g cap w' ?_ ?_ ?_
    · show w'.ownsRow B 5 1 _ (acc ++ [u, v2]).length (Lib.byteCells (acc ++ [u, v2]))
      rw [List.length_append, Lib.byteCells_append, twoBytes]
      exact hown'
    · exact ((Below.refl _ _).alloc hB _).grown hgrow (by rw [World.size_alloc]; omega) (fun k hk => (hown.lt k hk).1)
    · exact ((Lib.OthersKept.refl _ _ w).alloc _).grown hgrow (Lib.ownsRowF_kind (World.ownsRowF_of (hown.alloc _)))

theorem box_kept {w w1 : World} {k : Nat} {cs : Array Value} (h : Lib.OthersKept 5 none w w1) (hk : w.heap[k]? = some (.cells cs 130 (0, 0))) : w1.heap[k]? = some (.cells cs 130 (0, 0)) :=
  h k _ hk (by simp) (by intro c fz e; simp at e)

theorem and255 (x : Int) : bits BinOp.and IntKind.i64 x 255 = x % 256 := by
  have h1 : (BitVec.ofInt 64 x).toNat = (x % 18446744073709551616).toNat := by rw [BitVec.toNat_ofInt]; rfl
  have h2 : (BitVec.ofInt 64 (255 : Int)).toNat = 2 ^ 8 - 1 := by decide
  show IntKind.i64.wrap ((BitVec.ofInt 64 x &&& BitVec.ofInt 64 255).toNat : Int) = _
  rw [BitVec.toNat_and, h1, h2, Nat.and_two_pow_sub_one_eq_mod, IntKind.wrap_i64]
  omega

theorem xor128 (x : Int) (h0 : 0 ≤ x) (h1 : x < 256) : bits BinOp.xor IntKind.u8 x 128 = (x + 128) % 256 := by
  have h : ∀ n : Fin 256, bits BinOp.xor IntKind.u8 (n.val : Int) 128 = ((n.val : Int) + 128) % 256 := by decide +kernel
  have := h ⟨x.toNat, by omega⟩
  have e : ((x.toNat : Nat) : Int) = x := by omega
  simpa [e] using this

theorem byte_low (n : Int) (hn : I64 n) (m : Int) (h0 : 0 ≤ m) (h6 : m ≤ 6) : bits BinOp.and IntKind.i64 (n / 2 ^ (8 * m).toNat) 255 % 256 = ((byt (uOf n / 2 ^ (8 * m).toNat)).toNat : Int) := by
  rw [byt_nat, and255, uOf_eq n hn.1 hn.2]
  have hm : m = 0 ∨ m = 1 ∨ m = 2 ∨ m = 3 ∨ m = 4 ∨ m = 5 ∨ m = 6 := by omega
  rcases hm with rfl | rfl | rfl | rfl | rfl | rfl | rfl
  · have e : (2 : Int) ^ ((8 : Int) * 0).toNat = 1 := by decide
    rw [e]; omega
  · have e : (2 : Int) ^ ((8 : Int) * 1).toNat = 256 := by decide
    rw [e]; omega
  · have e : (2 : Int) ^ ((8 : Int) * 2).toNat = 65536 := by decide
    rw [e]; omega
  · have e : (2 : Int) ^ ((8 : Int) * 3).toNat = 16777216 := by decide
    rw [e]; omega
  · have e : (2 : Int) ^ ((8 : Int) * 4).toNat = 4294967296 := by decide
    rw [e]; omega
  · have e : (2 : Int) ^ ((8 : Int) * 5).toNat = 1099511627776 := by decide
    rw [e]; omega
  · have e : (2 : Int) ^ ((8 : Int) * 6).toNat = 281474976710656 := by decide
    rw [e]; omega

theorem byte_top (n : Int) (hn : I64 n) : bits BinOp.xor IntKind.u8 (bits BinOp.and IntKind.i64 (n / 72057594037927936) 255 % 256) 128 = ((byt (uOf n / 2 ^ ((8 : Int) * 7).toNat)).toNat : Int) := by
  have e : (2 : Int) ^ ((8 : Int) * 7).toNat = 72057594037927936 := by decide
  rw [byt_nat, and255, uOf_eq n hn.1 hn.2, e, xor128 _ (by omega) (by omega)]
  omega

theorem u8_not0 {u : UInt8} (h : u ≠ 0) : ((u.toNat : Int) == 0) = false := by
  rw [beq_eq_false_iff_ne]
  intro h'
  exact h (UInt8.toNat_inj.1 (by have : u.toNat = 0 := by omega
                                 rw [this]; rfl))

/-- What put leaves. -/
def PutPost (B : Nat) (l : List UInt8) (w : World) (e : Ending) (w' : World) : Prop :=
  ∃ g cap, e = .returned (.slice (some ⟨g, 0, none⟩) l.length cap) ∧ Row B w' (.slice (some ⟨g, 0, none⟩) l.length cap) l ∧ Below B w w' ∧ Lib.OthersKept 5 none w w'

set_option maxHeartbeats 1600000 in
theorem put_int (B : Nat) (acc : List UInt8) (v : Value) (n : Int) (s : ByteArray) (a : Option Addr) (ll lc : Nat) (w : World) (hO : Row B w v acc) (hB : B ≤ w.heap.size) (hacc : acc.length ≤ 50000) (hn : I64 n) :
    Calls Tryz.prog 166 #[v, .agg #[.int .i64 1, .int .i64 n, .string s, .slice a ll lc]] w (PutPost B (acc ++ 1 :: intB n) w) := by
  have HO := Lib.hid hO; clear hO
  have HN := Lib.hid hn; clear hn
  go_enter Tryz.func166, Tryz.ntmps166
  go_wp2_with (at_builtin; refine wp_app1 rfl _ _ rfl B acc _ rfl (HO.out.alloc _) (by simp; omega) (by omega) 1 1 rfl (by rw [World.size_alloc]; rfl) ?_)
  intro g cap w1 ho1 hb1 hk1
  obtain ⟨l1, hl1⟩ : ∃ l1, l1 = acc ++ [1] := ⟨_, rfl⟩
  rw [← hl1] at ho1
  have hlen1 : l1.length = acc.length + 1 := by rw [hl1]; simp
  rw [← hlen1] at ho1
  rw [← hlen1]
  have HL1 := Lib.hid hl1; have HLEN1 := Lib.hid hlen1
  have HO1 := Lib.hid ho1; have HB1 := Lib.hid (((Below.refl B w).alloc hB _).trans hb1); have HK1 := Lib.hid (((Lib.OthersKept.refl 5 none w).alloc _).trans hk1)
  have HX := Lib.hid (box_kept hk1 (new_heap _ _))
  clear ho1 hb1 hk1 hl1 hlen1
  go_wp2
  go_loopw [0, 5, 6] (fun o i b wr => ∃ (m : Int) (l : List UInt8) (g cap : Nat), -1 ≤ m ∧ m ≤ 7 ∧ i = .int .i64 (8 * m) ∧ o = .slice (some ⟨g, 0, none⟩) l.length cap ∧ Hid (l = l1 ++ intTo n (7 - m).toNat) ∧ Hid (Row B wr (.slice (some ⟨g, 0, none⟩) l.length cap) l) ∧ Hid (Below B w wr) ∧ Hid (Lib.OthersKept 5 none w1 wr) ∧ B ≤ wr.heap.size) (fun _ i _ _ => (intOf i + 8).toNat)
  case atStart => exact ⟨7, l1, g, cap, by omega, by omega, rfl, rfl, Lib.hid (by simp [intTo]), HO1, HB1, Lib.hid (Lib.OthersKept.refl _ _ _), by have := HB1.out.size; omega⟩
  case round =>
    obtain ⟨m, l, g2, cap2, h1, h2, rfl, rfl, HLL, HR, HB, HK, hBw⟩ := hrel
    obtain ⟨c0, c1, c2, c3⟩ := box_heap_cells (box_kept HK.out HX.out)
    have hll : l.length ≤ 60000 := by
      have := HLEN1.out
      rw [HLL.out, List.length_append, intTo_length]
      omega
    by_cases hlt : 0 ≤ m
    · have hnext : ∀ u : UInt8, u = byt (uOf n / 2 ^ (8 * m).toNat) → l ++ [u] = l1 ++ intTo n (7 - (m - 1)).toNat := by
        intro u hu
        have e1 : (7 - (m - 1)).toNat = (7 - m).toNat + 1 := by omega
        have e2 : (7 : Int) - ((7 - m).toNat : Nat) = m := by omega
        rw [e1, intTo_succ, e2, hu, HLL.out, List.append_assoc]
      have HNX := Lib.hid hnext; clear hnext
      by_cases h7 : m = 7
      · subst h7
        go_wp2_with (at_builtin; refine wp_app1 rfl _ _ rfl B l _ rfl HR.out hBw (by omega) (byt (uOf n / 2 ^ ((8 : Int) * 7).toNat)) _ (byte_top n HN.out) rfl ?_)
        intro g3 cap3 w3 ho3 hb3 hk3
        have hz3 := hb3.size
        have HO3 := Lib.hid ho3; have HB3 := Lib.hid (HB.out.trans hb3); have HK3 := Lib.hid (HK.out.trans hk3)
        clear ho3 hb3 hk3
        go_wp2
        go_roundw
        case rel => exact ⟨6, l ++ [byt (uOf n / 2 ^ ((8 : Int) * 7).toNat)], g3, cap3, by omega, by omega, rfl, by simp, Lib.hid (HNX.out _ rfl), Lib.hid (by rw [List.length_append]; exact HO3.out), HB3, HK3, by omega⟩
        case measure => simp [intOf]
      · have h7b : (8 * m == 56) = false := by rw [beq_eq_false_iff_ne]; omega
        go_wp2_with (at_builtin; refine wp_app1 rfl _ _ rfl B l _ rfl HR.out hBw (by omega) (byt (uOf n / 2 ^ (8 * m).toNat)) _ (byte_low n HN.out m hlt (by omega)) rfl ?_)
        intro g3 cap3 w3 ho3 hb3 hk3
        have hz3 := hb3.size
        have HO3 := Lib.hid ho3; have HB3 := Lib.hid (HB.out.trans hb3); have HK3 := Lib.hid (HK.out.trans hk3)
        clear ho3 hb3 hk3
        go_wp2
        go_roundw
        case rel => exact ⟨m - 1, l ++ [byt (uOf n / 2 ^ (8 * m).toNat)], g3, cap3, by omega, by omega, by rw [show 8 * (m - 1) = 8 * m - 8 by omega], by simp, Lib.hid (HNX.out _ rfl), Lib.hid (by rw [List.length_append]; exact HO3.out), HB3, HK3, by omega⟩
        case measure => simp [intOf]; omega
    · go_wp2
      go_ret
      have e1 : (7 - m).toNat = 8 := by omega
      have e2 : l = acc ++ 1 :: intB n := by rw [HLL.out, HL1.out, e1]; simp [intB]
      rw [← e2]
      exact ⟨g2, cap2, rfl, HR.out, HB.out, HK1.out.trans HK.out⟩

set_option maxHeartbeats 3200000 in
theorem put_text (B : Nat) (acc : List UInt8) (v : Value) (n : Int) (s : ByteArray) (a : Option Addr) (ll lc : Nat) (w : World) (hO : Row B w v acc) (hB : B ≤ w.heap.size) (hacc : acc.length ≤ 50000) (hs : s.size ≤ 32) :
    Calls Tryz.prog 166 #[v, .agg #[.int .i64 2, .int .i64 n, .string s, .slice a ll lc]] w (PutPost B (acc ++ 2 :: textB s.data.toList) w) := by
  have HO := Lib.hid hO; clear hO
  have HSL : Hid (s.data.toList.length = s.size) := Lib.hid rfl
  go_enter Tryz.func166, Tryz.ntmps166
  go_wp2_with (at_builtin; refine wp_app1 rfl _ _ rfl B acc _ rfl (HO.out.alloc _) (by simp; omega) (by omega) 2 2 rfl (by rw [World.size_alloc]; rfl) ?_)
  intro g cap w1 ho1 hb1 hk1
  obtain ⟨l1, hl1⟩ : ∃ l1, l1 = acc ++ [2] := ⟨_, rfl⟩
  rw [← hl1] at ho1
  have hlen1 : l1.length = acc.length + 1 := by rw [hl1]; simp
  rw [← hlen1] at ho1
  rw [← hlen1]
  have HL1 := Lib.hid hl1; have HLEN1 := Lib.hid hlen1
  have HO1 := Lib.hid ho1; have HB1 := Lib.hid (((Below.refl B w).alloc hB _).trans hb1); have HK1 := Lib.hid (((Lib.OthersKept.refl 5 none w).alloc _).trans hk1)
  have HX := Lib.hid (box_kept hk1 (new_heap _ _))
  clear ho1 hb1 hk1 hl1 hlen1
  go_wp2
  go_loopw [0, 7] (fun o i wr => ∃ (j : Nat) (l : List UInt8) (g cap : Nat), j ≤ s.size ∧ i = .int .i64 j ∧ o = .slice (some ⟨g, 0, none⟩) l.length cap ∧ Hid (l = l1 ++ textTo (s.data.toList.take j)) ∧ Hid (Row B wr (.slice (some ⟨g, 0, none⟩) l.length cap) l) ∧ Hid (Below B w wr) ∧ Hid (Lib.OthersKept 5 none w1 wr) ∧ B ≤ wr.heap.size) (fun _ i _ => s.size - (intOf i).toNat)
  case atStart => exact ⟨0, l1, g, cap, by omega, rfl, rfl, Lib.hid (by simp [textTo]), HO1, HB1, Lib.hid (Lib.OthersKept.refl _ _ _), by have := HB1.out.size; omega⟩
  case round =>
    obtain ⟨j, l, g2, cap2, h1, rfl, rfl, HLL, HR, HB, HK, hBw⟩ := hrel
    have HX2 := Lib.hid (box_kept HK.out HX.out)
    obtain ⟨c0, c1, c2, c3⟩ := box_heap_cells HX2.out
    have hll : l.length ≤ 60000 := by
      have := HLEN1.out
      have := textTo_length (s.data.toList.take j)
      have := List.length_take_le j s.data.toList
      rw [HLL.out, List.length_append]
      omega
    by_cases hlt : j < s.size
    · have HT := Lib.hid (take_snoc s j hlt)
      go_wp2_with (at_builtin; refine wp_app1 rfl _ _ rfl B l _ rfl HR.out hBw (by omega) s[j] _ rfl rfl ?_)
      intro g3 cap3 w3 ho3 hb3 hk3
      have hz3 := hb3.size
      have HX3 := Lib.hid (box_kept hk3 HX2.out)
      obtain ⟨d0, d1, d2, d3⟩ := box_heap_cells HX3.out
      have HO3 := Lib.hid ho3; have HB3 := Lib.hid (HB.out.trans hb3); have HK3 := Lib.hid (HK.out.trans hk3)
      clear ho3 hb3 hk3
      by_cases hz : s[j] = 0
      · have hzb : ((s[j].toNat : Int) == 0) = true := by rw [hz]; rfl
        have HZ := Lib.hid hz; clear hz
        have e3 : (l ++ [s[j]]).length = l.length + 1 := by simp
        have HO4 : Hid (Row B w3 (.slice (some ⟨g3, 0, none⟩) (l.length + 1) cap3) (l ++ [s[j]])) := HO3
        go_wp2_with (at_builtin; refine wp_app1 rfl _ _ rfl B (l ++ [s[j]]) _ rfl HO4.out (by omega) (by simp; omega) 255 255 rfl rfl ?_)
        intro g4 cap4 w4 ho4 hb4 hk4
        have hz4 := hb4.size
        have HO5 := Lib.hid ho4; have HB4 := Lib.hid (HB3.out.trans hb4); have HK4 := Lib.hid (HK3.out.trans hk4)
        clear ho4 hb4 hk4
        go_wp2
        go_roundw
        case rel =>
          refine ⟨j + 1, l ++ [s[j], 255], g4, cap4, by omega, by go_num, by simp, Lib.hid ?_, Lib.hid (by rw [List.length_append]; exact HO5.out), HB4, HK4, by omega⟩
          rw [HT.out, textTo_snoc, if_pos HZ.out, HLL.out, HZ.out]
          simp
        case measure => simp [intOf]; omega
      · have hzb : ((s[j].toNat : Int) == 0) = false := u8_not0 hz
        have HZ := Lib.hid hz; clear hz
        go_wp2_with fail
        go_roundw
        case rel =>
          refine ⟨j + 1, l ++ [s[j]], g3, cap3, by omega, by go_num, by simp, Lib.hid ?_, Lib.hid (by rw [List.length_append]; exact HO3.out), HB3, HK3, by omega⟩
          rw [HT.out, textTo_snoc, if_neg HZ.out, HLL.out]
          simp
        case measure => simp [intOf]; omega
    · go_wp2_with (at_builtin; refine wp_app2 rfl _ _ rfl B l _ rfl HR.out hBw (by omega) 0 0 rfl ?_)
      intro g3 cap3 w3 ho3 hb3 hk3
      have HO3 := Lib.hid ho3; have HB3 := Lib.hid (HB.out.trans hb3); have HK3 := Lib.hid (HK.out.trans hk3)
      clear ho3 hb3 hk3
      go_wp2
      go_ret
      have e2 : l ++ [0, 0] = acc ++ 2 :: textB s.data.toList := by
        rw [HLL.out, HL1.out, List.take_of_length_le (by have := HSL.out; omega)]
        simp [textB]
      rw [← e2]
      refine ⟨g3, cap3, by rw [List.length_append]; rfl, ?_, HB3.out, HK1.out.trans HK3.out⟩
      have := HO3.out
      rw [List.length_append]
      exact this

theorem put_any (B : Nat) (acc : List UInt8) (v : Value) (k n : Int) (s : ByteArray) (a : Option Addr) (ll lc : Nat) (w : World) (hO : Row B w v acc) (hB : B ≤ w.heap.size) (hacc : acc.length ≤ 50000) (hn : I64 n) (hok : itemOk k n s 0 = true) :
    Calls Tryz.prog 166 #[v, .agg #[.int .i64 k, .int .i64 n, .string s, .slice a ll lc]] w (PutPost B (acc ++ itemB k n s) w) := by
  have hk := item_kind (x := ⟨k, n, s, none, 0, 0⟩) hok
  obtain ⟨h1 | h1, h2⟩ := hk
  · have h1' : k = 1 := h1
    subst h1'
    have := put_int B acc v n s a ll lc w hO hB hacc hn
    simpa [itemB] using this
  · have h1' : k = 2 := h1
    subst h1'
    have := put_text B acc v n s a ll lc w hO hB hacc h2
    simpa [itemB] using this

theorem items_none {k n : Int} {s : ByteArray} {xs : List It} (h : dOk k n s xs = true) (hk : k ≠ 3) : xs = [] ∧ itemOk k n s 0 = true := by
  have h1 : itemOk k n s xs.length = true := by simpa [dOk, hk] using h
  have h2 := itemOk_true h1
  refine ⟨?_, itemOk_of ⟨by omega, h2.2⟩⟩
  cases xs with
  | nil => rfl
  | cons x xs => exact absurd h2.1 (by simp)

theorem conv_row (B : Nat) (w : World) (g cap : Nat) (l : List UInt8) (h : Row B w (.slice (some ⟨g, 0, none⟩) l.length cap) l) : (convert 94 9 (.slice (some ⟨g, 0, none⟩) l.length cap)).run Tryz.prog w = .ok (.string ⟨l.toArray⟩) w :=
  run_convert_bytes_back (P := Tryz.prog) _ 94 9 5 ⟨g, 0, none⟩ cap l Tryz.underlying94 Tryz.underlying5 Tryz.underlying9 (by
    intro j hj
    exact h.cells rfl j _ (by simp [Lib.byteCells, hj]))

set_option maxHeartbeats 1600000 in
theorem encoded_any (k n : Int) (s : ByteArray) (a : Option Addr) (xs : List It) (lc : Nat) (w : World) (hS : Sl w a xs) (hok : dOk k n s xs = true) (hn : I64 n) (hns : AllI xs) :
    Calls Tryz.prog 121 #[.agg #[.int .i64 k, .int .i64 n, .string s, .slice a xs.length lc]] w fun e w' => e = .returned (.string ⟨(datB k n s xs).toArray⟩) ∧ Below w.heap.size w w' := by
  have HS := Lib.hid hS; clear hS
  have HN := Lib.hid hn; have HNS := Lib.hid hns; clear hn hns
  obtain ⟨L, hL⟩ : ∃ L, L = datB k n s xs := ⟨_, rfl⟩
  rw [← hL]
  by_cases hk : k = 3
  · subst hk
    rw [show dOk 3 n s xs = listOk n s xs from by simp [dOk]] at hok
    obtain ⟨hq0, hq1, hlen, hall⟩ := listOk_parts hok
    have HA := Lib.hid hall; clear hall hok hq0 hq1
    obtain ⟨ll, hll⟩ : ∃ ll, ll = xs.length := ⟨_, rfl⟩
    rw [← hll] at hlen ⊢
    have HL := Lib.hid hll; have HLL := Lib.hid hL; clear hll hL
    have hb256 : ((byt ll).toNat : Int) = (ll : Int) := by rw [byt_nat]; omega
    have HB256 := Lib.hid hb256; clear hb256
    go_enter Tryz.func121, Tryz.ntmps121
    go_wp2
    go_loopw [3, 4] (fun o i wr => ∃ (j : Nat) (l : List UInt8) (g cap : Nat), j ≤ ll ∧ i = .int .i64 j ∧ o = .slice (some ⟨g, 0, none⟩) l.length cap ∧ Hid (l = 3 :: byt ll :: itemsB (xs.take j)) ∧ Hid (Row w.heap.size wr (.slice (some ⟨g, 0, none⟩) l.length cap) l) ∧ Hid (Below w.heap.size w wr) ∧ Hid (Lib.OthersKept 5 none (w.alloc (.cells #[.int .i64 3, .int .i64 n, .string s, .slice a ll lc] 130)) wr) ∧ w.heap.size ≤ wr.heap.size) (fun _ i _ => ll - (intOf i).toNat)
    case atStart =>
      refine ⟨0, [3, byt ll], w.heap.size + 1, 2, by omega, rfl, rfl, Lib.hid (by simp [itemsB]), Lib.hid ?_, Lib.hid ?_, Lib.hid ?_, by simp; omega⟩
      · have := World.ownsRow_lit (base := w.heap.size) (e := 5) (size := 1) (w.alloc (.cells #[.int .i64 3, .int .i64 n, .string s, .slice a ll lc] 130)) #[.int .u8 3, .int .u8 (ll : Int)] 2 (by simp) (by decide) (by rfl)
        rw [World.size_alloc] at this
        show World.ownsRow _ _ 5 1 _ 2 (Lib.byteCells [3, byt ll])
        rw [twoBytes, HB256.out]
        exact this
      · exact ((Below.refl _ _).alloc (Nat.le_refl _) _).alloc (by simp) _
      · exact (Lib.OthersKept.refl _ _ _).alloc _
    case round =>
      obtain ⟨j, l, g, cap, hj, rfl, rfl, HQ, HR, HB, HK, hz⟩ := hrel
      have HX := Lib.hid (box_kept HK.out (new_heap w _))
      obtain ⟨c0, c1, c2, c3⟩ := box_heap_cells HX.out
      have hll : l.length ≤ 2 + 73 * j := by
        have := itemsB_length (xs.take j) (fun x hx => HA.out x (List.mem_of_mem_take hx))
        have := List.length_take_le j xs
        rw [HQ.out]
        simp only [List.length_cons]
        omega
      by_cases hlt : j < ll
      · have hlt' : j < xs.length := by rw [← HL.out]; exact hlt
        obtain ⟨b, off, rfl, hbw, hc⟩ := (HS.out.below HB.out (Nat.le_refl _)).at hlt'
        obtain ⟨e0, e1, e2, e3⟩ := hc j hlt'
        clear hc
        have hokj : (xs[j]'hlt').ok = true := HA.out _ (List.getElem_mem _)
        have HOKJ : Hid (itemOk (xs[j]'hlt').k (xs[j]'hlt').n (xs[j]'hlt').s 0 = true) := Lib.hid (by
          have := itemOk_true hokj
          exact itemOk_of ⟨by omega, this.2⟩)
        have HNJ : Hid (I64 (xs[j]'hlt').n) := Lib.hid (HNS.out _ (List.getElem_mem _))
        clear hokj
        go_wp2_with fail
        refine (put_any w.heap.size l _ _ _ _ _ _ _ _ HR.out hz (by omega) HNJ.out HOKJ.out).mono ?_
        rintro e w3 ⟨g3, cap3, rfl, ho3, hb3, hk3⟩
        have hz3 := hb3.size
        have HO3 := Lib.hid ho3; have HB3 := Lib.hid (HB.out.trans hb3); have HK3 := Lib.hid (HK.out.trans hk3)
        clear ho3 hb3 hk3
        go_wp2
        go_roundw
        case rel =>
          refine ⟨j + 1, l ++ itemB (xs[j]'hlt').k (xs[j]'hlt').n (xs[j]'hlt').s, g3, cap3, by omega, by go_num, by simp, Lib.hid ?_, HO3, HB3, HK3, by omega⟩
          rw [List.take_succ_eq_append_getElem hlt', itemsB_snoc, HQ.out]
          simp
        case measure => simp [intOf]; omega
      · have hcv := conv_row _ _ _ _ _ HR.out
        go_wp2
        go_ret
        refine ⟨?_, HB.out⟩
        have e : l = L := by
          rw [HQ.out, HLL.out, List.take_of_length_le (by have := HL.out; omega), HL.out]
          simp [datB]
        rw [← e]
        rfl
  · have hit := items_none hok hk
    obtain ⟨rfl, hit⟩ := hit
    have HIT := Lib.hid hit; have HLL := Lib.hid hL; clear hit hok hL
    go_enter Tryz.func121, Tryz.ntmps121
    go_wp2_with fail
    refine (put_any w.heap.size [] _ _ _ _ _ _ _ _ (World.ownsRow_nil _ _ _ _) (by simp) (by simp) HN.out HIT.out).mono ?_
    rintro e w3 ⟨g3, cap3, rfl, ho3, hb3, hk3⟩
    rw [List.nil_append] at ho3 ⊢
    have hcv := conv_row _ _ _ _ _ ho3
    have HB3 := Lib.hid (((Below.refl w.heap.size w).alloc (Nat.le_refl _) _).trans hb3)
    clear ho3 hb3 hk3
    go_wp2
    go_ret
    exact ⟨by rw [HLL.out, datB, if_neg hk]; rfl, HB3.out⟩

end Go.Proofs.YtijggofelepaaaaGreatDoor.Dm
