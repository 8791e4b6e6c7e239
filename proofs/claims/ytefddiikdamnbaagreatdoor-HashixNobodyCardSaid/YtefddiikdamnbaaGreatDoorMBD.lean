/- Texts of the same proof, one behind the other: EB, BShelf, EA, EC, ED. -/
import Derived.Test.YtefddiikdamnbaaGreatDoorMBA
import Derived.Test.YtefddiikdamnbaaGreatDoorMAD
import Derived.WalkKit
import Derived.WalkLawsBesides
import Derived.Below
import Derived.Test.YtefddiikdamnbaaGreatDoorMAA
import Derived.Test.YtefddiikdamnbaaGreatDoorMBB
import Derived.OneCell
/- The contract of Check: whether a datum may be. -/
set_option maxRecDepth 100000
namespace Go.Proofs.YtefddiikdamnbaaGreatDoor.Dm
open Go.RowKit

set_option maxHeartbeats 400000 in
theorem checkItem_ok (k n : Int) (s : ByteArray) (a : Option Addr) (ll lc : Nat) (w : World) (h : itemOk k n s ll = true) :
    Calls Tryz.prog 196 #[.agg #[.int .i64 k, .int .i64 n, .string s, .slice a ll lc]] w fun e w' => e = .returned (.int .i64 0) ∧ Below w.heap.size w w' := by
  have H := Lib.hid h; clear h
  go_enter Tryz.func196, Tryz.ntmps196
  go_wp2
  all_goals first
    | (exfalso; have := itemOk_true H.out; grind)
    | (go_ret; exact ⟨rfl, (Below.refl _ _).alloc (Nat.le_refl _) _⟩)

set_option maxHeartbeats 400000 in
theorem checkItem_no (k n : Int) (s : ByteArray) (a : Option Addr) (ll lc : Nat) (w : World) (h : itemOk k n s ll = false) :
    Calls Tryz.prog 196 #[.agg #[.int .i64 k, .int .i64 n, .string s, .slice a ll lc]] w fun e w' => e = .returned (.int .i64 11) ∧ Below w.heap.size w w' := by
  have H := Lib.hid h; clear h
  go_enter Tryz.func196, Tryz.ntmps196
  go_wp2
  all_goals first
    | (exfalso; have := itemOk_false H.out; grind)
    | (go_ret; exact ⟨rfl, (Below.refl _ _).alloc (Nat.le_refl _) _⟩)

set_option maxHeartbeats 400000 in
theorem checkList_ok (k n : Int) (s : ByteArray) (a : Option Addr) (xs : List It) (lc : Nat) (w : World) (hS : Sl w a xs) (h : listOk n s xs = true) :
    Calls Tryz.prog 195 #[.agg #[.int .i64 k, .int .i64 n, .string s, .slice a xs.length lc]] w fun e w' => e = .returned (.int .i64 0) ∧ Below w.heap.size w w' := by
  simp only [listOk, Bool.and_eq_true, decide_eq_true_eq, List.all_eq_true] at h
  obtain ⟨⟨rfl, hs, hlen⟩, hall⟩ := h
  have HA := Lib.hid hall; clear hall
  have HS := Lib.hid hS; clear hS
  obtain ⟨ll, hll⟩ : ∃ ll, ll = xs.length := ⟨_, rfl⟩
  rw [← hll] at hlen ⊢
  have HL := Lib.hid hll; clear hll
  go_enter Tryz.func195, Tryz.ntmps195
  go_wp2
  go_loopw [22] (fun i wr => ∃ j : Nat, j ≤ ll ∧ i = .int .i64 j ∧ Below w.heap.size w wr) (fun i _ => ll - (intOf i).toNat)
  case atStart => exact ⟨0, Nat.zero_le _, rfl, (Below.refl _ _).alloc (Nat.le_refl _) _⟩
  case round =>
    obtain ⟨j, hj, rfl, hb⟩ := hrel
    by_cases hlt : j < ll
    · have hlt' : j < xs.length := by rw [← HL.out]; exact hlt
      obtain ⟨b, off, rfl, hbw, hc⟩ := (HS.out.below hb (Nat.le_refl _)).at hlt'
      obtain ⟨c0, c1, c2, c3⟩ := hc j hlt'
      clear hc
      have hok : (xs[j]'hlt').ok = true := HA.out _ (List.getElem_mem _)
      have HO := Lib.hid hok; clear hok
      go_wp2_with (go_at_call 196; refine (checkItem_ok _ _ _ _ _ _ _ HO.out).mono ?_)
      rintro e w1 ⟨rfl, hb1⟩
      go_wp2
      go_roundw
      case rel => exact ⟨j + 1, by omega, by go_num, below_then_al hb (Nat.le_refl _) _ hb1⟩
      case measure => simp [intOf]; omega
    · go_wp2
      go_ret
      exact ⟨rfl, hb⟩
set_option maxHeartbeats 800000 in
theorem checkList_no (k n : Int) (s : ByteArray) (a : Option Addr) (xs : List It) (lc : Nat) (w : World) (hS : Sl w a xs) (h : listOk n s xs = false) :
    Calls Tryz.prog 195 #[.agg #[.int .i64 k, .int .i64 n, .string s, .slice a xs.length lc]] w fun e w' => e = .returned (.int .i64 11) ∧ Below w.heap.size w w' := by
  have HF := Lib.hid h; clear h
  have HS := Lib.hid hS; clear hS
  obtain ⟨ll, hll⟩ : ∃ ll, ll = xs.length := ⟨_, rfl⟩
  rw [← hll]
  have HL := Lib.hid hll; clear hll
  by_cases hn : n = 0
  · subst hn
    cases hs : s.toList.isEmpty
    · go_enter Tryz.func195, Tryz.ntmps195
      go_wp2
      go_ret
      exact ⟨rfl, (Below.refl _ _).alloc (Nat.le_refl _) _⟩
    · by_cases hl : (ll : Int) ≤ 8
      · have hfst := listOk_first HF.out rfl hs (by rw [← HL.out]; exact hl)
        have HFS := Lib.hid hfst; clear hfst
        go_enter Tryz.func195, Tryz.ntmps195
        go_wp2
        go_loopw [22] (fun i wr => ∃ j : Nat, j ≤ ll ∧ i = .int .i64 j ∧ Below w.heap.size w wr ∧ Hid (∀ i (hi : i < xs.length), i < j → (xs[i]'hi).ok = true)) (fun i _ => ll - (intOf i).toNat)
        case atStart => exact ⟨0, Nat.zero_le _, rfl, (Below.refl _ _).alloc (Nat.le_refl _) _, Lib.hid (fun _ _ h => by omega)⟩
        case round =>
          obtain ⟨j, hj, rfl, hb, HP⟩ := hrel
          by_cases hlt : j < ll
          · have hlt' : j < xs.length := by rw [← HL.out]; exact hlt
            obtain ⟨b, off, rfl, hbw, hc⟩ := (HS.out.below hb (Nat.le_refl _)).at hlt'
            obtain ⟨c0, c1, c2, c3⟩ := hc j hlt'
            clear hc
            cases hok : (xs[j]'hlt').ok
            · have HO := Lib.hid hok; clear hok
              go_wp2_with (go_at_call 196; refine (checkItem_no _ _ _ _ _ _ _ HO.out).mono ?_)
              rintro e w1 ⟨rfl, hb1⟩
              go_wp2
              go_ret
              exact ⟨rfl, below_then_al hb (Nat.le_refl _) _ hb1⟩
            · have HO := Lib.hid hok; clear hok
              go_wp2_with (go_at_call 196; refine (checkItem_ok _ _ _ _ _ _ _ HO.out).mono ?_)
              rintro e w1 ⟨rfl, hb1⟩
              go_wp2
              go_roundw
              case rel =>
                refine ⟨j + 1, by omega, by go_num, below_then_al hb (Nat.le_refl _) _ hb1, Lib.hid (fun i hi hij => ?_)⟩
                by_cases hij' : i < j
                · exact HP.out i hi hij'
                · obtain rfl : i = j := by omega
                  exact HO.out
              case measure => simp [intOf]; omega
          · exfalso
            exact HFS.out (fun i hi => HP.out i hi (by have := HL.out; omega))
      · go_enter Tryz.func195, Tryz.ntmps195
        go_wp2
        go_ret
        exact ⟨rfl, (Below.refl _ _).alloc (Nat.le_refl _) _⟩
  · go_enter Tryz.func195, Tryz.ntmps195
    go_wp2
    go_ret
    exact ⟨rfl, (Below.refl _ _).alloc (Nat.le_refl _) _⟩

set_option maxHeartbeats 400000 in
theorem check_ok (k n : Int) (s : ByteArray) (a : Option Addr) (xs : List It) (lc : Nat) (w : World) (hS : Sl w a xs) (h : dOk k n s xs = true) :
    Calls Tryz.prog 136 #[.agg #[.int .i64 k, .int .i64 n, .string s, .slice a xs.length lc]] w fun e w' => e = .returned (.int .i64 0) ∧ Below w.heap.size w w' := by
  have HS := Lib.hid hS; clear hS
  have HF := Lib.hid h; clear h
  by_cases hk : k = 3
  · subst hk
    go_enter Tryz.func136, Tryz.ntmps136
    go_wp2_with (go_at_call 195; refine (checkList_ok _ _ _ _ _ _ _ (HS.out.below ((Below.refl _ _).alloc (Nat.le_refl _) _) (Nat.le_refl _)) (by have := HF.out; simpa [dOk] using this)).mono ?_)
    rintro e w1 ⟨rfl, hb1⟩
    go_wp2
    go_ret
    exact ⟨rfl, below_al _ hb1⟩
  · go_enter Tryz.func136, Tryz.ntmps136
    go_wp2_with (go_at_call 196; refine (checkItem_ok _ _ _ _ _ _ _ (by have := HF.out; simpa [dOk, hk] using this)).mono ?_)
    rintro e w1 ⟨rfl, hb1⟩
    go_wp2
    go_ret
    exact ⟨rfl, below_al _ hb1⟩

set_option maxHeartbeats 400000 in
theorem check_no (k n : Int) (s : ByteArray) (a : Option Addr) (xs : List It) (lc : Nat) (w : World) (hS : Sl w a xs) (h : dOk k n s xs = false) :
    Calls Tryz.prog 136 #[.agg #[.int .i64 k, .int .i64 n, .string s, .slice a xs.length lc]] w fun e w' => e = .returned (.int .i64 11) ∧ Below w.heap.size w w' := by
  have HS := Lib.hid hS; clear hS
  have HF := Lib.hid h; clear h
  by_cases hk : k = 3
  · subst hk
    go_enter Tryz.func136, Tryz.ntmps136
    go_wp2_with (go_at_call 195; refine (checkList_no _ _ _ _ _ _ _ (HS.out.below ((Below.refl _ _).alloc (Nat.le_refl _) _) (Nat.le_refl _)) (by have := HF.out; simpa [dOk] using this)).mono ?_)
    rintro e w1 ⟨rfl, hb1⟩
    go_wp2
    go_ret
    exact ⟨rfl, below_al _ hb1⟩
  · go_enter Tryz.func136, Tryz.ntmps136
    go_wp2_with (go_at_call 196; refine (checkItem_no _ _ _ _ _ _ _ (by have := HF.out; simpa [dOk, hk] using this)).mono ?_)
    rintro e w1 ⟨rfl, hb1⟩
    go_wp2
    go_ret
    exact ⟨rfl, below_al _ hb1⟩
end Go.Proofs.YtefddiikdamnbaaGreatDoor.Dm

/- The library's contracts of strings.Builder lie in the shelf. -/


/- The contracts of a strings.Builder, for every builder that the call itself has made. -/
set_option maxRecDepth 100000
namespace Go.Proofs.YtefddiikdamnbaaGreatDoor.Dm
open Go.RowKit Go.Shelf

theorem sizeB : (Tryz.prog.info? 263).map (·.size) = some 2 := by kernel_rfl
theorem liesB : liesAt Tryz.prog Tryz.prog.depth 263 (2 / Tryz.prog.cellsOf 263) 0 263 1 = true := by kernel_rfl
set_option maxHeartbeats 1000000 in
theorem copyCheck_used (b : Nat) (w : World) (h0 : w.cell? ⟨b, 0, none⟩ = some (.pointer (some ⟨b, 0, none⟩))) :
    Calls Tryz.prog 231 #[.pointer (some ⟨b, 0, none⟩)] w fun e w' => e = .returned (.tuple #[]) ∧ w' = w := by
  obtain ⟨j, hj, _⟩ := Option.map_eq_some_iff.1 sizeB
  go_enter Tryz.func231, Tryz.ntmps231
  go_wp2
  rw [Lib.run_neq_ptr_same w _ Tryz.underlying261 hj]
  go_wp2
  go_end0
  exact ⟨rfl, rfl⟩

set_option maxHeartbeats 1000000 in
theorem copyCheck_fresh (b : Nat) (w : World) (h0 : w.cell? ⟨b, 0, none⟩ = some (.pointer none)) (hsh : w.shape? b = some (263, 2)) (hfz : w.frozen? ⟨b, 0, none⟩ = false) :
    Calls Tryz.prog 231 #[.pointer (some ⟨b, 0, none⟩)] w fun e w' => e = .returned (.tuple #[]) ∧ w' = w.setCell ⟨b, 0, none⟩ (.pointer (some ⟨b, 0, none⟩)) := by
  obtain ⟨j, hj, hjs⟩ := Option.map_eq_some_iff.1 sizeB
  go_enter Tryz.func231, Tryz.ntmps231
  go_wp2
  rw [Lib.run_to_unsafe w ⟨b, 0, none⟩ Tryz.underlying261 Tryz.underlying299 hj (by rw [hjs]; decide) hsh (Nat.zero_lt_succ 1)]
  simp only [Result.andThen]
  rw [Oper.upon_value]
  go_wp2
  rw [run_callFunc_extern Tryz.func241 (by kernel_rfl) (by kernel_rfl) (by kernel_rfl) (e := Extern.AbiNoEscape.same) (by kernel_rfl)]
  rw [Lib.run_noEscape]
  simp only [Result.andThen]
  rw [Oper.upon_value]
  go_wp2
  rw [Lib.run_from_unsafe w ⟨b, 0, none⟩ Tryz.underlying299 Tryz.underlying261 hj hsh liesB]
  simp only [Result.andThen]
  rw [Oper.upon_value]
  go_wp2
  go_end0
  exact ⟨rfl, rfl⟩

theorem copyCheck_k (B b : Nat) (bs : List Value) (w : World) (h : Lib.IsBuilderF 263 5 B b bs w) :
    Calls Tryz.prog 231 #[.pointer (some ⟨b, 0, none⟩)] w fun e w' => e = .returned (.tuple #[]) ∧ (Lib.BuilderAtF 263 5 B b (.pointer (some ⟨b, 0, none⟩)) bs w' ∧ Below B w w' ∧ Lib.OthersKept 5 (some b) w w') := by
  rcases h with h | h
  · refine (copyCheck_fresh b w h.cell0 h.shape h.frozen0).mono ?_
    rintro e w' ⟨rfl, rfl⟩
    exact ⟨rfl, h.used _, (Below.refl B w).setCell (p := ⟨b, 0, none⟩) h.1 _, (Lib.OthersKept.refl _ _ w).setCell ⟨b, 0, none⟩ rfl _⟩
  · refine (copyCheck_used b w h.cell0).mono ?_
    rintro e w' ⟨rfl, rfl⟩
    exact ⟨rfl, h, Below.refl B _, Lib.OthersKept.refl _ _ _⟩

set_option maxHeartbeats 2000000 in
/-- WriteByte onto a builder of the call's own. -/
theorem writeByte_k (B b : Nat) (bs : List Value) (c : Int) (w : World) (h : Lib.IsBuilderF 263 5 B b bs w) (hlen : bs.length + 1 ≤ 140737488355328) (hBw : B ≤ w.heap.size) :
    Calls Tryz.prog 201 #[.pointer (some ⟨b, 0, none⟩), .int .u8 c] w fun e w' => e = .returned .nilIface ∧ (Lib.BuilderAtF 263 5 B b (.pointer (some ⟨b, 0, none⟩)) (bs ++ [.int .u8 c]) w' ∧ Below B w w' ∧ Lib.OthersKept 5 (some b) w w') := by
  obtain ⟨i0, hi, hz0, hz1, hz2⟩ := info_parts infoByte
  go_enter Tryz.func201, Tryz.ntmps201
  go_wp2_with (go_at_call 231; refine (copyCheck_k B b bs _ h).mono ?_)
  rintro e w1 ⟨rfl, h1, hb1, hk1⟩
  obtain ⟨hB, v, hbk, hown, hne⟩ := h1
  have c0 : w1.cell? ⟨b, 0, none⟩ = some (.pointer (some ⟨b, 0, none⟩)) := by rw [Lib.cell_of_heap hbk]; rfl
  have c1 : w1.cell? ⟨b, 1, none⟩ = some v := by rw [Lib.cell_of_heap hbk]; rfl
  go_wp2_with (at_builtin; refine wpList_append_ownF _ rfl _ _ 113 rfl B 5 i0 (.int .u8 0) 1 1 Tryz.underlying113 hi hz0 hz1 hz2 rfl (by decide) _ _ _ rfl (hown.alloc _) ⟨w1.heap.size, 0, none⟩ 1 1 [.int .u8 c] rfl rfl ?c1 ?c2 ?c3 ?c4 ?c5 ?_)
  case c1 =>
    intro j u hj
    match j, hj with
    | 0, hj => simp at hj; subst hj; simp [Addr.add]
  case c2 => intro u hu; simp at hu; subst hu; rfl
  case c3 => unfold maxLen; omega
  case c4 => omega
  case c5 => have := hb1.size; simp; omega
  intro v' w2 hown' hgrow _
  have hlt : b < w1.heap.size := by
    rcases Nat.lt_or_ge b w1.heap.size with h' | h'
    · exact h'
    · simp [Array.getElem?_eq_none h'] at hbk
  have hb2 : w2.heap[b]? = some (.cells #[.pointer (some ⟨b, 0, none⟩), v] 263 (0, 0)) := by
    rw [hgrow.block b (by simp; omega) (fun e => hne e.symm), Lib.alloc_old w1 _ b hlt]
    exact hbk
  have d0 : w2.cell? ⟨b, 0, none⟩ = some (.pointer (some ⟨b, 0, none⟩)) := by rw [Lib.cell_of_heap hb2]; rfl
  have d1 : w2.cell? ⟨b, 1, none⟩ = some v := by rw [Lib.cell_of_heap hb2]; rfl
  have f1 : w2.frozen? ⟨b, 1, none⟩ = false := Lib.frozen_of_heap hb2 1
  obtain ⟨g, cap, rfl⟩ : ∃ g cap, v' = .slice (some ⟨g, 0, none⟩) (bs.length + 1) cap := by
    rcases hown'.2 with ⟨_, h0⟩ | ⟨g, cap, cur, fz, hv, _⟩
    · omega
    · exact ⟨g, cap, hv⟩
  go_wp2
  go_ret
  refine ⟨rfl, ?_, ?_, ((hk1.alloc _).grown hgrow (Lib.ownsRowF_kind (hown.alloc _))).setCell ⟨b, 1, none⟩ rfl _⟩
  · exact Lib.BuilderAtF.put (T := 263) (e := 5) hB hb2 (bs' := bs ++ [.int .u8 c]) (by simpa using hown') (by decide)
  · exact ((hb1.alloc (by have := hb1.size; omega) _).grown hgrow (by have := hb1.size; simp; omega) (fun k hk => (hown.lt k hk).1)).setCell (p := ⟨b, 1, none⟩) hB _
end Go.Proofs.YtefddiikdamnbaaGreatDoor.Dm

/- The contracts of the functions that hand the bytes of a datum to a function value. -/
set_option maxRecDepth 100000
namespace Go.Proofs.YtefddiikdamnbaaGreatDoor.Dm
open Go.RowKit

/-- A function value that takes bytes one by one: what it has taken so far is told by I. -/
structure Putter (F : Nat) (p : Value) (b B : Nat) (I : List UInt8 → World → Prop) : Prop where
  enters : ∀ args w, (callFunc F args).run Tryz.prog w = .ok (.enter F args) w
  put : ∀ (l : List UInt8) (w : World) (c : Int) (u : UInt8), c = (u.toNat : Int) → I l w → l.length ≤ 100000 → B ≤ w.heap.size →
    Calls Tryz.prog F #[.int .u8 c, p] w fun e w' => e = .returned (.tuple #[]) ∧ I (l ++ [u]) w' ∧ Below B w w' ∧ Lib.OthersKept 5 (some b) w w'
  alloc : ∀ l w o, I l w → I l (w.alloc o)
  low : ∀ l w, I l w → b < w.heap.size

/-- What a function that hands bytes on leaves behind. -/
def Fed (I : List UInt8 → World → Prop) (b B : Nat) (l : List UInt8) (w w' : World) : Prop :=
  I l w' ∧ Below B w w' ∧ Lib.OthersKept 5 (some b) w w'

theorem Fed.trans {I : List UInt8 → World → Prop} {b B : Nat} {l l' : List UInt8} {a c d : World} (h : Fed I b B l a c) (k : Fed I b B l' c d) : Fed I b B l' a d :=
  ⟨k.1, h.2.1.trans k.2.1, h.2.2.trans k.2.2⟩

set_option maxHeartbeats 400000 in
theorem eachOfInt_any {F : Nat} {p : Value} {b B : Nat} {I : List UInt8 → World → Prop} (P : Hid (Putter F p b B I)) (l : List UInt8) (n : Int) (w : World) (hI : Hid (I l w)) (hM : l.length ≤ 50000) (hB : B ≤ w.heap.size) :
    Calls Tryz.prog 229 #[.int .i64 n, .func (.func F) #[] #[p]] w fun e w' => e = .returned (.tuple #[]) ∧ Fed I b B (l ++ intB n) w w' := by
  have hen := P.out.enters
  go_enter Tryz.func229, Tryz.ntmps229
  go_wp2
  go_loopw [5] (fun i wr => ∃ m : Int, -1 ≤ m ∧ m ≤ 7 ∧ i = .int .i64 m ∧ Fed I b B (l ++ intTo n (7 - m).toNat) w wr) (fun i _ => (intOf i + 1).toNat)
  case atStart => exact ⟨7, by omega, by omega, rfl, by simpa [intTo] using hI.out, Below.refl _ _, Lib.OthersKept.refl _ _ _⟩
  case round =>
    obtain ⟨m, h1, h2, rfl, hb⟩ := hrel
    have HB := Lib.hid hb; clear hb
    by_cases hlt : 0 ≤ m
    · go_wp2_with fail
      refine (P.out.put _ _ _ (byt (uOf n / 2 ^ (8 * m).toNat)) (byt_nat _).symm HB.out.1 (by simp [intTo_length]; omega) (by have := HB.out.2.1.size; omega)).mono ?_
      rintro e w1 ⟨rfl, hf⟩
      have HF := Lib.hid (show Fed I b B _ _ _ from hf); clear hf
      go_wp2
      go_roundw
      case rel =>
        refine ⟨m - 1, by omega, by omega, rfl, ?_⟩
        have e1 : (7 - (m - 1)).toNat = (7 - m).toNat + 1 := by omega
        have e2 : (7 : Int) - ((7 - m).toNat : Nat) = m := by omega
        rw [e1, intTo_succ, e2, ← List.append_assoc]
        exact HB.out.trans HF.out
      case measure => simp [intOf]; omega
    · go_wp2
      go_end0
      refine ⟨rfl, ?_⟩
      have e1 : (7 - m).toNat = 8 := by omega
      have := HB.out
      rwa [e1] at this

set_option maxHeartbeats 800000 in
theorem eachOfText_any {F : Nat} {p : Value} {b B : Nat} {I : List UInt8 → World → Prop} (P : Hid (Putter F p b B I)) (l : List UInt8) (s : ByteArray) (w : World) (hI : Hid (I l w)) (hM : l.length ≤ 50000) (hs : s.size ≤ 10000) (hB : B ≤ w.heap.size) :
    Calls Tryz.prog 230 #[.string s, .func (.func F) #[] #[p]] w fun e w' => e = .returned (.tuple #[]) ∧ Fed I b B (l ++ textB s.data.toList) w w' := by
  have hen := P.out.enters
  have hlen : s.data.toList.length = s.size := rfl
  have HLEN := Lib.hid hlen; clear hlen
  go_enter Tryz.func230, Tryz.ntmps230
  go_wp2
  go_loopw [7] (fun i wr => ∃ j : Nat, j ≤ s.size ∧ i = .int .i64 j ∧ Fed I b B (l ++ textTo (s.data.toList.take j)) w wr) (fun i _ => s.size - (intOf i).toNat)
  case atStart => exact ⟨0, by omega, rfl, by simpa [textTo] using hI.out, Below.refl _ _, Lib.OthersKept.refl _ _ _⟩
  case round =>
    obtain ⟨j, h1, rfl, hb⟩ := hrel
    have HB := Lib.hid hb; clear hb
    have hl : (textTo (s.data.toList.take j)).length ≤ 2 * j := by
      have := textTo_length (s.data.toList.take j)
      have := List.length_take_le j s.data.toList
      omega
    by_cases hlt : j < s.size
    · have HT := Lib.hid (take_snoc s j hlt)
      go_wp2_with fail
      refine (P.out.put _ _ _ s[j] rfl HB.out.1 (by simp; omega) (by have := HB.out.2.1.size; omega)).mono ?_
      rintro e w1 ⟨rfl, hf⟩
      have HF := Lib.hid (show Fed I b B _ _ _ from hf); clear hf
      by_cases hz : s[j] = 0
      · have hz1 : ((s[j].toNat : Int) == 0) = true := by rw [hz]; rfl
        have HZ := Lib.hid hz; clear hz
        go_wp2_with fail
        refine (P.out.put _ _ _ 255 rfl HF.out.1 (by simp; omega) (by have := HB.out.2.1.size; have := HF.out.2.1.size; omega)).mono ?_
        rintro e w2 ⟨rfl, hf2⟩
        have HF2 := Lib.hid (show Fed I b B _ _ _ from hf2); clear hf2
        go_wp2
        go_roundw
        case rel =>
          refine ⟨j + 1, by omega, by go_num, ?_⟩
          rw [HT.out, textTo_snoc, if_pos HZ.out, ← List.append_assoc]
          have := HB.out.trans (HF.out.trans HF2.out)
          rw [HZ.out] at this
          simpa using this
        case measure => simp [intOf]; omega
      · have hz1 : ((s[j].toNat : Int) == 0) = false := by
          rw [beq_eq_false_iff_ne]
          intro h
          exact hz (UInt8.toNat_inj.1 (by simpa using h))
        have HZ := Lib.hid hz; clear hz
        go_wp2_with fail
        go_roundw
        case rel =>
          refine ⟨j + 1, by omega, by go_num, ?_⟩
          rw [HT.out, textTo_snoc, if_neg HZ.out, ← List.append_assoc]
          exact HB.out.trans HF.out
        case measure => simp [intOf]; omega
    · go_wp2_with fail
      refine (P.out.put _ _ _ 0 rfl HB.out.1 (by simp; omega) (by have := HB.out.2.1.size; omega)).mono ?_
      rintro e w1 ⟨rfl, hf⟩
      have HF := Lib.hid (show Fed I b B _ _ _ from hf); clear hf
      go_wp2_with fail
      refine (P.out.put _ _ _ 0 rfl HF.out.1 (by simp; omega) (by have := HB.out.2.1.size; have := HF.out.2.1.size; omega)).mono ?_
      rintro e w2 ⟨rfl, hf2⟩
      have HF2 := Lib.hid (show Fed I b B _ _ _ from hf2); clear hf2
      go_wp2
      go_end0
      refine ⟨rfl, ?_⟩
      have := HB.out.trans (HF.out.trans HF2.out)
      rw [List.take_of_length_le (by have := HLEN.out; omega)] at this
      simpa [textB] using this
end Go.Proofs.YtefddiikdamnbaaGreatDoor.Dm

/- The contracts of eachByte and Bytes: for every datum that may be; other memory stands. -/
set_option maxRecDepth 100000
namespace Go.Proofs.YtefddiikdamnbaaGreatDoor.Dm
open Go Go.RowKit

theorem box_heap {w w1 : World} {b k : Nat} {cs : Array Value} (h : Lib.OthersKept 5 (some b) w w1) (hk : w.heap[k]? = some (.cells cs 81 (0, 0))) (hne : k ≠ b) : w1.heap[k]? = some (.cells cs 81 (0, 0)) :=
  h k _ hk (by simpa using hne) (by intro c fz e; simp at e)
theorem Fed.al {I : List UInt8 → World → Prop} {b B : Nat} {l : List UInt8} {w w' : World} (hB : B ≤ w.heap.size) (o : Obj) (h : Fed I b B l (w.alloc o) w') : Fed I b B l w w' :=
  ⟨h.1, ((Below.refl _ _).alloc hB o).trans h.2.1, ((Lib.OthersKept.refl _ _ w).alloc o).trans h.2.2⟩

set_option maxHeartbeats 800000 in
theorem eachItem_any {F : Nat} {p : Value} {b B : Nat} {I : List UInt8 → World → Prop} (P : Hid (Putter F p b B I)) (l : List UInt8) (k n : Int) (s : ByteArray) (a : Option Addr) (ll lc : Nat) (w : World) (hI : Hid (I l w)) (hk : k = 1 ∨ k = 2) (hM : l.length ≤ 20000) (hs : s.size ≤ 10000) (hB : B ≤ w.heap.size) :
    Calls Tryz.prog 197 #[.agg #[.int .i64 k, .int .i64 n, .string s, .slice a ll lc], .func (.func F) #[] #[p]] w fun e w' => e = .returned (.tuple #[]) ∧ Fed I b B (l ++ itemB k n s) w w' := by
  have hen := P.out.enters
  have hlow := P.out.low _ _ hI.out
  have hB1 : B ≤ w.heap.size + 1 := by omega
  rcases hk with rfl | rfl
  · go_enter Tryz.func197, Tryz.ntmps197
    go_wp2_with fail
    refine (P.out.put l _ 1 1 rfl (P.out.alloc _ _ _ hI.out) (by omega) (by simp; omega)).mono ?_
    rintro e w1 ⟨rfl, hf⟩
    have hbx := box_heap hf.2.2 (new_heap _ _) (by omega)
    obtain ⟨c0, c1, c2, c3⟩ := box_heap_cells hbx
    have HF := Lib.hid (show Fed I b B _ _ _ from hf); clear hf hbx
    go_wp2_with fail
    refine (eachOfInt_any P (l ++ [1]) n _ (Lib.hid HF.out.1) (by simp; omega) (by have := HF.out.2.1.size; simp at this; omega)).mono ?_
    rintro e w2 ⟨rfl, hf2⟩
    have HF2 := Lib.hid hf2; clear hf2
    go_wp2
    go_end0
    refine ⟨rfl, ?_⟩
    have := Fed.al hB _ (HF.out.trans HF2.out)
    simpa [itemB] using this
  · go_enter Tryz.func197, Tryz.ntmps197
    go_wp2_with fail
    refine (P.out.put l _ 2 2 rfl (P.out.alloc _ _ _ hI.out) (by omega) (by simp; omega)).mono ?_
    rintro e w1 ⟨rfl, hf⟩
    have hbx := box_heap hf.2.2 (new_heap _ _) (by omega)
    obtain ⟨c0, c1, c2, c3⟩ := box_heap_cells hbx
    have HF := Lib.hid (show Fed I b B _ _ _ from hf); clear hf hbx
    go_wp2_with fail
    refine (eachOfText_any P (l ++ [2]) s _ (Lib.hid HF.out.1) (by simp; omega) hs (by have := HF.out.2.1.size; simp at this; omega)).mono ?_
    rintro e w2 ⟨rfl, hf2⟩
    have HF2 := Lib.hid hf2; clear hf2
    go_wp2
    go_end0
    refine ⟨rfl, ?_⟩
    have := Fed.al hB _ (HF.out.trans HF2.out)
    simpa [itemB] using this

set_option maxHeartbeats 1600000 in
theorem eachByte_any {F : Nat} {p : Value} {b B : Nat} {I : List UInt8 → World → Prop} (P : Hid (Putter F p b B I)) (l : List UInt8) (k n : Int) (s : ByteArray) (a : Option Addr) (xs : List It) (lc : Nat) (w : World) (hS : SlB B w a xs) (hI : Hid (I l w)) (hok : dOk k n s xs = true) (hM : l.length ≤ 100) (hB : B ≤ w.heap.size) :
    Calls Tryz.prog 197 #[.agg #[.int .i64 k, .int .i64 n, .string s, .slice a xs.length lc], .func (.func F) #[] #[p]] w fun e w' => e = .returned (.tuple #[]) ∧ Fed I b B (l ++ datB k n s xs) w w' := by
  by_cases hk : k = 3
  · subst hk
    rw [show dOk 3 n s xs = listOk n s xs from by simp [dOk]] at hok
    obtain ⟨_, _, hlen, hall⟩ := listOk_parts hok
    have HA := Lib.hid hall; clear hall hok
    have HS := Lib.hid hS; clear hS
    have hen := P.out.enters
    have hlow := P.out.low _ _ hI.out
    have hB1 : B ≤ w.heap.size + 1 := by omega
    obtain ⟨ll, hll⟩ : ∃ ll, ll = xs.length := ⟨_, rfl⟩
    rw [← hll] at hlen ⊢
    have HL := Lib.hid hll; clear hll
    go_enter Tryz.func197, Tryz.ntmps197
    go_wp2_with fail
    refine (P.out.put l _ 3 3 rfl (P.out.alloc _ _ _ hI.out) (by omega) (by simp; omega)).mono ?_
    rintro e w1 ⟨rfl, hf⟩
    have hbx := box_heap hf.2.2 (new_heap _ _) (by omega)
    obtain ⟨c0, c1, c2, c3⟩ := box_heap_cells hbx
    have HBX := Lib.hid hbx
    have HF := Lib.hid (show Fed I b B _ _ _ from hf); clear hf hbx
    go_wp2_with fail
    refine (P.out.put _ _ _ (byt xs.length) (by rw [byt_nat, ← HL.out]; omega) HF.out.1 (by simp; omega) (by have := HF.out.2.1.size; simp at this; omega)).mono ?_
    rintro e w2 ⟨rfl, hf⟩
    have hbx := box_heap hf.2.2 HBX.out (by omega)
    obtain ⟨d0, d1, d2, d3⟩ := box_heap_cells hbx
    have HF2 := Lib.hid (show Fed I b B _ _ _ from hf); clear hf hbx
    have H0 := Lib.hid (Fed.al hB _ (HF.out.trans HF2.out))
    go_wp2
    go_loopw [37] (fun i wr => ∃ j : Nat, j ≤ ll ∧ i = .int .i64 j ∧ Fed I b B (l ++ [3] ++ [byt xs.length] ++ itemsB (xs.take j)) w wr) (fun i _ => ll - (intOf i).toNat)
    case atStart => exact ⟨0, Nat.zero_le _, rfl, by simpa [itemsB] using H0.out⟩
    case round =>
      obtain ⟨j, hj, rfl, hb⟩ := hrel
      have HB := Lib.hid hb; clear hb
      by_cases hlt : j < ll
      · have hlt' : j < xs.length := by rw [← HL.out]; exact hlt
        obtain ⟨b', off, rfl, hbw, hc⟩ := (HS.out.below HB.out.2.1).at hlt'
        obtain ⟨e0, e1, e2, e3⟩ := hc j hlt'
        clear hc
        have hokj : (xs[j]'hlt').ok = true := HA.out _ (List.getElem_mem _)
        obtain ⟨hkj, hsj⟩ := item_kind hokj
        have HK := Lib.hid hkj; clear hokj hkj
        have hlj : (itemsB (xs.take j)).length ≤ 73 * j := by
          have := itemsB_length (xs.take j) (fun x hx => HA.out x (List.mem_of_mem_take hx))
          have := List.length_take_le j xs
          omega
        have hwr := HB.out.2.1.size
        go_wp2_with fail
        refine (eachItem_any P _ _ _ _ _ _ _ _ (Lib.hid (P.out.alloc _ _ _ HB.out.1)) HK.out (by simp; omega) (by omega) (by simp; omega)).mono ?_
        rintro e w3 ⟨rfl, hf⟩
        have HF3 := Lib.hid (Fed.al (by omega) _ hf); clear hf
        go_wp2
        go_roundw
        case rel =>
          refine ⟨j + 1, by omega, by go_num, ?_⟩
          rw [List.take_succ_eq_append_getElem hlt', itemsB_snoc, ← List.append_assoc]
          exact HB.out.trans HF3.out
        case measure => simp [intOf]; omega
      · go_wp2
        go_end0
        refine ⟨rfl, ?_⟩
        have := HB.out
        rw [List.take_of_length_le (by have := HL.out; omega)] at this
        simpa [datB] using this
  · have h1 : itemOk k n s xs.length = true := by simpa [dOk, hk] using hok
    obtain ⟨h2, h3⟩ := item_kind (x := ⟨k, n, s, a, xs.length, lc⟩) h1
    have := eachItem_any P l k n s a xs.length lc w hI h2 (by omega) (by show s.size ≤ 10000; have : s.size ≤ 32 := h3; omega) hB
    simpa [datB, hk] using this

/-- The closure of Bytes is a putter: it writes into the builder at block b. -/
theorem putter_builder (b : Nat) : Putter 200 (.pointer (some ⟨b, 0, none⟩)) b b (fun l w => Lib.IsBuilderF 263 5 b b (Lib.byteCells l) w) where
  enters := fun args w => enters_of Tryz.func200 (by kernel_rfl) rfl args w
  put := by
    intro l w c u hc hI hl hB
    subst hc
    go_enter Tryz.func200, Tryz.ntmps200
    go_wp2_with fail
    refine (writeByte_k b b _ _ _ hI (by rw [Lib.byteCells_length]; omega) hB).mono ?_
    rintro e w1 ⟨rfl, h1, hb1, hk1⟩
    go_wp2
    go_end0
    refine ⟨rfl, ?_, hb1, hk1⟩
    rw [Lib.byteCells_append]
    exact .inr h1
  alloc := fun _ _ _ h => h.alloc _
  low := by
    intro l w h
    rcases h with ⟨_, v, hb, _⟩ | ⟨_, v, hb, _⟩ <;> exact (Array.getElem?_eq_some_iff.1 hb).1

set_option maxHeartbeats 800000 in
theorem bytes_ok (k n : Int) (s : ByteArray) (a : Option Addr) (xs : List It) (lc : Nat) (w : World) (hS : Sl w a xs) (h : dOk k n s xs = true) :
    Calls Tryz.prog 153 #[.agg #[.int .i64 k, .int .i64 n, .string s, .slice a xs.length lc]] w fun e w' => e = .returned (.tuple #[.string ⟨(datB k n s xs).toArray⟩, .int .i64 0]) ∧ Below w.heap.size w w' := by
  have HS := Lib.hid hS; clear hS
  have HF := Lib.hid h; clear h
  obtain ⟨l, hl⟩ : ∃ l, l = datB k n s xs := ⟨_, rfl⟩
  rw [← hl]
  have HL := Lib.hid hl; clear hl
  go_enter Tryz.func153, Tryz.ntmps153
  go_wp2_with fail
  refine (check_ok _ _ _ _ _ _ _ (HS.out.below ((Below.refl _ _).alloc (Nat.le_refl _) _) (Nat.le_refl _)) HF.out).mono ?_
  rintro e w1 ⟨rfl, hb1⟩
  obtain ⟨c0, c1, c2, c3⟩ := box_cells (by simpa using hb1)
  have hz1 : w.heap.size < w1.heap.size := by have := hb1.size; simp at this; omega
  go_wp2_with fail
  refine (eachByte_any (Lib.hid (putter_builder w1.heap.size)) [] _ _ _ _ _ _ _ ?_ (Lib.hid (Lib.IsBuilderF.of (Lib.fresh_isBuilder 263 5 w1))) HF.out (by simp) (by simp)).mono ?_
  · exact ((HS.out.below ((Below.refl _ _).alloc (Nat.le_refl _) _) (Nat.le_refl _)).below hb1 (Nat.le_refl _)).slB.below ((Below.refl _ _).alloc (Nat.le_refl _) _)
  rintro e w2 ⟨rfl, hf⟩
  have hz2 := hf.2.1.size
  simp at hz2
  have HF2 := Lib.hid hf; clear hf
  go_wp2_with fail
  refine (Tryz.Builder_String_any_k w1.heap.size w1.heap.size _ _ HF2.out.1 (by omega)).mono ?_
  rintro e w3 ⟨rfl, h3, hb3, hk3⟩
  go_wp2
  go_ret2
  refine ⟨by rw [HL.out]; rfl, ?_⟩
  exact below_then (below_al _ hb1) (Nat.le_refl _) (((Below.refl _ _).alloc (Nat.le_refl _) _).trans (HF2.out.2.1.trans hb3))

end Go.Proofs.YtefddiikdamnbaaGreatDoor.Dm
