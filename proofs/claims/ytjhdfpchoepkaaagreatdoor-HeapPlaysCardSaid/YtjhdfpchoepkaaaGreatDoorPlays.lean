/- HeapPlays: for every script, the law answers true, and the script reads afterwards as it read before. Conditions: the package variable that the row lists starts as the program's text lays it (the card ties it). -/
import Derived.Test.YtjhdfpchoepkaaaGreatDoorRows
import Derived.Test.YtjhdfpchoepkaaaGreatDoorPLD
import Derived.ProofKit
import Derived.SizedLaws
import Derived.LaidMore
import Derived.OpenShut
import Derived.Lib.SmallJoins
import Derived.Deep.Slices
import Derived.Deep.Fields
import Derived.ChangeSame
import Derived.Carry
import Derived.Deep.CutRange
import Derived.Test.YtjhdfpchoepkaaaGreatDoorCards
import Derived.Test.YtjhdfpchoepkaaaGreatDoorTie
import Derived.Test.YtjhdfpchoepkaaaGreatDoorMAT
import Derived.ChangeMaps5
import Derived.SevenTiedAt
/- A script of a heap's calls that came in. No condition. -/
set_option maxRecDepth 100000
namespace Go.Proofs.YtjhdfpchoepkaaaGreatDoor
open Go Go.ChangeShapes Go.WideShapes Go.ChangeAt Go.RowKit Go.Deep Go.Joins

theorem laidOut : laidOutB Tryz.prog = true := by kernel_rfl
theorem readRecOps : Tryz.prog.readableRec 67 = true := by kernel_rfl
theorem cellsOp : Tryz.prog.cellsOf 77 = 3 := by kernel_rfl
theorem cells3 : Tryz.prog.cellsOf 3 = 1 := by kernel_rfl
theorem cells9 : Tryz.prog.cellsOf 9 = 1 := by kernel_rfl
theorem add_plain (b off i : Nat) : (⟨b, off, none⟩ : Addr).add i = ⟨b, off + i, none⟩ := Addr.add_lit _ _ _

/-- A call: its kind, its number, its row. -/
structure It where
  k : Int
  f : Int
  n : ByteArray

def I64 (n : Int) : Prop := -9223372036854775808 ≤ n ∧ n ≤ 9223372036854775807
def It.Fits (x : It) : Prop := I64 x.k ∧ I64 x.f ∧ x.n.size ≤ 9223372036854775807

/-- The operations lie where the slice's pointer points. -/
def Sl (w : World) (a : Option Addr) (xs : List It) : Prop :=
  xs = [] ∨ ∃ b off, a = some ⟨b, off, none⟩ ∧ b < w.heap.size ∧ ∀ j (h : j < xs.length), w.cell? ⟨b, off + j * 3, none⟩ = some (.int .i64 (xs[j]'h).k) ∧ w.cell? ⟨b, off + j * 3 + 1, none⟩ = some (.int .i64 (xs[j]'h).f) ∧ w.cell? ⟨b, off + j * 3 + 2, none⟩ = some (.string (xs[j]'h).n)

theorem Sl.below {w w' : World} {a : Option Addr} {xs : List It} (h : Sl w a xs) (hb : Below w.heap.size w w') : Sl w' a xs := by
  rcases h with h | ⟨b, off, ha, hbw, hc⟩
  · exact .inl h
  · refine .inr ⟨b, off, ha, Nat.lt_of_lt_of_le hbw hb.size, fun j hj => ?_⟩
    obtain ⟨h0, h1, h2⟩ := hc j hj
    exact ⟨(hb.cell hbw).trans h0, (hb.cell hbw).trans h1, (hb.cell hbw).trans h2⟩

section
variable {H : Type} {enc : TypeId × Value → H} {W : World} {base : Nat} {sp : Nat → Bool} {held : Bool}

theorem i64_of_wf {n : Int} (h : (Lit.int .i64 n).wf = true) : I64 n := by
  have e1 : IntKind.i64.min = -9223372036854775808 := rfl
  have e2 : IntKind.i64.max = 9223372036854775807 := rfl
  simp [Lit.wf, e1, e2] at h
  exact ⟨h.1, h.2⟩
theorem read_int {fuel : Nat} {v : Value} {y : DataW H × List MemPlace} (h : DataW.trod enc Tryz.prog W base sp held fuel 3 [v] = some y) : ∃ n, v = .int .i64 n ∧ I64 n := by
  obtain ⟨n, e, _, wf⟩ := DataW.trod_int Tryz.underlying3 h
  simp at e
  exact ⟨n, e, i64_of_wf wf⟩
theorem read_text {fuel : Nat} {v : Value} {y : DataW H × List MemPlace} (h : DataW.trod enc Tryz.prog W base sp held fuel 9 [v] = some y) : ∃ s, v = .string s ∧ y = (.lit (.string s.data.toList), []) ∧ s.size ≤ 9223372036854775807 := by
  obtain ⟨s, e, hy, hs⟩ := DataW.trod_string Tryz.underlying9 h
  simp at e
  exact ⟨s, e, hy, hs⟩

/-- The four cells of one operation. -/
def ItemAt (W : World) (a : Addr) (i : Nat) (x : It) : Prop :=
  W.cell? (a.add (i * 3)) = some (.int .i64 x.k) ∧ W.cell? (a.add (i * 3 + 1)) = some (.int .i64 x.f) ∧ W.cell? (a.add (i * 3 + 2)) = some (.string x.n) ∧ x.Fits

theorem read_item {a : Addr} {i n : Nat} {cs : List Value} {y : DataW H × List MemPlace} (hc : W.cells? base (a.add (i * 3)) 3 = some cs) (h : DataW.trod enc Tryz.prog W base sp held n 77 cs = some y) : ∃ x, ItemAt W a i x := by
  obtain ⟨ys, n', _, hy, _, hyl, hf⟩ := DataW.trod_struct Tryz.underlying77 h
  obtain ⟨_, hcl, hat⟩ := World.cells?_some hc
  match cs, hcl, ys, hyl with
  | [u0, u1, u2], _, [y0, y1, y2], _ =>
    have f0 : DataW.trod enc Tryz.prog W base sp held n' 3 (([u0, u1, u2].drop 0).take (Tryz.prog.cellsOf 3)) = some y0 := hf 0 _ rfl
    have f1 : DataW.trod enc Tryz.prog W base sp held n' 3 (([u0, u1, u2].drop 1).take (Tryz.prog.cellsOf 3)) = some y1 := hf 1 _ rfl
    have f2 : DataW.trod enc Tryz.prog W base sp held n' 9 (([u0, u1, u2].drop 2).take (Tryz.prog.cellsOf 9)) = some y2 := hf 2 _ rfl
    rw [cells3] at f0 f1
    rw [cells9] at f2
    obtain ⟨k, rfl, hk⟩ := read_int (v := u0) (y := y0) f0
    obtain ⟨f, rfl, hf'⟩ := read_int (v := u1) (y := y1) f1
    obtain ⟨m, rfl, _, hm⟩ := read_text (v := u2) (y := y2) f2
    refine ⟨⟨k, f, m⟩, ?_, ?_, ?_, hk, hf', hm⟩
    · exact hat 0 (by omega)
    · rw [← add_add]; exact hat 1 (by omega)
    · rw [← add_add]; exact hat 2 (by omega)

/-- A script that came in. -/
theorem open_ops7 {r : Reach} {b0 : Nat} {v : Value} {d : DataW H} {p : List MemPlace} (hv : Value.okWide Tryz.prog W r b0 67 v) (hd : DataW.Trod enc Tryz.prog W base sp held 67 v d p) :
    ∃ (a : Option Addr) (xs : List It) (lc : Nat), v = .slice a xs.length lc ∧ Sl W a xs ∧ (∀ x ∈ xs, x.Fits) := by
  obtain ⟨a1, len1, cap1, rfl⟩ := okWide_slice Tryz.underlying67 hv
  obtain ⟨fuel, h⟩ := hd
  rcases open_slice Tryz.underlying67 h with ⟨e, hd0⟩ | ⟨a, len, cap, m, n, D, Pl, e, hd0, hl, hdd, hm, hh, hi⟩
  · simp [Value.cells] at e
    obtain ⟨rfl, rfl, rfl⟩ := e
    exact ⟨none, [], 0, rfl, .inl rfl, fun x hx => by simp at hx⟩
  · simp [Value.cells] at e
    obtain ⟨rfl, rfl, rfl⟩ := e
    have hlen : len1 ≤ m := by rw [hm]; split <;> omega
    rw [cellsOp] at hi
    have hx : ∀ i, i < len1 → ∃ x, ItemAt W a i x := fun i hil => by
      obtain ⟨cs', hc, ht⟩ := hi i (by omega)
      exact read_item hc ht
    let f : Nat → It := fun i => if h : i < len1 then Classical.choose (hx i h) else ⟨0, 0, ⟨#[]⟩⟩
    have hf : ∀ i, i < len1 → ItemAt W a i (f i) := fun i hil => by
      have : f i = Classical.choose (hx i hil) := dif_pos hil
      rw [this]
      exact Classical.choose_spec (hx i hil)
    have hlf : ((List.range len1).map f).length = len1 := by simp
    have hget : ∀ j (hj : j < ((List.range len1).map f).length), ((List.range len1).map f)[j]'hj = f j := fun j hj => by simp
    refine ⟨some a, (List.range len1).map f, cap1, by rw [hlf], ?_, ?_⟩
    · cases len1 with
      | zero => exact .inl rfl
      | succ len =>
        obtain ⟨b, off, spot⟩ := a
        have h0 := (hf 0 (by omega)).1
        have hspot : spot = none := by simpa [Addr.add] using World.cell?_spot h0
        subst hspot
        refine .inr ⟨b, off, rfl, ?_, fun j hj => ?_⟩
        · rw [add_plain] at h0
          unfold World.cell? at h0
          split at h0
          · rename_i hh
            exact (Array.getElem?_eq_some_iff.1 hh).1
          · cases h0
        · obtain ⟨e0, e1, e2, _⟩ := hf j (by rw [hlf] at hj; exact hj)
          rw [add_plain] at e0 e1 e2
          rw [hget j hj]
          exact ⟨e0, e1, e2⟩
    · intro x hx
      obtain ⟨i, hi, rfl⟩ := List.mem_map.1 hx
      exact (hf i (List.mem_range.1 hi)).2.2.2

end
end Go.Proofs.YtjhdfpchoepkaaaGreatDoor

/- The walk of HeapPlays. -/
set_option maxRecDepth 100000
namespace Go.Proofs.YtjhdfpchoepkaaaGreatDoor
open Go Go.RowKit

/-- Behind so many calls of the script. -/
def PlyI (c : Ac) (hb r : Nat) (w : World) (v : Value) (k : Nat) (wr : World) : Prop := ∃ S l m, DoSt (JL [] []) w.heap.size c hb r S v l m wr ∧ m ≤ k ∧ Below w.heap.size w wr
section
variable {c : Ac} {hb r k : Nat} {w wr : World} {v : Value} {xs : List It} {a : Option Addr}
theorem PlyI.does (I : PlyI c hb r w v k wr) (hr : r < 16) (hS : Sl w a xs) (hF : ∀ x ∈ xs, x.Fits) (hn : xs.length ≤ 1000) (hk : k < xs.length) :
    ∃ (b off : Nat) (kd at_ : Int) (row : ByteArray), a = some ⟨b, off, none⟩ ∧ wr.cell? ⟨b, off + k * 3, none⟩ = some (.int .i64 kd) ∧ wr.cell? ⟨b, off + k * 3 + 1, none⟩ = some (.int .i64 at_) ∧ wr.cell? ⟨b, off + k * 3 + 2, none⟩ = some (.string row) ∧
      Calls Tryz.prog 29 #[.pointer (some ⟨hb, 0, none⟩), v, .agg #[.int .i64 kd, .int .i64 at_, .string row]] wr fun e w2 => ∃ v', e = .returned (.tuple #[v', .bool true]) ∧ Hid (PlyI c hb r w v' (k + 1) w2) := by
  obtain ⟨S, l, m, h1, h2, h3⟩ := I
  rcases hS.below h3 with h0 | ⟨b, off, ha, hbw, hcell⟩
  · rw [h0] at hk; simp at hk
  · obtain ⟨c0, c1, c2⟩ := hcell k hk
    refine ⟨b, off, _, _, _, ha, c0, c1, c2, ?_⟩
    have hf := (hF _ (List.getElem_mem hk)).2.1
    refine (does_any h1 hr (by omega) _ _ (by have := hf.2; omega) _).mono ?_
    rintro e w2 ⟨v', S', l', m', rfl, q1, q2, q3⟩
    exact ⟨v', rfl, Lib.hid ⟨S', l', m', q1, by omega, h1.heap.to h3 (Nat.le_refl _) q3⟩⟩
theorem PlyI.told (I : PlyI c hb r w v k wr) (hr : r < 16) (hk : k ≤ 1000) : Calls Tryz.prog 30 #[.pointer (some ⟨hb, 0, none⟩), v] wr fun e w2 => e = .returned (.bool true) ∧ Hid (Below w.heap.size w w2) := by
  obtain ⟨S, l, m, h1, h2, h3⟩ := I
  refine (told_any h1 hr (by omega)).mono ?_
  rintro e w2 ⟨rfl, S', hT⟩
  exact ⟨rfl, Lib.hid (h1.heap.to h3 (Nat.le_refl _) hT)⟩
end

set_option maxHeartbeats 3200000 in
theorem heapPlays_walk (a : Option Addr) (xs : List It) (lc : Nat) (w : World) (hT : Tab w) (hS : Sl w a xs) (hF : ∀ x ∈ xs, x.Fits) :
    Calls Tryz.prog 4 #[.slice a xs.length lc] w fun e w' => e = .returned (.bool true) ∧ Below w.heap.size w w' := by
  have HT := Lib.hid hT
  have HBG := Lib.hid (begun_ok w hT)
  have HDO : Hid (∀ c hb r v k wr, xs.length ≤ 1000 → r < 16 → PlyI c hb r w v k wr → k < xs.length → ∃ (b off : Nat) (kd at_ : Int) (row : ByteArray), a = some ⟨b, off, none⟩ ∧ wr.cell? ⟨b, off + k * 3, none⟩ = some (.int .i64 kd) ∧ wr.cell? ⟨b, off + k * 3 + 1, none⟩ = some (.int .i64 at_) ∧ wr.cell? ⟨b, off + k * 3 + 2, none⟩ = some (.string row) ∧
      Calls Tryz.prog 29 #[.pointer (some ⟨hb, 0, none⟩), v, .agg #[.int .i64 kd, .int .i64 at_, .string row]] wr fun e w2 => ∃ v', e = .returned (.tuple #[v', .bool true]) ∧ Hid (PlyI c hb r w v' (k + 1) w2)) := Lib.hid fun c hb r v k wr hn hr I hk => I.does hr hS hF hn hk
  obtain ⟨n, hn⟩ : ∃ n, n = xs.length := ⟨_, rfl⟩
  rw [← hn] at HDO ⊢
  clear hS hF hT hn
  go_enter Tryz.func4, Tryz.ntmps4
  go_wp2_with fail
  refine HBG.out.mono ?_
  rintro e w1 ⟨c, S, rfl, hf, hb1⟩
  have HF := Lib.hid hf
  have HB1 := Lib.hid hb1
  clear HBG hf hb1
  by_cases hn1 : n ≤ 1000
  case neg =>
    have f1 : (1000 : Int) < (n : Int) := by omega
    have HAW := Lib.hid (awake_any w1 (HT.out.below HB1.out HT.out.1))
    go_wp2_with fail
    refine HAW.out.mono ?_
    rintro e w2 ⟨rfl, hb⟩
    have HE := Lib.hid (HB1.out.trans (hb.mono HB1.out.size))
    clear HAW hb
    go_wp2
    go_ret
    exact ⟨rfl, HE.out⟩
  have f1 : ¬ (1000 : Int) < (n : Int) := by omega
  go_wp2_with fail
  refine (hl_new HF.out 3 (by omega)).mono ?_
  rintro e w2 ⟨hb, rfl, h2, -, hb2⟩
  have HI0 : Hid (PlyI c hb 3 w (.slice none 0 0) 0 w2) := Lib.hid ⟨S, [], 0, ⟨h2, RwV.nil_ _, fun g hg => by simp [Value.ownBlock] at hg, Nat.le_refl _⟩, Nat.le_refl _, HB1.out.trans (hb2.mono HB1.out.size)⟩
  clear h2 hb2 HF HB1
  go_wp2
  go_loopw [9, 10] (fun v i wr => ∃ k : Nat, k ≤ n ∧ i = .int .i64 k ∧ Hid (PlyI c hb 3 w v k wr)) (fun _ i _ => n - (intOf i).toNat)
  case atStart => exact ⟨0, by omega, rfl, HI0⟩
  case round =>
    obtain ⟨k, hk, rfl, HI⟩ := hrel
    clear HI0
    by_cases hkn : k < n
    · obtain ⟨b, off, kd, at_, row, rfl, c0, c1, c2, hd⟩ := HDO.out c hb 3 _ k wr hn1 (by omega) HI.out hkn
      have HD := Lib.hid hd
      have f2 : (k : Int) < (n : Int) := by omega
      clear hd HI HDO
      go_wp2_with fail
      refine HD.out.mono ?_
      rintro e w3 ⟨v', rfl, HI2⟩
      clear HD c0 c1 c2
      go_wp2
      go_roundw
      case rel => exact ⟨k + 1, by omega, by go_num, HI2⟩
      case measure => simp [intOf]; omega
    · have f2 : ¬ (k : Int) < (n : Int) := by omega
      clear HDO
      go_wp2_with fail
      refine (HI.out.told (by omega) (by omega)).mono ?_
      rintro e w3 ⟨rfl, HB3⟩
      have HAW := Lib.hid (awake_any w3 (HT.out.below HB3.out HT.out.1))
      clear HI
      go_wp2_with fail
      refine HAW.out.mono ?_
      rintro e w4 ⟨rfl, hb4⟩
      have HE := Lib.hid (HB3.out.trans (hb4.mono HB3.out.size))
      clear HAW hb4
      go_wp2
      go_ret
      exact ⟨rfl, HE.out⟩
end Go.Proofs.YtjhdfpchoepkaaaGreatDoor

set_option maxRecDepth 100000
namespace Go.Proofs.YtjhdfpchoepkaaaGreatDoor
open Go Go.ChangeShapes Go.WideShapes Go.ChangeAt Go.RowKit

theorem heapPlays_met (os : Os) (args : Array Value) : laidMetH Tryz.prog listed ((World.doorLaid Tryz.prog 4000 os).forCall (fun _ _ => 0) ⟨#[], args, []⟩).memory :=
  laidMetH_of_parts3 (fuel := 8) (laidMet_of_run' 8 (by kernel_rfl) (by kernel_rfl)) (by kernel_rfl) (by kernel_rfl)

set_option maxHeartbeats 1600000 in
theorem heapPlays_lifted (os : Os) (started : os.Started) (H : Type) (enc : TypeId × Value → H) :
    ReturnsInHanded {} Tryz.checked os 4 .any (fun w args => (Rows.heapPlaysSpec.pre enc Tryz.prog Tryz.f4 [] false w args ∧ laidMetH Tryz.prog listed w) ∧ sizedMet enc Tryz.prog Tryz.f4 (OpenSpec.ofChange Rows.heapPlaysSpec) false w args)
      (Rows.heapPlaysSpec.post enc Tryz.prog Tryz.f4 false true false false) := by
  refine returnsInHanded_of_change_and (C := Tryz.checked) (X := fun w _ => laidMetH Tryz.prog listed w) (fun _ _ _ hh h => h.of_heap hh) ownS started (by kernel_rfl) Tryz.func4
    (ChangeSpec.witness_shaped (enc := enc) (C := Tryz.checked) (os := os) (X := fun w _ => laidMetH Tryz.prog listed w) false (World.doorLaid Tryz.prog 4000 os) #[.slice none 0 0] 8 rfl (World.shaped_of_RefB (by kernel_rfl) (by kernel_rfl)) (by kernel_rfl) (by kernel_rfl) (by kernel_rfl) (heapPlays_met os _)) ?_
  intro W base args ds gs before hval0 hW _ hsz0 hL _
  have hval : ∀ (j : Nat) t v, Tryz.f4.params[j]? = some t → args[j]? = some v → Value.okWide Tryz.prog W .any base t v := hval0
  have hsz : (DataW.weightsEach Tryz.prog (Tryz.f4.params.toList ++ Rows.heapPlaysSpec.plain.varTypes Tryz.prog) (ds ++ gs)).all (· ≤ reachBytes) = true := hsz0
  have hW' := hW
  obtain ⟨p, q, hA0, hV, rfl, hfz, hnd⟩ := hW
  have hA : DataW.TrodAll enc Tryz.prog W 0 (fun _ => true) true Tryz.f4.params.toList args.toList ds p := hA0
  rw [Tryz.params4] at hA hval hsz
  obtain ⟨v0, d0, rfl, rfl, h0⟩ := trodAll_one hA
  obtain ⟨rfl, rfl⟩ := trodVars_none hV
  obtain ⟨a1, xs1, lc1, rfl, hS1, hF1⟩ := open_ops7 (hval 0 67 v0 rfl rfl) h0
  clear hA0 hval0 hsz0
  simp only [List.append_nil] at hW'
  have hlt1 : ∀ x ∈ p, x.block < W.heap.size := fun x hx => hW'.lt x (by simp [hx])
  refine (heapPlays_walk a1 xs1 lc1 W (laid_of hL) hS1 hF1).mono fun e W' ⟨he, hb⟩ => ?_
  subst he
  refine ⟨_, rfl, _, _, _, [], p, [], hW', ?_, ?_, ?_, hb.frame _, fun h => by cases h⟩
  · exact trodAll_mk1 (shut_bool Tryz.underlying4 _)
  · exact trodAll_mk1 (Below.trod laidOut readRecOps (of_decide_eq_true (by kernel_rfl)) h0 hb hlt1)
  · rfl

theorem heapPlays_said : Rows.HeapPlaysSaid :=
  OpenClaim.holds_of_wide 4 Tryz.f4 rfl rfl rfl rfl rfl rfl rfl ⟨rfl, rfl, rfl, rfl, rfl⟩ rfl rfl rfl rfl rfl (by kernel_rfl) Tryz.func4 (by kernel_rfl)
    (of_decide_eq_true (by kernel_rfl)) (by unfold Func.isWrapper; rw [if_neg (of_decide_eq_false (by kernel_rfl))]; exact ⟨rfl, rfl⟩)
    (fun os started H enc _ => heapPlays_lifted os started H enc)

theorem heapPlays_holds : Rows.HeapPlaysCardSaid :=
  Claim7.holds_tied_plain_at .later [] [.data] true (true, "63e338a3631e277fdbf87d39920ea12ee42c98963aada10cc5d66bf97678c9b1") false
    heapPlays_said (fun _ h => by cases h) (by kernel_rfl) (fun _ h => by cases h) heapPlays_row_tie rfl ⟨rfl, rfl⟩ (by kernel_rfl) rfl
    (fun f fn hf hfn => by
      obtain rfl : f = 4 := Option.some.inj ((show Tryz.prog.funcNamed "vestibule/vestibulelaw07.HeapPlays" = some 4 by kernel_rfl).symm.trans hf) |>.symm
      obtain rfl : fn = Tryz.f4 := (Option.some.inj (Tryz.func4.symm.trans hfn)).symm
      exact ⟨by kernel_rfl, fun j t ht => by
        rw [Tryz.params4] at ht
        have hm : t ∈ [67] := List.mem_of_getElem? (by simpa using ht)
        have hall : ∀ t ∈ [67], Tryz.prog.wantsStandIn t = false := by
          intro t ht
          simp only [List.mem_cons, List.not_mem_nil, or_false] at ht
          rcases ht with rfl <;> kernel_rfl
        exact hall t hm⟩)
    (by kernel_rfl)
#print axioms heapPlays_holds
end Go.Proofs.YtjhdfpchoepkaaaGreatDoor
