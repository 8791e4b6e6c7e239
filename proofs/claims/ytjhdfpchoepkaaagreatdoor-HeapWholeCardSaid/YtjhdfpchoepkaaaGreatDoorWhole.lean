/- HeapWhole: for every script, the law answers true, and the script reads afterwards as it read before. Conditions: the package variable that the row lists starts as the program's text lays it (the card ties it). -/
import Derived.Test.YtjhdfpchoepkaaaGreatDoorPLB
import Derived.Test.YtjhdfpchoepkaaaGreatDoorRows
import Derived.Test.YtjhdfpchoepkaaaGreatDoorPLD
import Derived.ProofKit
import Derived.SizedLaws
import Derived.LaidMore
import Derived.OpenShut
import Derived.Lib.SmallJoins
import Derived.Deep.Slices
import Derived.Deep.Fields
import Derived.ChangeSame
import Derived.Carry
import Derived.Test.YtjhdfpchoepkaaaGreatDoorPLE
import Derived.Deep.CutRange
import Derived.Test.YtjhdfpchoepkaaaGreatDoorCards
import Derived.Test.YtjhdfpchoepkaaaGreatDoorTie
import Derived.Test.YtjhdfpchoepkaaaGreatDoorMAT
import Derived.ChangeMaps5
import Derived.SevenTiedAt
/- Contract: the free pages of a space's head, and a space's Pages. -/
set_option maxRecDepth 100000
namespace Go.Proofs.YtjhdfpchoepkaaaGreatDoor
open Go Go.RowKit

/-- The free pages among the first n. -/
def frP (h : Hd) (n : Nat) : List Nat := (List.range n).filter h.isFree
theorem frP_succ (h : Hd) (n : Nat) : frP h (n + 1) = frP h n ++ if h.isFree n = true then [n] else [] := by
  unfold frP
  rw [List.range_succ, List.filter_append]
  congr 1
  cases hf : h.isFree n <;> simp [hf]
theorem frP_len (h : Hd) (n : Nat) : (frP h n).length ≤ n := by
  unfold frP
  exact Nat.le_trans (List.length_filter_le _ _) (by rw [List.length_range]; exact Nat.le_refl _)
theorem frP_one {h : Hd} (k : h.Ok) : frP h 1 = [] := by
  have h0 : h.isFree 0 = false := by
    cases hf : h.isFree 0 with
    | false => rfl
    | true => have := (k.isFree_lt hf).1; omega
  rw [frP_succ, h0]
  simp [frP]
set_option maxHeartbeats 1600000 in
theorem freePages_any (b o : Nat) (h : Hd) (w : World) (a : HdAt w b o h) (k : h.Ok) :
    Calls Tryz.prog 60 #[.pointer (some ⟨b, o, none⟩)] w fun e w' => ∃ v, e = .returned v ∧ NewN w.heap.size w' v (frP h (h.count + 1)) ∧ Below w.heap.size w w' := by
  have hlt : b < w.heap.size := World.block_lt_of_cell? w ⟨b, o, none⟩ a.count
  have HA : Hid (∀ W, Below w.heap.size w W → HdAt W b o h) := Lib.hid fun W hb => a.block (hb.block b hlt)
  have HIF : Hid (∀ W (q : Nat), Below w.heap.size w W → q < 4096 → Calls Tryz.prog 110 #[.pointer (some ⟨b, o, none⟩), .int .i64 q] W fun e w' => e = .returned (.bool (h.isFree q)) ∧ w' = W) := Lib.hid fun W q hb hq => isFree_any b o h q W (a.block (hb.block b hlt)) k hq
  have HF1 := Lib.hid (frP_one k)
  have HFL : Hid (∀ n, (frP h n).length ≤ n) := Lib.hid (frP_len h)
  have HFS := Lib.hid (frP_succ h)
  have hcn : h.count ≤ 4095 := by have := k.cnt; omega
  obtain ⟨n, hn⟩ : ∃ n, n = h.count := ⟨_, rfl⟩
  have HC : Hid (∀ W, Below w.heap.size w W → W.cell? ⟨b, o, none⟩ = some (.int .i64 n)) := Lib.hid fun W hb => by rw [hn]; exact (HA.out W hb).count
  rw [← hn] at hcn ⊢
  clear a k hlt hn HA
  go_enter Tryz.func60, Tryz.ntmps60
  go_wp2
  go_loopw [3, 4] (fun v i wr => ∃ (j : Nat) (a' : Option Addr) (n' c' : Nat), i = .int .i64 j ∧ 1 ≤ j ∧ j ≤ n + 1 ∧ v = .slice a' n' c' ∧ Hid (NewN w.heap.size wr (.slice a' n' c') (frP h j)) ∧ Hid (Below w.heap.size w wr)) (fun _ i _ => n + 1 - (intOf i).toNat)
  case atStart => exact ⟨1, none, 0, 0, rfl, by omega, by omega, rfl, Lib.hid (by rw [HF1.out]; exact NewN.nil_ _ _), Lib.hid (Below.refl _ _)⟩
  case round =>
    obtain ⟨j, a', n', c', rfl, hj1, hj2, rfl, HN, HB⟩ := hrel
    have c0 := HC.out wr HB.out
    by_cases hjn : j ≤ n
    · have f1 : (j : Int) ≤ (n : Int) := by omega
      have HI := Lib.hid (HIF.out wr j HB.out (by omega))
      have HSU := Lib.hid (HFS.out j)
      obtain ⟨fr, hfr⟩ : ∃ fr, fr = h.isFree j := ⟨_, rfl⟩
      rw [← hfr] at HI HSU
      clear hfr
      cases fr with
      | false =>
        have HN2 := Lib.hid (show NewN w.heap.size wr (.slice a' n' c') (frP h (j + 1)) by rw [HSU.out, if_neg (by decide), List.append_nil]; exact HN.out)
        clear HIF HC HSU HN
        go_wp2_with fail
        refine HI.out.mono ?_
        rintro e w3 ⟨rfl, hw⟩
        subst w3
        go_wp2
        go_roundw
        case rel => exact ⟨j + 1, a', n', c', by go_num, by omega, by omega, rfl, HN2, HB⟩
        case measure => simp [intOf]; omega
      | true =>
        obtain ⟨a2, n2, c2, w4, hr4, HN4, HB4⟩ := HN.out.push HB.out j (by have := HFL.out j; omega)
        have HN2 := Lib.hid (show NewN w.heap.size w4 (.slice a2 n2 c2) (frP h (j + 1)) by rw [HSU.out, if_pos rfl]; exact HN4.out)
        clear HIF HC HSU HN HN4
        go_wp2_with fail
        refine HI.out.mono ?_
        rintro e w3 ⟨rfl, hw⟩
        subst w3
        go_wp2_with (at_builtin; refine Lib.wpList_append_run _ rfl _ _ 57 57 rfl _ _ rfl rfl _ _ hr4 ?_)
        go_roundw
        case rel => exact ⟨j + 1, a2, n2, c2, by go_num, by omega, by omega, rfl, HN2, HB4⟩
        case measure => simp [intOf]; omega
    · have f1 : ¬ (j : Int) ≤ (n : Int) := by omega
      have hj : j = n + 1 := by omega
      have HN2 := Lib.hid (show NewN w.heap.size wr (.slice a' n' c') (frP h (n + 1)) by rw [← hj]; exact HN.out)
      clear HIF HC hj HN
      go_wp2
      go_ret
      exact ⟨_, rfl, HN2.out, HB.out⟩
set_option maxHeartbeats 1600000 in
/-- A space's Pages: how many there are, and those that are free. -/
theorem spages_any {s d l p : Nat} {h : Hd} {cur : Option Nat} {w : World} (x : SpaceAt w s d l p h cur) (k : h.Ok) :
    Calls Tryz.prog 21 #[.pointer (some ⟨s, 0, none⟩)] w fun e w' => ∃ v, e = .returned (.tuple #[.int .i64 h.count, v]) ∧ NewN w.heap.size w' v (frP h (h.count + 1)) ∧ Below w.heap.size w w' := by
  have HG := Lib.hid (sgiven_self s w x.self)
  have HF : Hid (∀ W, Below w.heap.size w W → Calls Tryz.prog 60 #[.pointer (some ⟨s, 4, none⟩)] W fun e w' => ∃ v, e = .returned v ∧ w'.cell? ⟨s, 4, none⟩ = some (.int .i64 h.count) ∧ Hid (NewN w.heap.size w' v (frP h (h.count + 1)) ∧ Below w.heap.size w w')) := Lib.hid fun W hb => by
    have hl := x.lt
    have hhd : HdAt W s 4 h := (x.hd.block rfl).block (hb.block s hl)
    refine (freePages_any s 4 h W hhd k).mono ?_
    rintro e w' ⟨v, he, hN, hb'⟩
    exact ⟨v, he, (hhd.block (hb'.block s (Nat.lt_of_lt_of_le hl hb.size))).count, Lib.hid ⟨⟨hN.is, fun g hg => Nat.le_trans hb.size (hN.new g hg)⟩, hb.trans (hb'.mono hb.size)⟩⟩
  have c0 : w.cell? ⟨s, 4, none⟩ = some (.int .i64 h.count) := x.hd.count
  obtain ⟨n, hn⟩ : ∃ n, n = h.count := ⟨_, rfl⟩
  rw [← hn] at HF c0 ⊢
  clear x k hn
  go_enter Tryz.func21, Tryz.ntmps21
  go_wp2_with fail
  refine HG.out.mono ?_
  rintro e w' ⟨rfl, hw⟩
  subst w'
  go_upto_region 3 with fail
  go_region_with (go_at_call 60; refine (HF.out _ ((Below.refl _ _).drew)).mono ?_; rintro e w3 ⟨v, rfl, c3, HE⟩)
  all_goals go_wp2
  all_goals go_ret2
  all_goals exact ⟨_, rfl, HE.out⟩
end Go.Proofs.YtjhdfpchoepkaaaGreatDoor

/- A script of a heap's calls that came in. No condition. -/
set_option maxRecDepth 100000
namespace Go.Proofs.YtjhdfpchoepkaaaGreatDoor
open Go Go.ChangeShapes Go.WideShapes Go.ChangeAt Go.RowKit Go.Deep Go.Joins

theorem laidOut : laidOutB Tryz.prog = true := by kernel_rfl
theorem readRecOps : Tryz.prog.readableRec 67 = true := by kernel_rfl
theorem cellsOp : Tryz.prog.cellsOf 77 = 3 := by kernel_rfl
theorem cells3 : Tryz.prog.cellsOf 3 = 1 := by kernel_rfl
theorem cells9 : Tryz.prog.cellsOf 9 = 1 := by kernel_rfl
theorem add_plain (b off i : Nat) : (⟨b, off, none⟩ : Addr).add i = ⟨b, off + i, none⟩ := Addr.add_lit _ _ _

/-- A call: its kind, its number, its row. -/
structure It where
  k : Int
  f : Int
  n : ByteArray

def I64 (n : Int) : Prop := -9223372036854775808 ≤ n ∧ n ≤ 9223372036854775807
def It.Fits (x : It) : Prop := I64 x.k ∧ I64 x.f ∧ x.n.size ≤ 9223372036854775807

/-- The operations lie where the slice's pointer points. -/
def Sl (w : World) (a : Option Addr) (xs : List It) : Prop :=
  xs = [] ∨ ∃ b off, a = some ⟨b, off, none⟩ ∧ b < w.heap.size ∧ ∀ j (h : j < xs.length), w.cell? ⟨b, off + j * 3, none⟩ = some (.int .i64 (xs[j]'h).k) ∧ w.cell? ⟨b, off + j * 3 + 1, none⟩ = some (.int .i64 (xs[j]'h).f) ∧ w.cell? ⟨b, off + j * 3 + 2, none⟩ = some (.string (xs[j]'h).n)

theorem Sl.below {w w' : World} {a : Option Addr} {xs : List It} (h : Sl w a xs) (hb : Below w.heap.size w w') : Sl w' a xs := by
  rcases h with h | ⟨b, off, ha, hbw, hc⟩
  · exact .inl h
  · refine .inr ⟨b, off, ha, Nat.lt_of_lt_of_le hbw hb.size, fun j hj => ?_⟩
    obtain ⟨h0, h1, h2⟩ := hc j hj
    exact ⟨(hb.cell hbw).trans h0, (hb.cell hbw).trans h1, (hb.cell hbw).trans h2⟩

section
variable {H : Type} {enc : TypeId × Value → H} {W : World} {base : Nat} {sp : Nat → Bool} {held : Bool}

theorem i64_of_wf {n : Int} (h : (Lit.int .i64 n).wf = true) : I64 n := by
  have e1 : IntKind.i64.min = -9223372036854775808 := rfl
  have e2 : IntKind.i64.max = 9223372036854775807 := rfl
  simp [Lit.wf, e1, e2] at h
  exact ⟨h.1, h.2⟩
theorem read_int {fuel : Nat} {v : Value} {y : DataW H × List MemPlace} (h : DataW.trod enc Tryz.prog W base sp held fuel 3 [v] = some y) : ∃ n, v = .int .i64 n ∧ I64 n := by
  obtain ⟨n, e, _, wf⟩ := DataW.trod_int Tryz.underlying3 h
  simp at e
  exact ⟨n, e, i64_of_wf wf⟩
theorem read_text {fuel : Nat} {v : Value} {y : DataW H × List MemPlace} (h : DataW.trod enc Tryz.prog W base sp held fuel 9 [v] = some y) : ∃ s, v = .string s ∧ y = (.lit (.string s.data.toList), []) ∧ s.size ≤ 9223372036854775807 := by
  obtain ⟨s, e, hy, hs⟩ := DataW.trod_string Tryz.underlying9 h
  simp at e
  exact ⟨s, e, hy, hs⟩

/-- The four cells of one operation. -/
def ItemAt (W : World) (a : Addr) (i : Nat) (x : It) : Prop :=
  W.cell? (a.add (i * 3)) = some (.int .i64 x.k) ∧ W.cell? (a.add (i * 3 + 1)) = some (.int .i64 x.f) ∧ W.cell? (a.add (i * 3 + 2)) = some (.string x.n) ∧ x.Fits

theorem read_item {a : Addr} {i n : Nat} {cs : List Value} {y : DataW H × List MemPlace} (hc : W.cells? base (a.add (i * 3)) 3 = some cs) (h : DataW.trod enc Tryz.prog W base sp held n 77 cs = some y) : ∃ x, ItemAt W a i x := by
  obtain ⟨ys, n', _, hy, _, hyl, hf⟩ := DataW.trod_struct Tryz.underlying77 h
  obtain ⟨_, hcl, hat⟩ := World.cells?_some hc
  match cs, hcl, ys, hyl with
  | [u0, u1, u2], _, [y0, y1, y2], _ =>
    have f0 : DataW.trod enc Tryz.prog W base sp held n' 3 (([u0, u1, u2].drop 0).take (Tryz.prog.cellsOf 3)) = some y0 := hf 0 _ rfl
    have f1 : DataW.trod enc Tryz.prog W base sp held n' 3 (([u0, u1, u2].drop 1).take (Tryz.prog.cellsOf 3)) = some y1 := hf 1 _ rfl
    have f2 : DataW.trod enc Tryz.prog W base sp held n' 9 (([u0, u1, u2].drop 2).take (Tryz.prog.cellsOf 9)) = some y2 := hf 2 _ rfl
    rw [cells3] at f0 f1
    rw [cells9] at f2
    obtain ⟨k, rfl, hk⟩ := read_int (v := u0) (y := y0) f0
    obtain ⟨f, rfl, hf'⟩ := read_int (v := u1) (y := y1) f1
    obtain ⟨m, rfl, _, hm⟩ := read_text (v := u2) (y := y2) f2
    refine ⟨⟨k, f, m⟩, ?_, ?_, ?_, hk, hf', hm⟩
    · exact hat 0 (by omega)
    · rw [← add_add]; exact hat 1 (by omega)
    · rw [← add_add]; exact hat 2 (by omega)

/-- A script that came in. -/
theorem open_ops7 {r : Reach} {b0 : Nat} {v : Value} {d : DataW H} {p : List MemPlace} (hv : Value.okWide Tryz.prog W r b0 67 v) (hd : DataW.Trod enc Tryz.prog W base sp held 67 v d p) :
    ∃ (a : Option Addr) (xs : List It) (lc : Nat), v = .slice a xs.length lc ∧ Sl W a xs ∧ (∀ x ∈ xs, x.Fits) := by
  obtain ⟨a1, len1, cap1, rfl⟩ := okWide_slice Tryz.underlying67 hv
  obtain ⟨fuel, h⟩ := hd
  rcases open_slice Tryz.underlying67 h with ⟨e, hd0⟩ | ⟨a, len, cap, m, n, D, Pl, e, hd0, hl, hdd, hm, hh, hi⟩
  · simp [Value.cells] at e
    obtain ⟨rfl, rfl, rfl⟩ := e
    exact ⟨none, [], 0, rfl, .inl rfl, fun x hx => by simp at hx⟩
  · simp [Value.cells] at e
    obtain ⟨rfl, rfl, rfl⟩ := e
    have hlen : len1 ≤ m := by rw [hm]; split <;> omega
    rw [cellsOp] at hi
    have hx : ∀ i, i < len1 → ∃ x, ItemAt W a i x := fun i hil => by
      obtain ⟨cs', hc, ht⟩ := hi i (by omega)
      exact read_item hc ht
    let f : Nat → It := fun i => if h : i < len1 then Classical.choose (hx i h) else ⟨0, 0, ⟨#[]⟩⟩
    have hf : ∀ i, i < len1 → ItemAt W a i (f i) := fun i hil => by
      have : f i = Classical.choose (hx i hil) := dif_pos hil
      rw [this]
      exact Classical.choose_spec (hx i hil)
    have hlf : ((List.range len1).map f).length = len1 := by simp
    have hget : ∀ j (hj : j < ((List.range len1).map f).length), ((List.range len1).map f)[j]'hj = f j := fun j hj => by simp
    refine ⟨some a, (List.range len1).map f, cap1, by rw [hlf], ?_, ?_⟩
    · cases len1 with
      | zero => exact .inl rfl
      | succ len =>
        obtain ⟨b, off, spot⟩ := a
        have h0 := (hf 0 (by omega)).1
        have hspot : spot = none := by simpa [Addr.add] using World.cell?_spot h0
        subst hspot
        refine .inr ⟨b, off, rfl, ?_, fun j hj => ?_⟩
        · rw [add_plain] at h0
          unfold World.cell? at h0
          split at h0
          · rename_i hh
            exact (Array.getElem?_eq_some_iff.1 hh).1
          · cases h0
        · obtain ⟨e0, e1, e2, _⟩ := hf j (by rw [hlf] at hj; exact hj)
          rw [add_plain] at e0 e1 e2
          rw [hget j hj]
          exact ⟨e0, e1, e2⟩
    · intro x hx
      obtain ⟨i, hi, rfl⟩ := List.mem_map.1 hx
      exact (hf i (List.mem_range.1 hi)).2.2.2

end
end Go.Proofs.YtjhdfpchoepkaaaGreatDoor

/- A heap's pages and the free ones are all pages that there are. -/
set_option maxRecDepth 100000
namespace Go.Proofs.YtjhdfpchoepkaaaGreatDoor
open Go Go.RowKit

theorem whole_count {h : Hd} {P : List Nat} (k : h.Ok) (hP : PgOk h P) : h.count = P.length + (frP h (h.count + 1)).length ∧ ∀ f ∈ frP h (h.count + 1), f ∉ P := by
  have hndP : P.Nodup := hP.1.imp (fun h => by omega)
  have hndF : (frP h (h.count + 1)).Nodup := by unfold frP; exact List.Pairwise.filter _ List.nodup_range
  have hmF : ∀ q, q ∈ frP h (h.count + 1) ↔ q < h.count + 1 ∧ h.isFree q = true := fun q => by unfold frP; rw [List.mem_filter, List.mem_range]
  have hdis : ∀ f ∈ frP h (h.count + 1), f ∉ P := fun f hf hp => by
    have h1 := ((hmF f).1 hf).2
    have h2 := ((hP.2 f).1 hp).2.2
    rw [h1] at h2; cases h2
  have hnd : (P ++ frP h (h.count + 1)).Nodup := List.nodup_append.2 ⟨hndP, hndF, fun a ha b hb e => hdis b hb (e ▸ ha)⟩
  have hnR : ((List.range h.count).map (· + 1)).Nodup := by
    refine List.pairwise_map.2 (List.nodup_range.imp fun h e => h (by omega))
  have l1 := List.Nodup.length_le_of_subset hnd (l₂ := (List.range h.count).map (· + 1)) (fun q hq => by
    rcases List.mem_append.1 hq with hq | hq
    · have h1 := (hP.2 q).1 hq
      exact List.mem_map.2 ⟨q - 1, List.mem_range.2 (by have := h1.1; have := h1.2.1; omega), by have := h1.1; omega⟩
    · have h1 := (hmF q).1 hq
      have h2 := k.isFree_lt h1.2
      exact List.mem_map.2 ⟨q - 1, List.mem_range.2 (by omega), by omega⟩)
  have l2 := List.Nodup.length_le_of_subset hnR (l₂ := P ++ frP h (h.count + 1)) (fun q hq => by
    obtain ⟨j, hj, rfl⟩ := List.mem_map.1 hq
    have hj := List.mem_range.1 hj
    cases hf : h.isFree (j + 1) with
    | true => exact List.mem_append.2 (.inr ((hmF _).2 ⟨by omega, hf⟩))
    | false => exact List.mem_append.2 (.inl ((hP.2 _).2 ⟨by omega, by omega, hf⟩)))
  simp only [List.length_append, List.length_map, List.length_range] at l1 l2
  exact ⟨by omega, hdis⟩

/-- Behind Commit: the pages of the heap, the free ones. -/
def WhI (w : World) (pv : Value) (P : List Nat) (fv : Value) (F : List Nat) (wr : World) : Prop := Below w.heap.size w wr ∧ NumsI wr pv P ∧ NumsI wr fv F
theorem WhI.below {w wr w' : World} {pv fv : Value} {P F : List Nat} (x : WhI w pv P fv F wr) (hb : Below wr.heap.size wr w') : WhI w pv P fv F w' := ⟨x.1.trans (hb.mono x.1.size), x.2.1.below hb, x.2.2.below hb⟩

theorem whole_tail {c : Ac} {hb r : Nat} {w wr : World} {S : Nat → Prop} {l : List Rw} {m : Nat} (x : HpL (JL [] []) w.heap.size c hb r S l m wr) (hr : r < 16) (hC : ∀ q, (c.C q).length = 512) (hN : c.N = 0) (h0 : Below w.heap.size w wr) :
    Calls Tryz.prog 32 #[.pointer (some ⟨hb, 0, none⟩)] wr fun e w1 => ∃ (P : List Nat) (a : Option Addr) (cc : Nat), e = .returned (.slice a P.length cc) ∧ P.length ≤ 4096 ∧
      Hid (Calls Tryz.prog 20 #[.pointer (some ⟨c.a, 0, none⟩)] w1 fun e w2 => e = .returned (.int .i64 0) ∧
      Hid (Calls Tryz.prog 21 #[.pointer (some ⟨c.s, 0, none⟩)] w2 fun e w3 => ∃ (F : List Nat) (a2 : Option Addr) (c2 : Nat), e = .returned (.tuple #[.int .i64 ((P.length : Int) + (F.length : Int)), .slice a2 F.length c2]) ∧ F.length ≤ 4096 ∧
        Hid (WhI w (.slice a P.length cc) P (.slice a2 F.length c2) F w3) ∧ Hid (∀ f ∈ F, f ∉ P))) := by
  obtain ⟨L, ⟨h, G, hA, ht, hS, hs⟩, y⟩ := x
  refine (pages_raw hA ht hS hr hs).mono ?_
  rintro e w1 ⟨S1, P, v, rfl, hT, hA1, hn, hg, hP⟩
  obtain ⟨a, cc, rfl⟩ := hn.shape
  have hndP : P.Nodup := hP.1.imp (fun h => by omega)
  have hlen : P.length ≤ 1002 := by
    have := List.Nodup.length_le_of_subset (l₁ := P) (l₂ := List.range 1002) hndP (fun q hq => List.mem_range.2 (by have := hs.le ((hP.2 q).1 hq); omega))
    simpa using this
  have hb1 : Below w.heap.size w w1 := turn_below h0 (Nat.le_refl _) (fun k hk => (hA.low k hk).1) hT
  refine ⟨P, a, cc, rfl, by omega, Lib.hid ?_⟩
  refine (commit_v hA1 hC P (fun q hq => (hP.2 q).2 hq) (by omega) (fun r hr => by cases hr) (by decide +kernel) (by rw [hN]; decide)).mono ?_
  rintro e w2 ⟨rfl, S2, rs', ps, hc⟩
  refine ⟨rfl, Lib.hid ?_⟩
  have hb2 : Below w.heap.size w w2 := hb1.trans (hc.kept.toBelow hb1.size (fun k hk => (hA1.low k hk).1))
  have hn2 := hn.kept hc.kept (fun g hg' => (hg g hg').1)
  refine (spages_any hc.sp.sp hc.ok).mono ?_
  rintro e w3 ⟨v3, rfl, hF, hb3⟩
  obtain ⟨a2, c2, rfl⟩ := hF.is.shape
  obtain ⟨e1, e2⟩ := whole_count hc.ok hP
  refine ⟨frP h (h.count + 1), a2, c2, ?_, by have := frP_len h (h.count + 1); have := hc.ok.cnt; omega, Lib.hid ⟨hb2.trans (hb3.mono hb2.size), hn2.below hb3, hF.is⟩, Lib.hid e2⟩
  rw [show ((P.length : Int) + ((frP h (h.count + 1)).length : Int)) = (h.count : Int) by omega]
end Go.Proofs.YtjhdfpchoepkaaaGreatDoor

/- The walk of HeapPlays. -/
set_option maxRecDepth 100000
namespace Go.Proofs.YtjhdfpchoepkaaaGreatDoor
open Go Go.RowKit

/-- Behind so many calls of the script. -/
def PlyI (c : Ac) (hb r : Nat) (w : World) (v : Value) (k : Nat) (wr : World) : Prop := ∃ S l m, DoSt (JL [] []) w.heap.size c hb r S v l m wr ∧ m ≤ k ∧ Below w.heap.size w wr
section
variable {c : Ac} {hb r k : Nat} {w wr : World} {v : Value} {xs : List It} {a : Option Addr}
theorem PlyI.does (I : PlyI c hb r w v k wr) (hr : r < 16) (hS : Sl w a xs) (hF : ∀ x ∈ xs, x.Fits) (hn : xs.length ≤ 1000) (hk : k < xs.length) :
    ∃ (b off : Nat) (kd at_ : Int) (row : ByteArray), a = some ⟨b, off, none⟩ ∧ wr.cell? ⟨b, off + k * 3, none⟩ = some (.int .i64 kd) ∧ wr.cell? ⟨b, off + k * 3 + 1, none⟩ = some (.int .i64 at_) ∧ wr.cell? ⟨b, off + k * 3 + 2, none⟩ = some (.string row) ∧
      Calls Tryz.prog 29 #[.pointer (some ⟨hb, 0, none⟩), v, .agg #[.int .i64 kd, .int .i64 at_, .string row]] wr fun e w2 => ∃ v', e = .returned (.tuple #[v', .bool true]) ∧ Hid (PlyI c hb r w v' (k + 1) w2) := by
  obtain ⟨S, l, m, h1, h2, h3⟩ := I
  rcases hS.below h3 with h0 | ⟨b, off, ha, hbw, hcell⟩
  · rw [h0] at hk; simp at hk
  · obtain ⟨c0, c1, c2⟩ := hcell k hk
    refine ⟨b, off, _, _, _, ha, c0, c1, c2, ?_⟩
    have hf := (hF _ (List.getElem_mem hk)).2.1
    refine (does_any h1 hr (by omega) _ _ (by have := hf.2; omega) _).mono ?_
    rintro e w2 ⟨v', S', l', m', rfl, q1, q2, q3⟩
    exact ⟨v', rfl, Lib.hid ⟨S', l', m', q1, by omega, h1.heap.to h3 (Nat.le_refl _) q3⟩⟩
theorem PlyI.told (I : PlyI c hb r w v k wr) (hr : r < 16) (hk : k ≤ 1000) : Calls Tryz.prog 30 #[.pointer (some ⟨hb, 0, none⟩), v] wr fun e w2 => e = .returned (.bool true) ∧ Hid (Below w.heap.size w w2) := by
  obtain ⟨S, l, m, h1, h2, h3⟩ := I
  refine (told_any h1 hr (by omega)).mono ?_
  rintro e w2 ⟨rfl, S', hT⟩
  exact ⟨rfl, Lib.hid (h1.heap.to h3 (Nat.le_refl _) hT)⟩
end

set_option maxHeartbeats 3200000 in
theorem heapPlays_walk (a : Option Addr) (xs : List It) (lc : Nat) (w : World) (hT : Tab w) (hS : Sl w a xs) (hF : ∀ x ∈ xs, x.Fits) :
    Calls Tryz.prog 4 #[.slice a xs.length lc] w fun e w' => e = .returned (.bool true) ∧ Below w.heap.size w w' := by
  have HT := Lib.hid hT
  have HBG := Lib.hid (begun_ok w hT)
  have HDO : Hid (∀ c hb r v k wr, xs.length ≤ 1000 → r < 16 → PlyI c hb r w v k wr → k < xs.length → ∃ (b off : Nat) (kd at_ : Int) (row : ByteArray), a = some ⟨b, off, none⟩ ∧ wr.cell? ⟨b, off + k * 3, none⟩ = some (.int .i64 kd) ∧ wr.cell? ⟨b, off + k * 3 + 1, none⟩ = some (.int .i64 at_) ∧ wr.cell? ⟨b, off + k * 3 + 2, none⟩ = some (.string row) ∧
      Calls Tryz.prog 29 #[.pointer (some ⟨hb, 0, none⟩), v, .agg #[.int .i64 kd, .int .i64 at_, .string row]] wr fun e w2 => ∃ v', e = .returned (.tuple #[v', .bool true]) ∧ Hid (PlyI c hb r w v' (k + 1) w2)) := Lib.hid fun c hb r v k wr hn hr I hk => I.does hr hS hF hn hk
  obtain ⟨n, hn⟩ : ∃ n, n = xs.length := ⟨_, rfl⟩
  rw [← hn] at HDO ⊢
  clear hS hF hT hn
  go_enter Tryz.func4, Tryz.ntmps4
  go_wp2_with fail
  refine HBG.out.mono ?_
  rintro e w1 ⟨c, S, rfl, hf, hb1⟩
  have HF := Lib.hid hf
  have HB1 := Lib.hid hb1
  clear HBG hf hb1
  by_cases hn1 : n ≤ 1000
  case neg =>
    have f1 : (1000 : Int) < (n : Int) := by omega
    have HAW := Lib.hid (awake_any w1 (HT.out.below HB1.out HT.out.1))
    go_wp2_with fail
    refine HAW.out.mono ?_
    rintro e w2 ⟨rfl, hb⟩
    have HE := Lib.hid (HB1.out.trans (hb.mono HB1.out.size))
    clear HAW hb
    go_wp2
    go_ret
    exact ⟨rfl, HE.out⟩
  have f1 : ¬ (1000 : Int) < (n : Int) := by omega
  go_wp2_with fail
  refine (hl_new HF.out 3 (by omega)).mono ?_
  rintro e w2 ⟨hb, rfl, h2, -, hb2⟩
  have HI0 : Hid (PlyI c hb 3 w (.slice none 0 0) 0 w2) := Lib.hid ⟨S, [], 0, ⟨h2, RwV.nil_ _, fun g hg => by simp [Value.ownBlock] at hg, Nat.le_refl _⟩, Nat.le_refl _, HB1.out.trans (hb2.mono HB1.out.size)⟩
  clear h2 hb2 HF HB1
  go_wp2
  go_loopw [9, 10] (fun v i wr => ∃ k : Nat, k ≤ n ∧ i = .int .i64 k ∧ Hid (PlyI c hb 3 w v k wr)) (fun _ i _ => n - (intOf i).toNat)
  case atStart => exact ⟨0, by omega, rfl, HI0⟩
  case round =>
    obtain ⟨k, hk, rfl, HI⟩ := hrel
    clear HI0
    by_cases hkn : k < n
    · obtain ⟨b, off, kd, at_, row, rfl, c0, c1, c2, hd⟩ := HDO.out c hb 3 _ k wr hn1 (by omega) HI.out hkn
      have HD := Lib.hid hd
      have f2 : (k : Int) < (n : Int) := by omega
      clear hd HI HDO
      go_wp2_with fail
      refine HD.out.mono ?_
      rintro e w3 ⟨v', rfl, HI2⟩
      clear HD c0 c1 c2
      go_wp2
      go_roundw
      case rel => exact ⟨k + 1, by omega, by go_num, HI2⟩
      case measure => simp [intOf]; omega
    · have f2 : ¬ (k : Int) < (n : Int) := by omega
      clear HDO
      go_wp2_with fail
      refine (HI.out.told (by omega) (by omega)).mono ?_
      rintro e w3 ⟨rfl, HB3⟩
      have HAW := Lib.hid (awake_any w3 (HT.out.below HB3.out HT.out.1))
      clear HI
      go_wp2_with fail
      refine HAW.out.mono ?_
      rintro e w4 ⟨rfl, hb4⟩
      have HE := Lib.hid (HB3.out.trans (hb4.mono HB3.out.size))
      clear HAW hb4
      go_wp2
      go_ret
      exact ⟨rfl, HE.out⟩
end Go.Proofs.YtjhdfpchoepkaaaGreatDoor

/- The walk of HeapWhole. -/
set_option maxRecDepth 100000
namespace Go.Proofs.YtjhdfpchoepkaaaGreatDoor
open Go Go.RowKit

theorem WhI.pg {w wr : World} {pv fv : Value} {P F : List Nat} (x : WhI w pv P fv F wr) {A : Option Addr} {n cc : Nat} (hv : pv = .slice A n cc) {j : Nat} (hj : j < n) : ∃ g, ∃ q : Nat, A = some ⟨g, 0, none⟩ ∧ P[j]? = some q ∧ wr.cell? ⟨g, j, none⟩ = some (.int .i64 (q : Int)) := (x.2.1.all hv).2 j hj
theorem WhI.fr {w wr : World} {pv fv : Value} {P F : List Nat} (x : WhI w pv P fv F wr) {A : Option Addr} {n cc : Nat} (hv : fv = .slice A n cc) {j : Nat} (hj : j < n) : ∃ g, ∃ q : Nat, A = some ⟨g, 0, none⟩ ∧ F[j]? = some q ∧ wr.cell? ⟨g, j, none⟩ = some (.int .i64 (q : Int)) := (x.2.2.all hv).2 j hj

set_option maxHeartbeats 3200000 in
theorem heapWhole_walk (a : Option Addr) (xs : List It) (lc : Nat) (w : World) (hT : Tab w) (hS : Sl w a xs) (hF : ∀ x ∈ xs, x.Fits) :
    Calls Tryz.prog 6 #[.slice a xs.length lc] w fun e w' => e = .returned (.bool true) ∧ Below w.heap.size w w' := by
  have HT := Lib.hid hT
  have HBG := Lib.hid (begun_ok0 w hT)
  have HDO : Hid (∀ c hb r v k wr, xs.length ≤ 1000 → r < 16 → PlyI c hb r w v k wr → k < xs.length → ∃ (b off : Nat) (kd at_ : Int) (row : ByteArray), a = some ⟨b, off, none⟩ ∧ wr.cell? ⟨b, off + k * 3, none⟩ = some (.int .i64 kd) ∧ wr.cell? ⟨b, off + k * 3 + 1, none⟩ = some (.int .i64 at_) ∧ wr.cell? ⟨b, off + k * 3 + 2, none⟩ = some (.string row) ∧
      Calls Tryz.prog 29 #[.pointer (some ⟨hb, 0, none⟩), v, .agg #[.int .i64 kd, .int .i64 at_, .string row]] wr fun e w2 => ∃ v', e = .returned (.tuple #[v', .bool true]) ∧ Hid (PlyI c hb r w v' (k + 1) w2)) := Lib.hid fun c hb r v k wr hn hr I hk => I.does hr hS hF hn hk
  obtain ⟨n, hn⟩ : ∃ n, n = xs.length := ⟨_, rfl⟩
  rw [← hn] at HDO ⊢
  clear hS hF hT hn
  go_enter Tryz.func6, Tryz.ntmps6
  go_wp2_with fail
  refine HBG.out.mono ?_
  rintro e w1 ⟨c, S, rfl, hf, hb1, _, hN⟩
  have HF := Lib.hid hf
  have HB1 := Lib.hid hb1
  have HCN := Lib.hid (And.intro hf.2 hN)
  clear HBG hf hb1 hN
  by_cases hn1 : n ≤ 800
  case neg =>
    have f1 : (800 : Int) < (n : Int) := by omega
    have HAW := Lib.hid (awake_any w1 (HT.out.below HB1.out HT.out.1))
    go_wp2_with fail
    refine HAW.out.mono ?_
    rintro e w2 ⟨rfl, hb⟩
    have HE := Lib.hid (HB1.out.trans (hb.mono HB1.out.size))
    clear HAW hb
    go_wp2
    go_ret
    exact ⟨rfl, HE.out⟩
  have f1 : ¬ (800 : Int) < (n : Int) := by omega
  go_wp2_with fail
  refine (hl_new HF.out 2 (by omega)).mono ?_
  rintro e w2 ⟨hb, rfl, h2, -, hb2⟩
  have HI0 : Hid (PlyI c hb 2 w (.slice none 0 0) 0 w2) := Lib.hid ⟨S, [], 0, ⟨h2, RwV.nil_ _, fun g hg => by simp [Value.ownBlock] at hg, Nat.le_refl _⟩, Nat.le_refl _, HB1.out.trans (hb2.mono HB1.out.size)⟩
  clear h2 hb2 HF HB1
  go_wp2
  go_loopw [9, 10] (fun v i wr => ∃ k : Nat, k ≤ n ∧ i = .int .i64 k ∧ Hid (PlyI c hb 2 w v k wr)) (fun _ i _ => n - (intOf i).toNat)
  case atStart => exact ⟨0, by omega, rfl, HI0⟩
  case round =>
    obtain ⟨k, hk, rfl, HI⟩ := hrel
    clear HI0
    by_cases hkn : k < n
    · obtain ⟨b, off, kd, at_, row, rfl, c0, c1, c2, hd⟩ := HDO.out c hb 2 _ k wr (by omega) (by omega) HI.out hkn
      have HD := Lib.hid hd
      have f2 : (k : Int) < (n : Int) := by omega
      clear hd HI HDO
      go_wp2_with fail
      refine HD.out.mono ?_
      rintro e w3 ⟨v', rfl, HI2⟩
      clear HD c0 c1 c2
      go_wp2
      go_roundw
      case rel => exact ⟨k + 1, by omega, by go_num, HI2⟩
      case measure => simp [intOf]; omega
    · have f2 : ¬ (k : Int) < (n : Int) := by omega
      obtain ⟨S2, l2, m2, q1, q2, q3⟩ := HI.out
      have HTL := Lib.hid (whole_tail q1.heap (by omega) HCN.out.1 HCN.out.2 q3)
      clear HDO HI q1 q2 q3
      go_wp2_with fail
      refine HTL.out.mono ?_
      rintro e w3 ⟨P, ap, cp, rfl, hpl, HCM⟩
      clear HTL
      go_wp2_with fail
      refine HCM.out.mono ?_
      rintro e w4 ⟨rfl, HSP⟩
      clear HCM
      go_wp2_with fail
      refine HSP.out.mono ?_
      rintro e w5 ⟨F, af, cf, rfl, hfl, HW, HNO⟩
      clear HSP
      have HNE : Hid (∀ i j x y, F[i]? = some x → P[j]? = some y → x ≠ y) := Lib.hid fun i j x y hx hy e => HNO.out x (List.mem_of_getElem? hx) (e ▸ List.mem_of_getElem? hy)
      obtain ⟨np, hnp⟩ : ∃ np, np = P.length := ⟨_, rfl⟩
      obtain ⟨nf, hnf⟩ : ∃ nf, nf = F.length := ⟨_, rfl⟩
      rw [← hnp] at hpl
      rw [← hnf] at hfl
      rw [← hnp, ← hnf] at HW ⊢
      clear hnp hnf HNO
      go_wp2
      go_loopw [14] (fun i wr => ∃ j : Nat, j ≤ nf ∧ i = .int .i64 j ∧ Hid (WhI w (.slice ap np cp) P (.slice af nf cf) F wr)) (fun i _ => nf - (intOf i).toNat)
      case atStart => exact ⟨0, by omega, rfl, HW⟩
      case round =>
        obtain ⟨j, hj, rfl, HW2⟩ := hrel
        clear HW
        by_cases hjn : j < nf
        · have f3 : (j : Int) < (nf : Int) := by omega
          go_wp2
          go_loopw [15] (fun i wr => ∃ q : Nat, q ≤ np ∧ i = .int .i64 q ∧ Hid (WhI w (.slice ap np cp) P (.slice af nf cf) F wr)) (fun i _ => np - (intOf i).toNat)
          case atStart => exact ⟨0, by omega, rfl, HW2⟩
          case round =>
            obtain ⟨q, hq, rfl, HW3⟩ := hrel
            clear HW2
            by_cases hqn : q < np
            · obtain ⟨g, x, rfl, hx, c1⟩ := WhI.fr HW3.out rfl hjn
              obtain ⟨g2, y, rfl, hy, c2⟩ := WhI.pg HW3.out rfl hqn
              have hxy := HNE.out j q x y hx hy
              have x1 : ((x : Int) == (y : Int)) = false := by simpa using (by omega : ¬ (x : Int) = (y : Int))
              have x2 : ¬ (x : Int) = (y : Int) := by omega
              have f4 : (q : Int) < (np : Int) := by omega
              clear hx hy hxy HNE
              go_upto_region 24 with fail
              go_quiet (fail)
              obtain ⟨W4, hW4, hb4⟩ := drawn7 wr nq
              rw [← hW4]
              have HW4 := Lib.hid (HW3.out.below hb4)
              clear hW4 hb4 HW3 c1 c2
              go_wp2
              go_roundw
              case rel => exact ⟨q + 1, by omega, by go_num, HW4⟩
              case measure => simp [intOf]; omega
            · have f4 : ¬ (q : Int) < (np : Int) := by omega
              clear HNE
              go_wp2
              go_roundw
              case rel => exact ⟨j + 1, by omega, by go_num, HW3⟩
              case measure => simp [intOf]; omega
        · have f3 : ¬ (j : Int) < (nf : Int) := by omega
          have HB := Lib.hid HW2.out.1
          have HAW := Lib.hid (awake_any wr (HT.out.below HB.out HT.out.1))
          clear HNE HW2
          go_wp2_with fail
          refine HAW.out.mono ?_
          rintro e w6 ⟨rfl, hb6⟩
          have HE := Lib.hid (HB.out.trans (hb6.mono HB.out.size))
          clear HAW hb6
          go_wp2
          go_ret
          exact ⟨rfl, HE.out⟩
end Go.Proofs.YtjhdfpchoepkaaaGreatDoor

set_option maxRecDepth 100000
namespace Go.Proofs.YtjhdfpchoepkaaaGreatDoor
open Go Go.ChangeShapes Go.WideShapes Go.ChangeAt Go.RowKit

theorem heapWhole_met (os : Os) (args : Array Value) : laidMetH Tryz.prog listed ((World.doorLaid Tryz.prog 4000 os).forCall (fun _ _ => 0) ⟨#[], args, []⟩).memory :=
  laidMetH_of_parts3 (fuel := 8) (laidMet_of_run' 8 (by kernel_rfl) (by kernel_rfl)) (by kernel_rfl) (by kernel_rfl)

set_option maxHeartbeats 1600000 in
theorem heapWhole_lifted (os : Os) (started : os.Started) (H : Type) (enc : TypeId × Value → H) :
    ReturnsInHanded {} Tryz.checked os 6 .any (fun w args => (Rows.heapWholeSpec.pre enc Tryz.prog Tryz.f6 [] false w args ∧ laidMetH Tryz.prog listed w) ∧ sizedMet enc Tryz.prog Tryz.f6 (OpenSpec.ofChange Rows.heapWholeSpec) false w args)
      (Rows.heapWholeSpec.post enc Tryz.prog Tryz.f6 false true false false) := by
  refine returnsInHanded_of_change_and (C := Tryz.checked) (X := fun w _ => laidMetH Tryz.prog listed w) (fun _ _ _ hh h => h.of_heap hh) ownS started (by kernel_rfl) Tryz.func6
    (ChangeSpec.witness_shaped (enc := enc) (C := Tryz.checked) (os := os) (X := fun w _ => laidMetH Tryz.prog listed w) false (World.doorLaid Tryz.prog 4000 os) #[.slice none 0 0] 8 rfl (World.shaped_of_RefB (by kernel_rfl) (by kernel_rfl)) (by kernel_rfl) (by kernel_rfl) (by kernel_rfl) (heapWhole_met os _)) ?_
  intro W base args ds gs before hval0 hW _ hsz0 hL _
  have hval : ∀ (j : Nat) t v, Tryz.f6.params[j]? = some t → args[j]? = some v → Value.okWide Tryz.prog W .any base t v := hval0
  have hsz : (DataW.weightsEach Tryz.prog (Tryz.f6.params.toList ++ Rows.heapWholeSpec.plain.varTypes Tryz.prog) (ds ++ gs)).all (· ≤ reachBytes) = true := hsz0
  have hW' := hW
  obtain ⟨p, q, hA0, hV, rfl, hfz, hnd⟩ := hW
  have hA : DataW.TrodAll enc Tryz.prog W 0 (fun _ => true) true Tryz.f6.params.toList args.toList ds p := hA0
  rw [Tryz.params6] at hA hval hsz
  obtain ⟨v0, d0, rfl, rfl, h0⟩ := trodAll_one hA
  obtain ⟨rfl, rfl⟩ := trodVars_none hV
  obtain ⟨a1, xs1, lc1, rfl, hS1, hF1⟩ := open_ops7 (hval 0 67 v0 rfl rfl) h0
  clear hA0 hval0 hsz0
  simp only [List.append_nil] at hW'
  have hlt1 : ∀ x ∈ p, x.block < W.heap.size := fun x hx => hW'.lt x (by simp [hx])
  refine (heapWhole_walk a1 xs1 lc1 W (laid_of hL) hS1 hF1).mono fun e W' ⟨he, hb⟩ => ?_
  subst he
  refine ⟨_, rfl, _, _, _, [], p, [], hW', ?_, ?_, ?_, hb.frame _, fun h => by cases h⟩
  · exact trodAll_mk1 (shut_bool Tryz.underlying4 _)
  · exact trodAll_mk1 (Below.trod laidOut readRecOps (of_decide_eq_true (by kernel_rfl)) h0 hb hlt1)
  · rfl

theorem heapWhole_said : Rows.HeapWholeSaid :=
  OpenClaim.holds_of_wide 6 Tryz.f6 rfl rfl rfl rfl rfl rfl rfl ⟨rfl, rfl, rfl, rfl, rfl⟩ rfl rfl rfl rfl rfl (by kernel_rfl) Tryz.func6 (by kernel_rfl)
    (of_decide_eq_true (by kernel_rfl)) (by unfold Func.isWrapper; rw [if_neg (of_decide_eq_false (by kernel_rfl))]; exact ⟨rfl, rfl⟩)
    (fun os started H enc _ => heapWhole_lifted os started H enc)

theorem heapWhole_holds : Rows.HeapWholeCardSaid :=
  Claim7.holds_tied_plain_at .later [] [.data] true (true, "63e338a3631e277fdbf87d39920ea12ee42c98963aada10cc5d66bf97678c9b1") false
    heapWhole_said (fun _ h => by cases h) (by kernel_rfl) (fun _ h => by cases h) heapWhole_row_tie rfl ⟨rfl, rfl⟩ (by kernel_rfl) rfl
    (fun f fn hf hfn => by
      obtain rfl : f = 6 := Option.some.inj ((show Tryz.prog.funcNamed "vestibule/vestibulelaw07.HeapWhole" = some 6 by kernel_rfl).symm.trans hf) |>.symm
      obtain rfl : fn = Tryz.f6 := (Option.some.inj (Tryz.func6.symm.trans hfn)).symm
      exact ⟨by kernel_rfl, fun j t ht => by
        rw [Tryz.params6] at ht
        have hm : t ∈ [67] := List.mem_of_getElem? (by simpa using ht)
        have hall : ∀ t ∈ [67], Tryz.prog.wantsStandIn t = false := by
          intro t ht
          simp only [List.mem_cons, List.not_mem_nil, or_false] at ht
          rcases ht with rfl <;> kernel_rfl
        exact hall t hm⟩)
    (by kernel_rfl)
#print axioms heapWhole_holds
end Go.Proofs.YtjhdfpchoepkaaaGreatDoor
