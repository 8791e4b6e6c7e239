/- Texts of the same proof, one behind the other: DS, DU. -/
import Derived.Test.YtefddiikdamnbaaGreatDoorMBC
import Derived.Test.YtefddiikdamnbaaGreatDoorMBB
/- Entries in order, in plain words: lists that rise, and are one where they hold the same. No program's function is met here. -/
set_option maxRecDepth 100000
namespace Go.Proofs.YtefddiikdamnbaaGreatDoor.Dm
open Go Go.RowKit

/-- An entry whose key may be, its numbers ints. -/
def FitE (c : Et) : Prop := c.1.ok = true ∧ c.1.nums
theorem ahead_iff {a b : Et} : aheadE a b = true ↔ lt a.1.kb b.1.kb ∨ a.1.kb = b.1.kb ∧ a.2 < b.2 := by
  unfold aheadE lt
  simp
theorem ahead_tri {a b : Et} (ha : FitE a) (hb : FitE b) : aheadE a b = true ∨ a = b ∨ aheadE b a = true := by
  rcases lt_tri a.1.kb b.1.kb with h | h | h
  · exact .inl (ahead_iff.2 (.inl h))
  · have e := kb_inj ha.1 hb.1 ha.2 hb.2 h
    rcases (by omega : a.2 < b.2 ∨ a.2 = b.2 ∨ b.2 < a.2) with k | k | k
    · exact .inl (ahead_iff.2 (.inr ⟨h, k⟩))
    · exact .inr (.inl (Prod.ext e k))
    · exact .inr (.inr (ahead_iff.2 (.inr ⟨h.symm, k⟩)))
  · exact .inr (.inr (ahead_iff.2 (.inl h)))

/-- Entries in order, each once. -/
def RiseE (l : List Et) : Prop := l.Pairwise fun a b => aheadE a b = true
/-- A method's entries: they rise, each may be. -/
structure Goods (kinds : List Int) (l : List Et) : Prop where
  rise : RiseE l
  fit : ∀ x, x ∈ l → FitE x
  may : ∀ x, x ∈ l → refusedE kinds x = 0
theorem In_nums {w : World} {e : En} (h : e.In w) : e.d.nums := ⟨h.n, fun c hc => by
  obtain ⟨x, hx, rfl⟩ := List.mem_map.1 hc
  exact h.ns x hx⟩

/-- Entries put one behind the other. -/
def putsE (kinds : List Int) (cs : List Et) : List Et := cs.foldl (insL kinds) []
end Go.Proofs.YtefddiikdamnbaaGreatDoor.Dm

/- The book's Nobody: a method that nobody made answers nothing. -/
set_option maxRecDepth 100000
namespace Go.Proofs.YtefddiikdamnbaaGreatDoor.Dm
open Go Go.RowKit

/-- What nobody made, behind an interface: each call answers nothing and leaves all that was there. -/
structure NobM (T : TypeId) (p : Value) (nI nD nF nE nP nC nX : FuncId) : Prop where
  m : ∀ W, (method 419 T p "Insert").run Tryz.prog W = .ok (nI, p) W ∧ (method 419 T p "Delete").run Tryz.prog W = .ok (nD, p) W ∧ (method 419 T p "Find").run Tryz.prog W = .ok (nF, p) W ∧ (method 419 T p "Entries").run Tryz.prog W = .ok (nE, p) W ∧ (method 419 T p "Pages").run Tryz.prog W = .ok (nP, p) W ∧ (method 419 T p "Check").run Tryz.prog W = .ok (nC, p) W ∧ (method 419 T p "Drop").run Tryz.prog W = .ok (nX, p) W
  a : ∀ W, (nilAhead 419 T p "Insert").run Tryz.prog W = .ok (some false) W ∧ (nilAhead 419 T p "Delete").run Tryz.prog W = .ok (some false) W ∧ (nilAhead 419 T p "Find").run Tryz.prog W = .ok (some false) W ∧ (nilAhead 419 T p "Entries").run Tryz.prog W = .ok (some false) W ∧ (nilAhead 419 T p "Pages").run Tryz.prog W = .ok (some false) W ∧ (nilAhead 419 T p "Check").run Tryz.prog W = .ok (some false) W ∧ (nilAhead 419 T p "Drop").run Tryz.prog W = .ok (some false) W
  e : ∀ args W, (callFunc nI args).run Tryz.prog W = .ok (.enter nI args) W ∧ (callFunc nD args).run Tryz.prog W = .ok (.enter nD args) W ∧ (callFunc nF args).run Tryz.prog W = .ok (.enter nF args) W ∧ (callFunc nE args).run Tryz.prog W = .ok (.enter nE args) W ∧ (callFunc nP args).run Tryz.prog W = .ok (.enter nP args) W ∧ (callFunc nC args).run Tryz.prog W = .ok (.enter nC args) W ∧ (callFunc nX args).run Tryz.prog W = .ok (.enter nX args) W
def NobAns (n : FuncId) (args : Array Value) (B : Nat) (w : World) (v : Value) : Prop :=
  ∀ W, Below B w W → Calls Tryz.prog n args W fun r w' => r = .returned v ∧ Below W.heap.size W w'

set_option maxHeartbeats 3200000 in
theorem nobody_any {T : TypeId} {p : Value} {nI nD nF nE nP nC nX : FuncId} (M : NobM T p nI nD nF nE nP nC nX) (k n : Int) (s : ByteArray) (ea : Option Addr) (xl lc : Nat) (t : Int) (w : World)
    (fF : NobAns nF #[p, .agg #[.int .i64 k, .int .i64 n, .string s, .slice ea xl lc]] w.heap.size w (.tuple #[.slice none 0 0, .int .i64 1]))
    (fI : NobAns nI #[p, .agg #[.int .i64 k, .int .i64 n, .string s, .slice ea xl lc, .int .i64 t]] w.heap.size w (.int .i64 1))
    (fD : NobAns nD #[p, .agg #[.int .i64 k, .int .i64 n, .string s, .slice ea xl lc, .int .i64 t]] w.heap.size w (.int .i64 1))
    (fE : NobAns nE #[p] w.heap.size w (.slice none 0 0)) (fP : NobAns nP #[p] w.heap.size w (.slice none 0 0)) (fC : NobAns nC #[p] w.heap.size w (.bool false)) (fX : NobAns nX #[p] w.heap.size w (.int .i64 1)) :
    Calls Tryz.prog 44 #[.iface T p, .agg #[.int .i64 k, .int .i64 n, .string s, .slice ea xl lc, .int .i64 t]] w fun r w' => r = .returned (.bool true) ∧ Below w.heap.size w w' := by
  have m1 := fun W => (M.m W).1
  have m2 := fun W => (M.m W).2.1
  have m3 := fun W => (M.m W).2.2.1
  have m4 := fun W => (M.m W).2.2.2.1
  have m5 := fun W => (M.m W).2.2.2.2.1
  have m6 := fun W => (M.m W).2.2.2.2.2.1
  have m7 := fun W => (M.m W).2.2.2.2.2.2
  have a1 := fun W => (M.a W).1
  have a2 := fun W => (M.a W).2.1
  have a3 := fun W => (M.a W).2.2.1
  have a4 := fun W => (M.a W).2.2.2.1
  have a5 := fun W => (M.a W).2.2.2.2.1
  have a6 := fun W => (M.a W).2.2.2.2.2.1
  have a7 := fun W => (M.a W).2.2.2.2.2.2
  have e1 := fun args W => (M.e args W).1
  have e2 := fun args W => (M.e args W).2.1
  have e3 := fun args W => (M.e args W).2.2.1
  have e4 := fun args W => (M.e args W).2.2.2.1
  have e5 := fun args W => (M.e args W).2.2.2.2.1
  have e6 := fun args W => (M.e args W).2.2.2.2.2.1
  have e7 := fun args W => (M.e args W).2.2.2.2.2.2
  have FF := Lib.hid fF; have FI := Lib.hid fI; have FD := Lib.hid fD; have FE := Lib.hid fE; have FP := Lib.hid fP; have FC := Lib.hid fC; have FX := Lib.hid fX
  clear M fF fI fD fE fP fC fX
  obtain ⟨W0, hW0⟩ : ∃ W0, W0 = w.alloc (.cells #[.int .i64 k, .int .i64 n, .string s, .slice ea xl lc, .int .i64 t] 84) := ⟨_, rfl⟩
  have hb0 : Below w.heap.size w W0 := by rw [hW0]; exact (Below.refl _ _).alloc (Nat.le_refl _) _
  have HBX : Hid (∀ W, Below (w.heap.size + 1) W0 W → W.cell? ⟨w.heap.size, 0, none⟩ = some (.int .i64 k) ∧ W.cell? ⟨w.heap.size, 1, none⟩ = some (.int .i64 n) ∧ W.cell? ⟨w.heap.size, 2, none⟩ = some (.string s) ∧ W.cell? ⟨w.heap.size, 3, none⟩ = some (.slice ea xl lc) ∧ W.cell? ⟨w.heap.size, 4, none⟩ = some (.int .i64 t)) := Lib.hid (fun W hb => box5 (by rw [hW0] at hb; exact hb))
  have hsz : W0.heap.size = w.heap.size + 1 := by rw [hW0]; simp
  obtain ⟨c0, c1, c2, c3, c4⟩ := HBX.out W0 (Below.refl _ _)
  have HW0 := Lib.hid hW0; have HB0 := Lib.hid hb0; have HSZ := Lib.hid hsz
  clear hW0 hb0 hsz
  go_enter Tryz.func44, Tryz.ntmps44
  go_wp2_with fail
  rw [← HW0.out]
  go_wp2_with fail
  refine (FF.out _ HB0.out).mono ?_
  rintro e w1 ⟨rfl, hb1⟩
  have k1 : Hid (Below (w.heap.size + 1) W0 w1) := Lib.hid (by rw [← HSZ.out]; exact hb1)
  have H1 : Hid (Below w.heap.size w w1) := Lib.hid (HB0.out.trans (hb1.mono HB0.out.size))
  obtain ⟨c0, c1, c2, c3, c4⟩ := HBX.out w1 k1.out
  clear hb1
  go_wp2_with fail
  refine (FI.out _ H1.out).mono ?_
  rintro e w2 ⟨rfl, hb2⟩
  have k2 : Hid (Below (w.heap.size + 1) W0 w2) := Lib.hid (k1.out.trans (hb2.mono (by have := k1.out.size; have := HSZ.out; omega)))
  have H2 : Hid (Below w.heap.size w w2) := Lib.hid (H1.out.trans (hb2.mono H1.out.size))
  obtain ⟨c0, c1, c2, c3, c4⟩ := HBX.out w2 k2.out
  clear hb2
  go_wp2_with fail
  refine (FD.out _ H2.out).mono ?_
  rintro e w3 ⟨rfl, hb3⟩
  have H3 : Hid (Below w.heap.size w w3) := Lib.hid (H2.out.trans (hb3.mono H2.out.size))
  clear hb3
  go_wp2_with fail
  refine (FE.out _ H3.out).mono ?_
  rintro e w4 ⟨rfl, hb4⟩
  have H4 : Hid (Below w.heap.size w w4) := Lib.hid (H3.out.trans (hb4.mono H3.out.size))
  clear hb4
  go_wp2_with fail
  refine (FP.out _ H4.out).mono ?_
  rintro e w5 ⟨rfl, hb5⟩
  have H5 : Hid (Below w.heap.size w w5) := Lib.hid (H4.out.trans (hb5.mono H4.out.size))
  clear hb5
  go_wp2_with fail
  refine (FC.out _ H5.out).mono ?_
  rintro e w6 ⟨rfl, hb6⟩
  have H6 : Hid (Below w.heap.size w w6) := Lib.hid (H5.out.trans (hb6.mono H5.out.size))
  clear hb6
  go_wp2_with fail
  refine (FX.out _ H6.out).mono ?_
  rintro e w7 ⟨rfl, hb7⟩
  have H7 : Hid (Below w.heap.size w w7) := Lib.hid (H6.out.trans (hb7.mono H6.out.size))
  clear hb7
  go_wp2
  go_ret
  exact ⟨rfl, H7.out⟩
end Go.Proofs.YtefddiikdamnbaaGreatDoor.Dm
