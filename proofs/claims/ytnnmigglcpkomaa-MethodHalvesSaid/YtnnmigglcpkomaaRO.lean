/- from: what it hands over, and that it goes along the rack; whether NewPlain gave a method; a key as it is held. -/
import Derived.Test.YtnnmigglcpkomaaRN
import Derived.Test.YtnnmigglcpkomaaED
import Derived.Test.YtnnmigglcpkomaaDG
set_option maxRecDepth 100000
namespace Go.Proofs.Ytnnmigglcpkomaa.Dm
open Go Go.RowKit Go.Shelf
attribute [local go_sem] Oper.semAt_some

set_option maxHeartbeats 400000 in
theorem from_any (P : Nat) (x : Hd) (w : World) : Calls Try.prog 28 #[.pointer (some ⟨P, 1, none⟩), hdV x] w fun e w' => e = .returned (.func (.func 47) #[] #[.pointer (some ⟨w.heap.size, 0, none⟩), .pointer (some ⟨w.heap.size + 1, 0, none⟩)]) ∧
    w' = (w.alloc (.cells #[.pointer (some ⟨P, 1, none⟩)] 99)).alloc (.cells #[.string x.1, .int .i64 x.2] 80) := by
  obtain ⟨xk, xt⟩ := x
  unfold hdV
  go_enter Try.func28, Try.ntmps28
  go_wp2
  go_ret
  exact ⟨rfl, rfl⟩

theorem from_stops (n : Nat) (hn : 1 ≤ n) (P rb hb : Nat) (v : Value) (ss : List Sh) (x : Hd) (w : World) (all : List Hd) (hR : RackAt w P v ss) (hs : SrtH (Sh.lists ss).flatten) (hlen : (Sh.lists ss).flatten.length < 2199023255552)
    (hall : ∀ i at' th, Seek (Sh.lists ss) x i at' th → ((Sh.lists ss).getD i []).drop at' ++ ((Sh.lists ss).drop (i + 1)).flatten = all)
    (K : Nat → Prop) (hK : ∀ k, bl P v ss k → K k) (hKr : K rb) (hKh : K hb) (hKw : ∀ k, K k → k < w.heap.size)
    (hr0 : w.cell? ⟨rb, 0, none⟩ = some (.pointer (some ⟨P, 1, none⟩))) (hh0 : w.cell? ⟨hb, 0, none⟩ = some (.string x.1)) (hh1 : w.cell? ⟨hb, 1, none⟩ = some (.int .i64 x.2)) :
    SeqStopsK Fence.wide n Try.prog 47 #[.pointer (some ⟨rb, 0, none⟩), .pointer (some ⟨hb, 0, none⟩)] (fun y : Hd => #[hdV y]) (KpB K) (fun xs => xs = all) (fun pre => pre <+: all) all.length w := fun l J Jx W hW hJ _ hY h0 =>
  from1_in n hn l P rb hb v ss x w all hR hs hlen hall K hK hKr hKh hKw hr0 hh0 hh1 J Jx W hW hJ hY h0

/-- Which entries do not stand ahead of x. -/
theorem seek_rest {L : List (List Hd)} {x : Hd} {i at' : Nat} {th : Bool} (h : Seek L x i at' th) (hs : SrtH L.flatten) : (L.getD i []).drop at' ++ (L.drop (i + 1)).flatten = L.flatten.filter fun y => decide (¬ cmpH y x < 0) := by
  rw [h.split, List.filter_append]
  have h1 : ((L.take i).flatten ++ (L.getD i []).take at').filter (fun y => decide (¬ cmpH y x < 0)) = [] := by
    rw [List.filter_eq_nil_iff]
    intro a ha
    have := h.low a ha
    simp only [decide_eq_true_eq]
    omega
  have h2 : ((L.getD i []).drop at' ++ (L.drop (i + 1)).flatten).filter (fun y => decide (¬ cmpH y x < 0)) = (L.getD i []).drop at' ++ (L.drop (i + 1)).flatten := by
    rw [List.filter_eq_self]
    intro b hb
    simp only [decide_eq_true_eq]
    cases th with
    | false => have := h.high rfl b hb; omega
    | true =>
      obtain ⟨r, hr⟩ := h.hit rfl
      have hs2 := hs
      rw [h.split] at hs2
      have hB := (List.pairwise_append.1 hs2).2.1
      rw [hr, List.cons_append] at hB hb
      rcases List.mem_cons.1 hb with rfl | hb
      · rw [cmpH_self]; omega
      · have h3 := (List.pairwise_cons.1 hB).1 b hb
        have := cmpH_swap x b
        omega
  rw [h1, h2, List.nil_append]

/-- A method in hand: it was given by NewPlain, and its rack. -/
structure PlAt (w : World) (P : Nat) (v : Value) (ss : List Sh) : Prop where
  self : w.cell? ⟨P, 0, none⟩ = some (.pointer (some ⟨P, 0, none⟩))
  rack : RackAt w P v ss
  few : ∀ s, s ∈ ss → s.hs.length ≤ 512
theorem PlAt.below {w w' : World} {P : Nat} {v : Value} {ss : List Sh} (h : PlAt w P v ss) (hb : Below w.heap.size w w') : PlAt w' P v ss := ⟨(hb.cell (p := ⟨P, 0, none⟩) h.rack.lt).trans h.self, h.rack.below hb, h.few⟩

theorem sizePlain : (Try.prog.info? 65).map (·.size) = some 2 := by kernel_rfl

theorem eql_nil_pl (w : World) (a : Addr) : (binOp .eql 23 (.pointer none) (.pointer (some a))).run Try.prog w = .ok (.bool false) w := by
  have h : ∀ d : Nat, (Op.equalIn (d + 1) 23 (.pointer none) (.pointer (some a))).run Try.prog w = .ok false w := fun d => by
    simp [Op.equalIn, run_underlying Try.underlying23, sizeOf, typeInfo]
  simp only [binOp]
  simp [Op.equal, Op.maxDepth, h 9999]


set_option maxHeartbeats 400000 in
theorem given_yes (P : Nat) (w : World) (h : w.cell? ⟨P, 0, none⟩ = some (.pointer (some ⟨P, 0, none⟩))) : Calls Try.prog 27 #[.pointer (some ⟨P, 0, none⟩)] w fun e w' => e = .returned (.bool true) ∧ w' = w := by
  obtain ⟨j, hj, _⟩ := Option.map_eq_some_iff.1 sizePlain
  have hq := run_eql_ptr_same (P := Try.prog) w (tp := 23) (te := 65) ⟨P, 0, none⟩ Try.underlying23 hj
  go_enter Try.func27, Try.ntmps27
  go_wp2
  go_ret
  exact ⟨rfl, rfl⟩

set_option maxHeartbeats 400000 in
theorem given_nil (w : World) : Calls Try.prog 27 #[.pointer none] w fun e w' => e = .returned (.bool false) ∧ w' = w := by
  go_enter Try.func27, Try.ntmps27
  go_wp2
  go_ret
  exact ⟨rfl, rfl⟩

set_option maxHeartbeats 400000 in
theorem given_no (P : Nat) (w : World) (h : w.cell? ⟨P, 0, none⟩ = some (.pointer none)) : Calls Try.prog 27 #[.pointer (some ⟨P, 0, none⟩)] w fun e w' => e = .returned (.bool false) ∧ w' = w := by
  have hq := eql_nil_pl w ⟨P, 0, none⟩
  go_enter Try.func27, Try.ntmps27
  go_wp2
  go_ret
  exact ⟨rfl, rfl⟩

/-- A key's bytes as a text. -/
def keyS (k n : Int) (s : ByteArray) (xs : List It) : ByteArray := ⟨(datB k n s xs).toArray⟩

set_option maxHeartbeats 800000 in
theorem keyOf_ok (P : Nat) (k n : Int) (s : ByteArray) (a : Option Addr) (xs : List It) (lc : Nat) (w : World) (hP : w.cell? ⟨P, 0, none⟩ = some (.pointer (some ⟨P, 0, none⟩))) (hPl : P < w.heap.size) (hS : Sl w a xs) (h : dOk k n s xs = true) :
    Calls Try.prog 50 #[.pointer (some ⟨P, 0, none⟩), .agg #[.int .i64 k, .int .i64 n, .string s, .slice a xs.length lc]] w fun e w' => e = .returned (.tuple #[.string (keyS k n s xs), .int .i64 0]) ∧ Below w.heap.size w w' := by
  obtain ⟨W0, hW0⟩ : ∃ W0, W0 = w.alloc (.cells #[.int .i64 k, .int .i64 n, .string s, .slice a xs.length lc] 33) := ⟨_, rfl⟩
  have hB0 : Below w.heap.size w W0 := by rw [hW0]; exact (Below.refl _ _).alloc (Nat.le_refl _) _
  have HG := Lib.hid (given_yes P W0 ((hB0.cell (p := ⟨P, 0, none⟩) hPl).trans hP))
  have HBY : Hid (Calls Try.prog 52 #[.agg #[.int .i64 k, .int .i64 n, .string s, .slice a xs.length lc]] W0 fun e w' => e = .returned (.tuple #[.string (keyS k n s xs), .int .i64 0]) ∧ Below W0.heap.size W0 w') := Lib.hid (bytes_ok k n s a xs lc W0 (hS.below hB0 (Nat.le_refl _)) h)
  obtain ⟨ll, hll⟩ : ∃ ll, ll = xs.length := ⟨_, rfl⟩
  obtain ⟨ky, hky⟩ : ∃ ky, ky = keyS k n s xs := ⟨_, rfl⟩
  rw [← hky] at HBY ⊢
  rw [← hll] at HBY ⊢ hW0
  have HW := Lib.hid hB0
  have HW0 := Lib.hid hW0
  clear hS h hll hky hB0 hW0
  have e0 := HW0.out
  go_enter Try.func50, Try.ntmps50
  go_wp2_with fail
  rw [← e0]
  refine HG.out.mono ?_
  rintro e w' ⟨rfl, rfl⟩
  have hc : w'.cell? ⟨w.heap.size, 0, none⟩ = some (.int .i64 k) ∧ w'.cell? ⟨w.heap.size, 1, none⟩ = some (.int .i64 n) ∧ w'.cell? ⟨w.heap.size, 2, none⟩ = some (.string s) ∧ w'.cell? ⟨w.heap.size, 3, none⟩ = some (.slice a ll lc) := by rw [HW0.out]; simp
  obtain ⟨c0, c1, c2, c3⟩ := hc
  clear e0
  go_wp2_with fail
  refine HBY.out.mono ?_
  rintro e w2 ⟨rfl, hb2⟩
  have HB2 := Lib.hid hb2
  clear hb2
  go_wp2
  go_ret2
  exact ⟨rfl, HW.out.trans (HB2.out.mono HW.out.size)⟩

set_option maxHeartbeats 800000 in
theorem keyOf_bad (P : Nat) (k n : Int) (s : ByteArray) (a : Option Addr) (xs : List It) (lc : Nat) (w : World) (hP : w.cell? ⟨P, 0, none⟩ = some (.pointer (some ⟨P, 0, none⟩))) (hPl : P < w.heap.size) (hS : Sl w a xs) (h : dOk k n s xs = false) :
    Calls Try.prog 50 #[.pointer (some ⟨P, 0, none⟩), .agg #[.int .i64 k, .int .i64 n, .string s, .slice a xs.length lc]] w fun e w' => e = .returned (.tuple #[.string ⟨#[]⟩, .int .i64 1]) ∧ Below w.heap.size w w' := by
  obtain ⟨W0, hW0⟩ : ∃ W0, W0 = w.alloc (.cells #[.int .i64 k, .int .i64 n, .string s, .slice a xs.length lc] 33) := ⟨_, rfl⟩
  have hB0 : Below w.heap.size w W0 := by rw [hW0]; exact (Below.refl _ _).alloc (Nat.le_refl _) _
  have HG := Lib.hid (given_yes P W0 ((hB0.cell (p := ⟨P, 0, none⟩) hPl).trans hP))
  have HBY : Hid (Calls Try.prog 52 #[.agg #[.int .i64 k, .int .i64 n, .string s, .slice a xs.length lc]] W0 fun e w' => e = .returned (.tuple #[.string ⟨#[]⟩, .int .i64 11]) ∧ Below W0.heap.size W0 w') := Lib.hid (bytes_no k n s a xs lc W0 (hS.below hB0 (Nat.le_refl _)) h)
  obtain ⟨ll, hll⟩ : ∃ ll, ll = xs.length := ⟨_, rfl⟩
  rw [← hll] at HBY ⊢ hW0
  have HW := Lib.hid hB0
  have HW0 := Lib.hid hW0
  clear hS h hll hB0 hW0
  have e0 := HW0.out
  go_enter Try.func50, Try.ntmps50
  go_wp2_with fail
  rw [← e0]
  refine HG.out.mono ?_
  rintro e w' ⟨rfl, rfl⟩
  have hc : w'.cell? ⟨w.heap.size, 0, none⟩ = some (.int .i64 k) ∧ w'.cell? ⟨w.heap.size, 1, none⟩ = some (.int .i64 n) ∧ w'.cell? ⟨w.heap.size, 2, none⟩ = some (.string s) ∧ w'.cell? ⟨w.heap.size, 3, none⟩ = some (.slice a ll lc) := by rw [HW0.out]; simp
  obtain ⟨c0, c1, c2, c3⟩ := hc
  clear e0
  go_wp2_with fail
  refine HBY.out.mono ?_
  rintro e w2 ⟨rfl, hb2⟩
  have HB2 := Lib.hid hb2
  clear hb2
  go_wp2
  go_ret2
  exact ⟨rfl, HW.out.trans (HB2.out.mono HW.out.size)⟩
end Go.Proofs.Ytnnmigglcpkomaa.Dm
