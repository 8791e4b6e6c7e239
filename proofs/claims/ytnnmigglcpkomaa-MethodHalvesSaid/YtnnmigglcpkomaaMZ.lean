/- Texts of the same proof, one behind the other: MA, MB, MC, MD, ME, QE, MF, RU. -/
import Derived.RangeFuncOwn
import Derived.Test.YtnnmigglcpkomaaMY
import Derived.Test.YtnnmigglcpkomaaDJ
import Derived.RangeFuncNested
import Derived.RangeFuncBound
import Derived.RangeFuncCalls
import Derived.RangeFuncLeaves
import Derived.Shelf.Abstract
import Derived.OwnWalkIn
import Derived.TacticsInMore
import Derived.LoopNIn
import Derived.LoopIn
import Derived.Test.YtnnmigglcpkomaaRP
import Derived.RangeFuncWrites
import Derived.Maps.AppendAt
import Derived.Maps.OwnIn
import Derived.Shelf.RegionOpen
import Derived.Test.YtnnmigglcpkomaaMV
import Derived.Deep.DeepCutAuto
/- Entries in a row of their own, their items apart from it; an entry read out of its bytes, its items in new memory. -/
set_option maxRecDepth 100000
namespace Go.Proofs.Ytnnmigglcpkomaa.Dm
open Go Go.RowKit

theorem Sl.same {w w' : World} {a : Option Addr} {xs : List It} (h : Sl w a xs) (hsz : w.heap.size ≤ w'.heap.size)
    (hb : ∀ b off o, a = some ⟨b, off, none⟩ → xs ≠ [] → w.heap[b]? = some o → o.isCells = true → w'.heap[b]? = some o) : Sl w' a xs := by
  rcases h with h | ⟨b, off, ha, hlt, hc⟩
  · exact .inl h
  · by_cases hx : xs = []
    · exact .inl hx
    · obtain ⟨c0, _⟩ := hc 0 (List.length_pos_iff.2 hx)
      obtain ⟨o, ho, hoc⟩ := cells_of_cell c0
      have e : w'.heap[b]? = w.heap[b]? := (hb b off o ha hx ho hoc).trans ho.symm
      refine .inr ⟨b, off, ha, by omega, fun j hj => ?_⟩
      obtain ⟨h0, h1, h2, h3⟩ := hc j hj
      have hh : ∀ i, w'.cell? ⟨b, i, none⟩ = w.cell? ⟨b, i, none⟩ := fun i => World.cell?_of_block (w := w) e
      exact ⟨(hh _).trans h0, (hh _).trans h1, (hh _).trans h2, (hh _).trans h3⟩

/-- Entries in a row of their own from block N on, their items apart from it. -/
structure EnSt (N : Nat) (w : World) (v : Value) (es : List En) : Prop where
  row : Rows N w v es
  ins : ∀ e, e ∈ es → e.In w
  far : ∀ e, e ∈ es → e.xs = [] ∨ ∃ b off, e.a = some ⟨b, off, none⟩ ∧ N ≤ b ∧ v.ownBlock ≠ some b
theorem EnSt.nil (N : Nat) (w : World) : EnSt N w (.slice none 0 0) [] := ⟨World.ownsRow_nil _ _ _ _, fun e he => (by cases he), fun e he => (by cases he)⟩

theorem EnSt.kept {N : Nat} {w w' : World} {v : Value} {es : List En} {row : Option Nat} (h : EnSt N w v es) (hg : w.grownBy w' row) (hrow : ∀ r, row = some r → ∃ o : Obj, w.heap[r]? = some o ∧ o.isCells = false) : EnSt N w' v es := by
  have hk : ∀ (k : Nat) (o : Obj), w.heap[k]? = some o → o.isCells = true → w'.heap[k]? = some o := fun k o ho hc => (hg.block k (Array.getElem?_eq_some_iff.1 ho).1 (fun e => by
    obtain ⟨o2, h2, h3⟩ := hrow k e.symm
    rw [ho] at h2
    cases h2
    rw [hc] at h3
    cases h3)).trans ho
  refine ⟨ownsRow_of_block h.row (fun k hk2 => ?_), fun e he => ?_, h.far⟩
  · rcases h.row.2 with ⟨rfl, _⟩ | ⟨g, cap, cur, rfl, _, hgb, _⟩
    · cases hk2
    · cases hk2
      exact (hk _ _ hgb rfl).trans hgb.symm
  · have hi := h.ins e he
    exact ⟨hi.sl.same hg.size (fun b off o _ _ ho hc => hk b o ho hc), hi.n, hi.ns, hi.t⟩

theorem EnSt.set {N L : Nat} {w : World} {v : Value} {es : List En} (h : EnSt N w v es) (hL : L < N) (x : Value) : EnSt N (w.setCell ⟨L, 0, none⟩ x) v es := by
  refine ⟨ownsRow_of_block h.row (fun k hk => Below.heap_setCell _ _ _ _ (by have := (h.row.lt k hk).1; show k ≠ L; omega)), fun e he => ?_, h.far⟩
  have hi := h.ins e he
  refine ⟨hi.sl.same (by simp [World.setCell]) (fun b off o ha hx ho _ => ?_), hi.n, hi.ns, hi.t⟩
  rcases h.far e he with h0 | ⟨b', off', e1, e2, _⟩
  · exact absurd h0 hx
  · rw [ha] at e1
    cases e1
    exact (Below.heap_setCell _ _ _ _ (by show b ≠ L; omega)).trans ho

/-- One entry more: it was made behind all others, then put behind the row. -/
theorem EnSt.put {N : Nat} {w w1 w2 : World} {v v2 : Value} {es : List En} {e : En} {o : Obj} (h : EnSt N w v es) (hN : N ≤ w.heap.size) (hb : Below w.heap.size w w1) (hin : e.In w1) (hlo : e.xs = [] ∨ ∃ b off, e.a = some ⟨b, off, none⟩ ∧ w.heap.size ≤ b)
    (hr : Rows N w2 v2 (es ++ [e])) (hg : (w1.alloc o).grownBy w2 v.ownBlock) (hv : v2.ownBlock = v.ownBlock ∨ v2.ownBlock = some (w1.alloc o).heap.size) : EnSt N w2 v2 (es ++ [e]) := by
  have hvb : ∀ k, v.ownBlock = some k → k < w.heap.size := fun k hk => (h.row.lt k hk).2
  have hws := hb.size
  have hgs : w1.heap.size ≤ w2.heap.size := by have := hg.size; simp at this; omega
  have hkeep : ∀ (k : Nat) (ob : Obj), w1.heap[k]? = some ob → v.ownBlock ≠ some k → w2.heap[k]? = some ob := fun k ob hk hne => by
    have hlt := (Array.getElem?_eq_some_iff.1 hk).1
    rw [hg.block k (by simp; omega) (fun e => hne e.symm), Below.heap_alloc _ _ _ hlt]
    exact hk
  refine ⟨hr, fun x hx => ?_, fun x hx => ?_⟩
  · rcases List.mem_append.1 hx with hx | hx
    · have hi := h.ins x hx
      refine ⟨(hi.sl.below hb (Nat.le_refl _)).same hgs (fun b off ob ha hne hob _ => hkeep b ob hob ?_), hi.n, hi.ns, hi.t⟩
      rcases h.far x hx with h0 | ⟨b', off', e1, _, e3⟩
      · exact absurd h0 hne
      · rw [ha] at e1
        cases e1
        exact e3
    · rw [List.mem_singleton] at hx
      subst hx
      refine ⟨hin.sl.same hgs (fun b off ob ha hne hob _ => hkeep b ob hob (fun e2 => ?_)), hin.n, hin.ns, hin.t⟩
      rcases hlo with h0 | ⟨b', off', e1, e3⟩
      · exact absurd h0 hne
      · rw [ha] at e1
        cases e1
        have := hvb _ e2
        omega
  · rcases List.mem_append.1 hx with hx | hx
    · rcases h.far x hx with h0 | ⟨b, off, e1, e2, e3⟩
      · exact .inl h0
      · by_cases hxe : x.xs = []
        · exact .inl hxe
        · refine .inr ⟨b, off, e1, e2, ?_⟩
          rcases hv with hv | hv
          · rw [hv]; exact e3
          · rw [hv]
            intro e4
            rcases (h.ins x hx).sl with h5 | ⟨b', off', e5, h6, _⟩
            · exact hxe h5
            · rw [e1] at e5
              cases e5
              injection e4 with e4
              simp at e4
              omega
    · rw [List.mem_singleton] at hx
      subst hx
      rcases hlo with h0 | ⟨b, off, e1, e2⟩
      · exact .inl h0
      · by_cases hxe : x.xs = []
        · exact .inl hxe
        · refine .inr ⟨b, off, e1, by omega, ?_⟩
          rcases hv with hv | hv
          · rw [hv]
            intro e4
            have := hvb _ e4
            omega
          · rw [hv]
            intro e4
            rcases hin.sl with h5 | ⟨b', off', e5, h6, _⟩
            · exact hxe h5
            · rw [e1] at e5
              cases e5
              injection e4 with e4
              simp at e4
              omega

set_option maxHeartbeats 1600000 in
theorem entryOf_lo (c : Et) (w : World) (hf : FitE c) (ht : I64 c.2) :
    Calls Try.prog 29 #[hdV (hOf c)] w fun r w' => ∃ e : En, r = .returned e.v ∧ e.c = c ∧ e.In w' ∧ (e.xs = [] ∨ ∃ b off, e.a = some ⟨b, off, none⟩ ∧ w.heap.size ≤ b) ∧ Below w.heap.size w w' := by
  have hsz : (hOf c).1.size ≤ 140737488355328 := by
    have h1 : (datB c.1.1 c.1.2.1 c.1.2.2.1 (c.1.2.2.2.map icIt)).length ≤ 1000000 := datB_length _ _ _ _ hf.1
    show (c.1.kb.toArray).size ≤ _
    rw [List.size_toArray]
    have : c.1.kb = datB c.1.1 c.1.2.1 c.1.2.2.1 (c.1.2.2.2.map icIt) := rfl
    rw [this]
    omega
  have HOF : Hid (∀ W, Calls Try.prog 49 #[.string (hOf c).1] W fun r w' => ∃ (k n : Int) (t : ByteArray) (a : Option Addr) (xs : List It) (lc m : Nat), r = .returned (.tuple #[.agg #[.int .i64 k, .int .i64 n, .string t, .slice a xs.length lc], .int .i64 m, .int .i64 0]) ∧ Below W.heap.size W w' ∧
      Hid (((k, n, t, xs.map itC) : Dt) = c.1 ∧ I64 n ∧ Fre xs ∧ SlG W.heap.size w' a xs)) := Lib.hid (fun W => (of_any (hOf c).1 W hsz).mono (by
    rintro r w' ⟨hb, h⟩
    have hkb : (hOf c).1.data.toList = c.1.kb := rfl
    rw [hkb] at h
    rcases h with ⟨h1, _⟩ | ⟨k, n, t, a, xs, lc, m, h1, h2, h3, h4, _, h6⟩
    · exfalso
      have h7 := ofF_back c.1.1 c.1.2.1 c.1.2.2.1 (c.1.2.2.2.map icIt) [] hf.1 hf.2.1 (fun x hx => by obtain ⟨y, hy, rfl⟩ := List.mem_map.1 hx; exact hf.2.2 y hy)
      rw [List.append_nil] at h7
      have h8 : ofF (datB c.1.1 c.1.2.1 c.1.2.2.1 (c.1.2.2.2.map icIt)) = none := h1
      rw [h8] at h7
      cases h7
    · exact ⟨k, n, t, a, xs, lc, m, h2, hb, Lib.hid ⟨of_kb hf h1 h4, h3, h4, h6⟩⟩))
  obtain ⟨hk, hkk⟩ : ∃ hk, hk = (hOf c).1 := ⟨_, rfl⟩
  have e2 : (hOf c).2 = c.2 := rfl
  unfold hdV
  rw [e2]
  rw [← hkk] at HOF ⊢
  obtain ⟨tid, htid⟩ : ∃ tid, tid = c.2 := ⟨_, rfl⟩
  rw [← htid] at ht ⊢
  have HT := Lib.hid htid
  have HTT := Lib.hid ht
  clear hkk e2 hsz hf htid ht
  go_enter Try.func29, Try.ntmps29
  go_wp2_with fail
  refine (HOF.out _).mono ?_
  rintro r w1 ⟨k, n, t, a, xs, lc, m, rfl, hb1, HC⟩
  have HB : Hid (Below w.heap.size w w1) := Lib.hid (below_al2 _ _ hb1)
  have hsz1 : w.heap.size + 2 ≤ w1.heap.size := by have := hb1.size; simp at this; omega
  have hcs : ∀ b o, b < w.heap.size + 2 → w1.cell? ⟨b, o, none⟩ = ((w.alloc (.cells #[.string hk, .int .i64 tid] 80)).alloc (.cells #[.int .i64 0, .int .i64 0, .string ⟨#[]⟩, .slice none 0 0, .int .i64 0] 35)).cell? ⟨b, o, none⟩ := fun b o hb => hb1.cell (p := ⟨b, o, none⟩) (by simp; omega)
  have hfs : ∀ b o, b < w.heap.size + 2 → w1.frozen? ⟨b, o, none⟩ = ((w.alloc (.cells #[.string hk, .int .i64 tid] 80)).alloc (.cells #[.int .i64 0, .int .i64 0, .string ⟨#[]⟩, .slice none 0 0, .int .i64 0] 35)).frozen? ⟨b, o, none⟩ := fun b o hb => hb1.frozen (p := ⟨b, o, none⟩) (by simp; omega)
  have c1 : w1.cell? ⟨w.heap.size, 1, none⟩ = some (.int .i64 tid) := by rw [hcs _ _ (by omega)]; simp
  have d0 : w1.cell? ⟨w.heap.size + 1, 0, none⟩ = some (.int .i64 0) := by rw [hcs _ _ (by omega)]; simp
  have d1 : w1.cell? ⟨w.heap.size + 1, 1, none⟩ = some (.int .i64 0) := by rw [hcs _ _ (by omega)]; simp
  have d2 : w1.cell? ⟨w.heap.size + 1, 2, none⟩ = some (.string ⟨#[]⟩) := by rw [hcs _ _ (by omega)]; simp
  have d3 : w1.cell? ⟨w.heap.size + 1, 3, none⟩ = some (.slice none 0 0) := by rw [hcs _ _ (by omega)]; simp
  have d4 : w1.cell? ⟨w.heap.size + 1, 4, none⟩ = some (.int .i64 0) := by rw [hcs _ _ (by omega)]; simp
  have f0 : w1.frozen? ⟨w.heap.size + 1, 0, none⟩ = false := by rw [hfs _ _ (by omega)]; simp
  have f1 : w1.frozen? ⟨w.heap.size + 1, 1, none⟩ = false := by rw [hfs _ _ (by omega)]; simp
  have f2 : w1.frozen? ⟨w.heap.size + 1, 2, none⟩ = false := by rw [hfs _ _ (by omega)]; simp
  have f3 : w1.frozen? ⟨w.heap.size + 1, 3, none⟩ = false := by rw [hfs _ _ (by omega)]; simp
  have f4 : w1.frozen? ⟨w.heap.size + 1, 4, none⟩ = false := by rw [hfs _ _ (by omega)]; simp
  have hw1 : w.heap.size + 1 < w1.heap.size := by omega
  have hw0 : w.heap.size < w1.heap.size := by omega
  obtain ⟨ll, hll⟩ : ∃ ll, ll = xs.length := ⟨_, rfl⟩
  have HL := Lib.hid hll
  rw [← hll]
  clear hb1 hcs hfs hsz1 hll
  go_wp2
  refine bodyPost_ret (v := .agg #[.int .i64 k, .int .i64 n, .string t, .slice a ll lc, .int .i64 tid]) (by simp [results, Try.results29, go_sem, d0, d1, d2, d3, d4, hw1]) rfl ?_
  obtain ⟨hd, hn, hfr, hsl⟩ := HC.out
  rw [World.size_alloc, World.size_alloc] at hsl
  have hall : (w.heap.size + 1) < w.heap.size + 1 + 1 := by omega
  have s1 := ((((hsl.setCell (p := ⟨w.heap.size + 1, 0, none⟩) hall (.int .i64 k)).setCell (p := ⟨w.heap.size + 1, 1, none⟩) hall (.int .i64 n)).setCell (p := ⟨w.heap.size + 1, 2, none⟩) hall (.string t)).setCell (p := ⟨w.heap.size + 1, 3, none⟩) hall (.slice a ll lc)).setCell (p := ⟨w.heap.size + 1, 4, none⟩) hall (.int .i64 tid)
  have hle : w.heap.size ≤ w.heap.size + 1 := by omega
  have b1 := ((((HB.out.setCell (p := ⟨w.heap.size + 1, 0, none⟩) hle (.int .i64 k)).setCell (p := ⟨w.heap.size + 1, 1, none⟩) hle (.int .i64 n)).setCell (p := ⟨w.heap.size + 1, 2, none⟩) hle (.string t)).setCell (p := ⟨w.heap.size + 1, 3, none⟩) hle (.slice a ll lc)).setCell (p := ⟨w.heap.size + 1, 4, none⟩) hle (.int .i64 tid)
  refine ⟨⟨k, n, t, a, xs, lc, tid⟩, by unfold En.v; simp only []; rw [← HL.out], ?_, ⟨s1.sl.below ((Below.refl _ _).alloc (Nat.le_refl _) _) (Nat.le_refl _), hn, fun x hx => (hfr x hx).1, HTT.out⟩, ?_, b1.alloc b1.size _⟩
  · show ((k, n, t, xs.map itC), tid) = c
    rw [hd, HT.out]
  · rcases hsl with h | ⟨b, off, h1, h2, _⟩
    · exact .inl h
    · exact .inr ⟨b, off, h1, by omega⟩

end Go.Proofs.Ytnnmigglcpkomaa.Dm

/- What goes along a rack hands over just what is held there: each entry is one of the list. -/
set_option maxRecDepth 100000
namespace Go.Proofs.Ytnnmigglcpkomaa.Dm
open Go Go.RowKit Go.Shelf
attribute [local go_sem] Oper.semAt_some

set_option maxHeartbeats 3200000 in
theorem from1_mem (n : Nat) (hn : 1 ≤ n) (l P rb hb : Nat) (v : Value) (ss : List Sh) (x : Hd) (w : World) (all : List Hd) (hR : RackAt w P v ss) (hs : SrtH (Sh.lists ss).flatten) (hlen : (Sh.lists ss).flatten.length < 2199023255552)
    (hall : ∀ i at' th, Seek (Sh.lists ss) x i at' th → ((Sh.lists ss).getD i []).drop at' ++ ((Sh.lists ss).drop (i + 1)).flatten = all)
    (K : Nat → Prop) (hK : ∀ k, bl P v ss k → K k) (hKr : K rb) (hKh : K hb) (hKw : ∀ k, K k → k < w.heap.size)
    (hr0 : w.cell? ⟨rb, 0, none⟩ = some (.pointer (some ⟨P, 1, none⟩))) (hh0 : w.cell? ⟨hb, 0, none⟩ = some (.string x.1)) (hh1 : w.cell? ⟨hb, 1, none⟩ = some (.int .i64 x.2))
    (J Jx : List Hd → World → Prop) (W : World) (hW : Below w.heap.size w W) (hJ : AbidesFrom W.heap.size J)
    (hY : ∀ pre y W1, J pre W1 → (pre ++ [y]) <+: all → pre.length < all.length → YieldAt Fence.wide (n - 1) Try.prog l #[hdV y] W1 fun e W' => (e = .returned (.bool true) ∧ J (pre ++ [y]) W' ∧ KpB K W1 W') ∨ (e = .returned (.bool false) ∧ Jx (pre ++ [y]) W'))
    (h0 : J [] W) :
    CallsIn Fence.wide n Try.prog 47 #[.func (.yield l) #[] #[], .pointer (some ⟨rb, 0, none⟩), .pointer (some ⟨hb, 0, none⟩)] W fun e W' => (∃ v, e = .returned v) ∧ ((∃ ys, ys = all ∧ J ys W') ∨ (∃ pre, pre <+: all ∧ Jx pre W')) := by
  have hRW := hR.below hW
  have c0 : W.cell? ⟨rb, 0, none⟩ = some (.pointer (some ⟨P, 1, none⟩)) := (hW.cell (p := ⟨rb, 0, none⟩) (hKw rb hKr)).trans hr0
  have c1 : W.cell? ⟨hb, 0, none⟩ = some (.string x.1) := (hW.cell (p := ⟨hb, 0, none⟩) (hKw hb hKh)).trans hh0
  have c2 : W.cell? ⟨hb, 1, none⟩ = some (.int .i64 x.2) := (hW.cell (p := ⟨hb, 1, none⟩) (hKw hb hKh)).trans hh1
  have HS := Lib.hid (callsIn_wide (n := n - 1).2 (seek_any P v ss x W hRW hs hlen))
  obtain ⟨xk, xt⟩ := x
  obtain ⟨a, c, rfl⟩ := hR.form
  obtain ⟨N, hN⟩ : ∃ N, N = ss.length := ⟨_, rfl⟩
  have HALL := Lib.hid hall
  have HR := Lib.hid hRW
  have HY := Lib.hid hY
  have HJ := Lib.hid hJ
  have HKW : Hid (∀ k, K k → k < W.heap.size) := Lib.hid (fun k hk => Nat.lt_of_lt_of_le (hKw k hk) hW.size)
  have HK := Lib.hid hK
  have HN := Lib.hid hN
  have hNb : Hid (N < 2199023255552) := Lib.hid (by rw [hN]; exact few_shelves hRW.ne hlen)
  have HQB : Hid (∀ s, s ∈ ss → s.hs.length < 2199023255552) := Lib.hid (few_held hlen)
  unfold hdV at HS
  simp only [] at HS
  clear hall hRW hR hY hJ hK hKw hN hs hlen hr0 hh0 hh1 hW
  refine callsIn_of_wp Try.func47 rfl trivial ?_ rfl
  simp only [Try.ntmps47, List.size_toArray, List.length_cons, List.length_nil, Nat.reduceAdd, Nat.reduceSub, Array.replicate_succ, Array.replicate_zero, List.push_toArray, List.append_toArray, List.nil_append, List.cons_append]
  have hF48 : Fence.wide.fn 48 := trivial
  gi_wp2_with fail
  refine (HS.out).mono ?_
  rintro e w1 ⟨i, at', th, rfl, hsk, hb1⟩
  have hlow : (Sh.lists ss).length = N := by rw [HN.out]; simp [Sh.lists]
  have HST : Hid (i ≤ N ∧ (i < N → at' ≤ ((Sh.lists ss).getD i []).length) ∧ (N ≤ i → all = []) ∧ all = [] ++ (((Sh.lists ss).getD i []).drop at' ++ ((Sh.lists ss).drop (i + 1)).flatten)) := Lib.hid (by
    have h1 := HALL.out i at' th hsk
    refine ⟨?_, fun _ => hsk.fits, fun hNi => ?_, by rw [List.nil_append, h1]⟩
    · rcases hsk.shape with ⟨h2, h3, _⟩ | h2
      · omega
      · omega
    · rw [← h1]
      rcases hsk.shape with ⟨h2, h3, h4⟩ | h2
      · rw [h2]; simp
      · omega)
  have HJ1 : Hid (J [] w1) := Lib.hid (HJ.out _ _ _ none h0 (grown_below hb1) (fun r h => by cases h))
  have HK1 : Hid (KpB K W w1) := Lib.hid (KpB.below hb1 HKW.out)
  have hNlow := Lib.hid hlow
  clear hsk hb1 h0 HALL HS hlow c1 c2
  gi_wp2
  gi_loopw [4, 5] (fun vi va wr => ∃ (i at' : Nat) (pre : List Hd), vi = .int .i64 i ∧ va = .int .i64 at' ∧ i ≤ N ∧ (i < N → at' ≤ ((Sh.lists ss).getD i []).length) ∧ (i < N → all = pre ++ (((Sh.lists ss).getD i []).drop at' ++ ((Sh.lists ss).drop (i + 1)).flatten)) ∧ (N ≤ i → all = pre) ∧ Hid (J pre wr) ∧ Hid (KpB K W wr)) (fun vi _ _ => N - (intOf vi).toNat)
  case atStart => exact ⟨i, at', [], rfl, rfl, HST.out.1, HST.out.2.1, fun _ => HST.out.2.2.2, HST.out.2.2.1, HJ1, HK1⟩
  case round =>
    clear HST HJ1 HK1
    obtain ⟨i, at', pre, rfl, rfl, hiN, hat, hall, hend, HJp, HKp⟩ := hrel
    have hRr : RackAt wr P (.slice a ss.length c) ss := HR.out.of_blocks (fun k hk => HKp.out k (HK.out k hk))
    have d0 : wr.cell? ⟨rb, 0, none⟩ = some (.pointer (some ⟨P, 1, none⟩)) := (World.cell?_of_block (w := W) (a := ⟨rb, 0, none⟩) (HKp.out rb hKr)).trans c0
    have d1 : wr.cell? ⟨P, 1, none⟩ = some (.slice a N c) := by rw [HN.out]; exact hRr.cell
    by_cases hlt : i < N
    · obtain ⟨b, hab, hbl, hcb⟩ := hRr.at i (by rw [← HN.out]; exact hlt)
      cases hab
      obtain ⟨s, hss⟩ : ∃ s, s = ss[i]'(by rw [← HN.out]; exact hlt) := ⟨_, rfl⟩
      rw [← hss] at hcb
      have hLi : (Sh.lists ss).getD i [] = s.hs := by rw [hss]; simp [Sh.lists, show i < ss.length by rw [← HN.out]; exact hlt]
      have hsm : s ∈ ss := by rw [hss]; exact List.getElem_mem _
      have hSA := hRr.shelf s hsm
      have hqb : Hid (s.hs.length < 2199023255552) := Lib.hid (HQB.out s hsm)
      have hrow := hSA.row
      have hgK : K s.g := HK.out _ (.inr (.inr ⟨s, hsm, rfl⟩))
      have hat' := hat hlt
      have hall' := hall hlt
      rw [hLi] at hat' hall'
      obtain ⟨g, cc, hs'⟩ := s
      simp only at hat' hall' hSA hrow hgK hqb
      obtain ⟨q, hq⟩ : ∃ q, q = hs'.length := ⟨_, rfl⟩
      obtain ⟨R2, hR2⟩ : ∃ R2, R2 = ((Sh.lists ss).drop (i + 1)).flatten := ⟨_, rfl⟩
      have hqc : q ≤ cc := by
        rcases hSA.2 with ⟨h1, _⟩ | ⟨g', cap, cur, h1, _, _, h2, _⟩
        · cases h1
        · simp only [Sh.v, Value.slice.injEq] at h1
          obtain ⟨_, _, rfl⟩ := h1
          rw [hq]; exact h2
      rw [← hR2] at hall'
      unfold Sh.v at hcb
      simp only [] at hcb
      rw [← hq] at hcb hat' hqb
      have HQ := Lib.hid hq
      have HALL' := Lib.hid hall'
      have HR2 := Lib.hid hR2
      have HROW : Hid (∀ W', KpB K W W' → RowH W' g hs') := Lib.hid (fun W' hW' j hj => by
        have e1 : W'.heap[g]? = wr.heap[g]? := (hW' g hgK).trans (HKp.out g hgK).symm
        exact ⟨(World.cell?_of_block (w := wr) (a := ⟨g, j * 2, none⟩) e1).trans (hrow j hj).1, (World.cell?_of_block (w := wr) (a := ⟨g, j * 2 + 1, none⟩) e1).trans (hrow j hj).2⟩)
      have HATE := Lib.hid hat'
      clear hRr hss hLi hsm hSA hrow hall hall' hat hend hq hR2
      have hic : (i : Int) < (N : Int) := by omega
      obtain ⟨AD, hAD, hAD2⟩ : ∃ AD : Option Addr, (if cc = at' then some (⟨g, 0, none⟩ : Addr) else some ⟨g, at' * 2, none⟩) = AD ∧ (at' < q → AD = some ⟨g, at' * 2, none⟩) := ⟨_, rfl, fun h => by rw [if_neg (by omega)]⟩
      have HRA : Hid (∀ pre2 : List Hd, all = pre2 ++ (hs'.drop (at' + (q - at')) ++ R2) → (i + 1 < N → all = pre2 ++ (((Sh.lists ss).getD (i + 1) []).drop 0 ++ ((Sh.lists ss).drop (i + 1 + 1)).flatten)) ∧ (N ≤ i + 1 → all = pre2)) := Lib.hid (fun pre2 h => by
        rw [List.drop_eq_nil_of_le (by have := HQ.out; have := HATE.out; omega), List.nil_append, HR2.out] at h
        have hl := hNlow.out
        constructor
        · intro h1
          rw [List.drop_eq_getElem_cons (by omega), List.flatten_cons] at h
          rw [show (Sh.lists ss).getD (i + 1) [] = (Sh.lists ss)[i + 1]'(by omega) by simp [show i + 1 < (Sh.lists ss).length by omega], List.drop_zero]
          exact h
        · intro h1
          rw [List.drop_eq_nil_of_le (by omega)] at h
          simpa using h)
      clear HR2
      gi_wp2_with fail
      gi_loopw [35] (fun vj wq => ∃ (j : Nat) (pre2 : List Hd), vj = .int .i64 j ∧ j ≤ q - at' ∧ Hid (all = pre2 ++ (hs'.drop (at' + j) ++ R2)) ∧ Hid (J pre2 wq) ∧ Hid (KpB K W wq)) (fun vj _ => (q - at') - (intOf vj).toNat)
      case atStart => exact ⟨0, pre, rfl, Nat.zero_le _, Lib.hid HALL'.out, HJp, HKp⟩
      case round =>
        obtain ⟨j, pre2, rfl, hj, HAL, HJ2, HK2⟩ := hrel
        by_cases hjl : j < q - at'
        · have hjq : at' + j < hs'.length := by rw [← HQ.out]; omega
          obtain ⟨y, hy, f0, f1⟩ : ∃ y : Hd, y = hs'[at' + j]'hjq ∧ wr.cell? ⟨g, at' * 2 + j * 2, none⟩ = some (.string y.1) ∧ wr.cell? ⟨g, at' * 2 + j * 2 + 1, none⟩ = some (.int .i64 y.2) := ⟨_, rfl, by
            have := HROW.out wr HK2.out (at' + j) hjq
            rw [Nat.add_mul] at this
            exact this⟩
          have hADe := hAD2 (by omega)
          have hqb1 := hqb.out
          subst hADe
          have HSTEP : Hid (all = (pre2 ++ [y]) ++ (hs'.drop (at' + (j + 1)) ++ R2)) := Lib.hid (by
            have h := HAL.out
            rw [List.drop_eq_getElem_cons hjq, ← hy] at h
            rw [h]
            simp [Nat.add_assoc])
          have hpl : pre2.length < all.length := by
            rw [HSTEP.out]
            simp only [List.length_append, List.length_singleton]
            omega
          have HJy : J pre2 (wr.alloc (.cells #[.string y.1, .int .i64 y.2] 80)) := HJ.out _ _ _ none HJ2.out (grown_below ((Below.refl _ _).alloc (Nat.le_refl _) _)) (fun r h => by cases h)
          obtain ⟨fn, tmps, assign, body, hyy, hRr⟩ := HY.out pre2 y _ HJy ⟨_, HSTEP.out.symm⟩ hpl
          unfold hdV at hyy
          have HKy : Hid (KpB K W (wr.alloc (.cells #[.string y.1, .int .i64 y.2] 80))) := Lib.hid (HK2.out.trans (KpB.below ((Below.refl _ _).alloc (Nat.le_refl _) _) (fun k hk => HK2.out.lt hk (HKW.out k hk))))
          clear HJy hy HAL hpl
          gi_wp2_with fail
          refine hRr.mono ?_
          rintro e W3 (⟨rfl, hJ3, hk3⟩ | ⟨rfl, hJx3⟩)
          · have HJ3 := Lib.hid hJ3
            have HK3 : Hid (KpB K W W3) := Lib.hid (HKy.out.trans hk3)
            clear hJ3 hk3 hRr
            gi_wp2
            go_roundw
            case rel => exact ⟨j + 1, pre2 ++ [y], by go_num, by omega, HSTEP, HJ3, HK3⟩
            case measure => simp [intOf]; omega
          · have HJX := Lib.hid hJx3
            clear hJx3 hRr
            gi_wp2
            refine bodyPost_ret (results_none rfl _ _ _) rfl ?_
            exact ⟨⟨_, rfl⟩, .inr ⟨pre2 ++ [y], ⟨_, HSTEP.out.symm⟩, HJX.out⟩⟩
        · obtain rfl : j = q - at' := by omega
          obtain ⟨r1, r2⟩ := HRA.out pre2 HAL.out
          have R1 := Lib.hid r1
          have R3 := Lib.hid r2
          clear r1 r2 HRA HAL
          have hNb1 := hNb.out
          gi_wp2
          go_roundw
          case rel => exact ⟨i + 1, 0, pre2, by go_num, rfl, by omega, fun _ => Nat.zero_le _, R1.out, R3.out, HJ2, HK2⟩
          case measure => simp [intOf]; omega
    · have e := hend (by omega)
      have HE := Lib.hid e
      clear e hend hall hat hRr
      gi_wp2
      go_end0
      exact ⟨⟨_, rfl⟩, .inl ⟨pre, HE.out.symm, HJp.out⟩⟩

/-- The same, handed over as entries of a list cs. -/
theorem from_mem (n : Nat) (hn : 1 ≤ n) (P rb hb : Nat) (v : Value) (ss : List Sh) (x : Hd) (w : World) (cs : List Et) (hR : RackAt w P v ss) (hs : SrtH (Sh.lists ss).flatten) (hlen : (Sh.lists ss).flatten.length < 2199023255552)
    (hall : ∀ i at' th, Seek (Sh.lists ss) x i at' th → ((Sh.lists ss).getD i []).drop at' ++ ((Sh.lists ss).drop (i + 1)).flatten = cs.map hOf)
    (K : Nat → Prop) (hK : ∀ k, bl P v ss k → K k) (hKr : K rb) (hKh : K hb) (hKw : ∀ k, K k → k < w.heap.size)
    (hr0 : w.cell? ⟨rb, 0, none⟩ = some (.pointer (some ⟨P, 1, none⟩))) (hh0 : w.cell? ⟨hb, 0, none⟩ = some (.string x.1)) (hh1 : w.cell? ⟨hb, 1, none⟩ = some (.int .i64 x.2)) :
    SeqStopsK Fence.wide n Try.prog 47 #[.pointer (some ⟨rb, 0, none⟩), .pointer (some ⟨hb, 0, none⟩)] (fun y : {c : Et // c ∈ cs} => #[hdV (hOf y.1)]) (KpB K) (fun xs => xs.map (·.1) = cs) (fun _ => True) cs.length w := fun l J Jx W hW hJ hJx hY h0 => by
  refine (from1_mem n hn l P rb hb v ss x w (cs.map hOf) hR hs hlen hall K hK hKr hKh hKw hr0 hh0 hh1
    (fun pre W => ∃ p : List {c : Et // c ∈ cs}, p.map (·.1) = cs.take p.length ∧ pre = (cs.take p.length).map hOf ∧ p.length ≤ cs.length ∧ J p W) (fun _ W => ∃ p, Jx p W) W hW ?_ ?_ ⟨[], by simp, by simp, Nat.zero_le _, h0⟩).mono ?_
  · intro pre A B row hs hg hrow
    obtain ⟨p, h1, h2, h3, h4⟩ := hs
    exact ⟨p, h1, h2, h3, hJ p A B row h4 hg hrow⟩
  · rintro pre y W1 ⟨p, h1, h2, h3, h4⟩ ⟨r, hr⟩ hpl
    have hp : p.length < cs.length := by
      rw [h2] at hpl
      simp only [List.length_map, List.length_take] at hpl
      omega
    have hy : hOf (cs[p.length]'hp) = y := by
      have h7 : (cs.map hOf)[p.length]? = some y := by
        rw [← hr, h2]
        have : ((cs.take p.length).map hOf).length = p.length := by rw [List.length_map, List.length_take]; omega
        rw [List.append_assoc, List.getElem?_append_right (by omega), this]
        simp
      rw [List.getElem?_map, List.getElem?_eq_getElem hp] at h7
      simpa using h7
    have htk : cs.take (p.length + 1) = cs.take p.length ++ [cs[p.length]'hp] := List.take_succ_eq_append_getElem hp
    obtain ⟨fn, tmps, assign, body, hyy, hRr⟩ := hY p ⟨cs[p.length]'hp, List.getElem_mem _⟩ W1 h4 hp
    simp only [] at hyy hRr
    rw [hy] at hyy
    refine ⟨fn, tmps, assign, body, hyy, hRr.mono ?_⟩
    rintro e W' (⟨rfl, h5, h6⟩ | ⟨rfl, h5⟩)
    · refine .inl ⟨rfl, ⟨p ++ [⟨cs[p.length]'hp, List.getElem_mem _⟩], ?_, ?_, ?_, h5⟩, h6⟩
      · rw [List.map_append, List.length_append, List.length_singleton, htk, h1]; rfl
      · rw [List.length_append, List.length_singleton, htk, List.map_append, h2, List.map_singleton, hy]
      · rw [List.length_append, List.length_singleton]; omega
    · exact .inr ⟨rfl, _, h5⟩
  · rintro e W' ⟨h1, h2⟩
    refine ⟨h1, ?_⟩
    rcases h2 with ⟨ys, rfl, p, h3, h4, h5, h6⟩ | ⟨pre, _, p, h3⟩
    · left
      refine ⟨p, ?_, h6⟩
      have h7 := congrArg List.length h4
      simp only [List.length_map, List.length_take] at h7
      exact h3.trans (List.take_of_length_le (by omega))
    · exact .inr ⟨p, trivial, h3⟩
end Go.Proofs.Ytnnmigglcpkomaa.Dm

/- Entries: all of a method in hand, each key made anew. -/
set_option maxRecDepth 100000
namespace Go.Proofs.Ytnnmigglcpkomaa.Dm
open Go Go.RowKit Go.Shelf
attribute [local go_sem] Oper.semAt_some

/-- One entry is put behind the row, and where the row lies then. -/
theorem put_enAt {B : Nat} {w : World} (ty : TypeId) {v : Value} {es : List En} (h : Rows B w v es) (e : En) (T : TypeId) (hl : es.length < 2199023255552) (hB : B ≤ w.heap.size) :
    ∃ v' w', (Builtin.append_ #[25, 25] ty #[v, .slice (some ⟨w.heap.size, 0, none⟩) 1 1]).run Try.prog (w.alloc (.cells #[.int .i64 e.k, .int .i64 e.n, .string e.s, .slice e.a e.xs.length e.lc, .int .i64 e.t] T)) = .ok v' w' ∧ Rows B w' v' (es ++ [e]) ∧
      (w.alloc (.cells #[.int .i64 e.k, .int .i64 e.n, .string e.s, .slice e.a e.xs.length e.lc, .int .i64 e.t] T)).grownBy w' v.ownBlock ∧ (v'.ownBlock = v.ownBlock ∨ v'.ownBlock = some (w.alloc (.cells #[.int .i64 e.k, .int .i64 e.n, .string e.s, .slice e.a e.xs.length e.lc, .int .i64 e.t] T)).heap.size) := by
  have hb := (Below.refl w.heap.size w).alloc (Nat.le_refl _) (.cells #[.int .i64 e.k, .int .i64 e.n, .string e.s, .slice e.a e.xs.length e.lc, .int .i64 e.t] T)
  obtain ⟨i0, hi, q0, q1, q2⟩ := info_parts infoEn
  obtain ⟨v', w', hr, h2, h3, _, h5⟩ := run_append_own_at (P := Try.prog) _ B 25 ty 35 i0 _ 5 64 Try.underlying25 hi q0 q1 q2 rfl (by decide) v es.length (rowE es) (h.below hb) ⟨w.heap.size, 0, none⟩ 1 1 (cellsE e) rfl (fun j u hu => by
    have hj : j < 5 := by
      obtain ⟨h1, _⟩ := List.getElem?_eq_some_iff.1 hu
      exact h1
    rw [Addr.add_lit, Nat.zero_add]
    exact lit_cells w e T j hj u hu) (fun u hu => by
      simp only [cellsE, List.mem_cons, List.not_mem_nil, or_false] at hu
      rcases hu with rfl | rfl | rfl | rfl | rfl <;> rfl) (by unfold maxLen; omega) (by omega) (Nat.le_trans hB hb.size)
  refine ⟨v', w', hr, ?_, h3, h5⟩
  rw [Rows, rowE_app, List.length_append]
  have : rowE [e] = cellsE e := by simp [rowE]
  rw [this]
  exact h2

/-- An append, as a step of a region that draws its order inside a round, out of its run. -/
theorem step_app_in {F : Fence} {n : Nat} {ops : Array Oper} {o : Oper} {a : Act} {K : Act → World → Prop} {Q : Exit → Act → World → Prop} {E : Prop} {w w' : World} (hgd : o.guard = none) (s x : Operand) (t : TypeId)
    (ho : o.op = .call { callee := .builtin .append, args := #[s, x], argTypes := #[t, t] }) (sv xv v : Value) (hs : a.eval s = sv) (hx : a.eval x = xv) (hr : (Builtin.append_ #[t, t] o.type #[sv, xv]).run Try.prog w = .ok v w') (h : K (a.put o.dst v) w') :
    if Region.wanted o (yielded ops a.tmps) = true then Oper.wpIn F n Try.prog o a w K Q else E := by
  have hw : Region.wanted o (yielded ops a.tmps) = true := by simp [Region.wanted, hgd]
  rw [if_pos hw]
  unfold Oper.wpIn
  refine ⟨?_, ?_⟩
  · simp [Oper.about, ho, resolve, Target.leads, Sem.run_pure]
  · rw [Oper.semAt_plain F _ _ (by rw [ho]; intro c hc'; cases hc')]
    simp [execOp, ho, resolve, invoke, builtin, hs, hx, hr, Result.andThen]
    exact h

set_option maxHeartbeats 1600000 in
theorem entries_in (n : Nat) (hn : 4 ≤ n) (P : Nat) (v : Value) (ss : List Sh) (w : World) (cs : List Et) (hfit : ∀ c, c ∈ cs → FitE c ∧ I64 c.2) (hPl : PlAt w P v ss) (hs : SrtH (Sh.lists ss).flatten) (hlen : (Sh.lists ss).flatten.length < 2199023255552) (hcl : cs.length < 2199023255552)
    (hall : ∀ i at' th, Seek (Sh.lists ss) (⟨#[]⟩, 0) i at' th → ((Sh.lists ss).getD i []).drop at' ++ ((Sh.lists ss).drop (i + 1)).flatten = cs.map hOf) :
    CallsIn Fence.wide n Try.prog 12 #[.pointer (some ⟨P, 0, none⟩)] w fun r w' => ∃ v' es, r = .returned v' ∧ EnSt w.heap.size w' v' es ∧ consE es = cs ∧ Below w.heap.size w w' := by
  have h1 : 1 ≤ n := by omega
  have hPt := hPl.rack.lt
  have HG : Hid (CallsIn Fence.wide (n - 1) Try.prog 27 #[.pointer (some ⟨P, 0, none⟩)] w fun e w' => e = .returned (.bool true) ∧ w = w') := Lib.hid (callsIn_wide.2 ((given_yes P w hPl.self).mono (fun e w' h => ⟨h.1, h.2.symm⟩)))
  have HFR : Hid (∀ W, CallsIn Fence.wide (n - 1) Try.prog 28 #[.pointer (some ⟨P, 1, none⟩), .agg #[.string ⟨#[]⟩, .int .i64 0]] W fun e w' => e = .returned (.func (.func 47) #[] #[.pointer (some ⟨W.heap.size, 0, none⟩), .pointer (some ⟨W.heap.size + 1, 0, none⟩)]) ∧
    w' = (W.alloc (.cells #[.pointer (some ⟨P, 1, none⟩)] 99)).alloc (.cells #[.string ⟨#[]⟩, .int .i64 0] 80)) := Lib.hid (fun W => callsIn_wide.2 (from_any P (⟨#[]⟩, 0) W))
  have HEO : Hid (∀ W c, c ∈ cs → ∀ m l, CallsIn (Fence.wide.inRound l) m Try.prog 29 #[hdV (hOf c)] W fun r w' => ∃ e : En, r = .returned e.v ∧ e.c = c ∧ e.In w' ∧ (e.xs = [] ∨ ∃ b off, e.a = some ⟨b, off, none⟩ ∧ W.heap.size ≤ b) ∧ Below W.heap.size W w') := Lib.hid (fun W c hc m l => CallsIn.inRound l (callsIn_wide.2 (entryOf_lo c W (hfit c hc).1 (hfit c hc).2)))
  have HALL := Lib.hid hall
  have HP := Lib.hid hPl
  have HSS := Lib.hid hs
  have HLL := Lib.hid hlen
  have HCL := Lib.hid hcl
  clear hall hPl hs hlen hfit hcl
  have hF1 : Fence.wide.fn 27 := trivial
  have hF2 : Fence.wide.fn 28 := trivial
  have hF3 : Fence.wide.fn 29 := trivial
  refine callsIn_of_wp_marks Try.func12 rfl trivial ?_ rfl
  simp only [Try.ntmps12, List.size_toArray, List.length_cons, List.length_nil, Nat.reduceAdd, Nat.reduceSub, Array.replicate_succ, Array.replicate_zero, List.push_toArray, List.append_toArray, List.nil_append, List.cons_append]
  gi_wp2_with fail
  refine HG.out.mono ?_
  rintro e w' ⟨rfl, rfl⟩
  gi_wp2_with fail
  refine (HFR.out _).mono ?_
  rintro e w' ⟨rfl, rfl⟩
  gi_wp2_with fail
  obtain ⟨L, hL⟩ : ∃ L, L = w.heap.size := ⟨_, rfl⟩
  obtain ⟨W0, hW0⟩ : ∃ W0, W0 = ((w.alloc (.cells #[.slice none 0 0] 25)).alloc (.cells #[.pointer (some ⟨P, 1, none⟩)] 99)).alloc (.cells #[.string ⟨#[]⟩, .int .i64 0] 80) := ⟨_, rfl⟩
  rw [← hW0]
  have hsz : W0.heap.size = w.heap.size + 1 + 1 + 1 := by rw [hW0]; simp
  have hB0 : Below w.heap.size w W0 := by rw [hW0]; exact (((Below.refl _ _).alloc (Nat.le_refl _) _).alloc (by simp) _).alloc (by simp; omega) _
  have bL : Boxed W0 w.heap.size 25 (.slice none 0 0) := by
    have := Boxed.new w 25 (.slice none 0 0)
    rw [hW0]; exact (this.alloc _).alloc _
  have hr0 : W0.cell? ⟨w.heap.size + 1, 0, none⟩ = some (.pointer (some ⟨P, 1, none⟩)) := by
    have := Boxed.new (w.alloc (.cells #[.slice none 0 0] 25)) 99 (.pointer (some ⟨P, 1, none⟩))
    rw [World.size_alloc] at this
    rw [hW0]; exact (this.alloc _).cell
  have hH : W0.heap[w.heap.size + 1 + 1]? = some (.cells #[.string ⟨#[]⟩, .int .i64 0] 80) := by
    have := heap_alloc_new ((w.alloc (.cells #[.slice none 0 0] 25)).alloc (.cells #[.pointer (some ⟨P, 1, none⟩)] 99)) (.cells #[.string ⟨#[]⟩, .int .i64 0] 80)
    rw [World.size_alloc, World.size_alloc] at this
    rw [hW0]; exact this
  have hh0 : W0.cell? ⟨w.heap.size + 1 + 1, 0, none⟩ = some (.string ⟨#[]⟩) := by rw [Lib.cell_of_heap hH]; rfl
  have hh1 : W0.cell? ⟨w.heap.size + 1 + 1, 1, none⟩ = some (.int .i64 0) := by rw [Lib.cell_of_heap hH]; rfl
  have hRK : RackAt W0 P v ss := HP.out.rack.below hB0
  have hKW : ∀ k, (bl P v ss k ∨ k = w.heap.size + 1 ∨ k = w.heap.size + 1 + 1) → k < W0.heap.size ∧ k ≠ w.heap.size := fun k hk => by
    rcases hk with h | rfl | rfl
    · have := HP.out.rack.bl_lt k h
      omega
    · omega
    · omega
  have HKW := Lib.hid hKW
  have HBw := Lib.hid hB0
  have HI : ∃ I : List {c : Et // c ∈ cs} → World → Prop, Hid (∀ pre W, I pre W ↔ ((∃ v' es, Boxed W w.heap.size 25 v' ∧ EnSt W0.heap.size W v' es ∧ consE es = pre.map (·.1)) ∧ Below w.heap.size w W ∧ W0.heap.size ≤ W.heap.size)) := ⟨_, Lib.hid (fun _ _ => Iff.rfl)⟩
  obtain ⟨I, HI⟩ := HI
  have hIown : OwnFrom W0.heap.size I := fun pre A B row hi hg hrow => by
    obtain ⟨⟨v', es, hv, he, hc⟩, hB, hN⟩ := (HI.out _ _).1 hi
    have hne : ∀ (j : Nat) (cs : Array Value) (T : TypeId) (fz : Nat × Nat), A.heap[j]? = some (.cells cs T fz) → some j ≠ row := fun j cs T fz hj e => by
      obtain ⟨_, o, ho, hc⟩ := hrow j e.symm
      rw [hj] at ho
      cases ho
      cases hc
    refine (HI.out _ _).2 ⟨⟨v', es, hv.kept hg (hne _ _ _ _ hv), he.kept hg (fun r hr => (hrow r hr).2), hc⟩, ?_, Nat.le_trans hN hg.size⟩
    refine hB.grown hg hB.size (fun k e => ?_)
    have := (hrow k e).1
    omega
  have HSZ := Lib.hid hsz
  have HW0 := Lib.hid hW0
  clear hsz hW0 hH
  refine wpIn_rangeFunc_ownH (w0 := W0) rfl h1 (gf := 47) (lb := #[.pointer (some ⟨w.heap.size + 1, 0, none⟩), .pointer (some ⟨w.heap.size + 1 + 1, 0, none⟩)]) rfl trivial (enters_of Try.func47 (by kernel_rfl) rfl)
    (from_mem (n - 1) (by omega) P (w.heap.size + 1) (w.heap.size + 1 + 1) v ss (⟨#[]⟩, 0) W0 cs hRK HSS.out HLL.out HALL.out (fun k => bl P v ss k ∨ k = w.heap.size + 1 ∨ k = w.heap.size + 1 + 1) (fun k h => .inl h) (.inr (.inl rfl)) (.inr (.inr rfl)) (fun k h => (HKW.out k h).1) hr0 hh0 hh1)
    KpB.trans (fun W l o o' hl ho _ _ k hk => by
      have h5 := (HKW.out k hk).1
      have h6 := (Array.getElem?_eq_some_iff.1 ho).1
      exact grown_ne (grownBy_putObj' W l o') ⟨by omega, by omega⟩) (Below.refl _ _) (fun _ => rfl) I
    (fun _ _ _ => False) hIown (fun c pre A B row hs hg hrow => hs.elim)
    ((HI.out _ _).2 ⟨⟨_, [], bL, EnSt.nil _ _, by simp [consE]⟩, HBw.out, Nat.le_refl _⟩)
    (fun y a' W => ∃ Bx, W0.heap.size ≤ Bx ∧ W.heap[Bx]? = some (.cells #[.string (hOf y.1).1, .int .i64 (hOf y.1).2] 80 (0, 0)) ∧ a' = { tmps := #[.pointer (some ⟨P, 0, none⟩), undef, .slice none 0 0, .pointer (some ⟨w.heap.size, 0, none⟩), .pointer (some ⟨Bx, 0, none⟩), .pointer (some ⟨P, 0, none⟩), .bool true, .bool false, .pointer (some ⟨P, 0, none⟩), .pointer (some ⟨P, 0, none⟩), .pointer (some ⟨P, 1, none⟩), .agg #[.string ⟨#[]⟩, .int .i64 0], .func (.func 47) #[] #[.pointer (some ⟨w.heap.size + 1, 0, none⟩), .pointer (some ⟨w.heap.size + 1 + 1, 0, none⟩)], hdV (hOf y.1), undef, undef, undef, undef, undef, undef], defers := [] })
    (fun y a' _ A B row hs hg hrow => by
      obtain ⟨Bx, h1, h2, h3⟩ := hs
      refine ⟨Bx, h1, (hg.block Bx (Array.getElem?_eq_some_iff.1 h2).1 (fun e => ?_)).trans h2, h3⟩
      obtain ⟨_, o, ho, hc⟩ := hrow Bx e.symm
      rw [h2] at ho
      cases ho
      cases hc) ?assign ?body ?done ?stop
  case assign =>
    rintro l pre ⟨c, hmem⟩ W K hi hK
    have HKK := Lib.hid hK
    have HII := Lib.hid hi
    clear hK hi
    simp only [] at HKK ⊢
    obtain ⟨y, hy⟩ : ∃ y, y = hOf c := ⟨_, rfl⟩
    rw [← hy] at HKK ⊢
    clear hy
    obtain ⟨yk, yt⟩ := y
    unfold hdV at HKK ⊢
    gi_wp2
    obtain ⟨_, _, hNW⟩ := (HI.out _ _).1 HII.out
    exact HKK.out _ _ ((KeepsOthers.alloc _ _).from _) (KpB.below ((Below.refl _ _).alloc (Nat.le_refl _) _) (fun k hk => by have := (HKW.out k hk).1; omega)) (hIown pre _ _ none HII.out (World.grownBy_alloc W _ none) (fun r h => by cases h)) ⟨W.heap.size, hNW, new_heap W _, rfl⟩
  case body =>
    rintro l pre ⟨c, hmem⟩ a' W hl ⟨r, hr⟩ hi ⟨Bx, hBx, bX, rfl⟩ hlt
    obtain ⟨⟨v', es, hv, he, hce⟩, hB, hN⟩ := (HI.out _ _).1 hi
    have hel : es.length < 2199023255552 := by
      have h7 := congrArg List.length hce
      have := HCL.out
      unfold consE at h7
      rw [List.length_map, List.length_map] at h7
      omega
    simp only [] at bX ⊢
    obtain ⟨y, hyc⟩ : ∃ y, hOf c = y := ⟨_, rfl⟩
    rw [hyc] at bX ⊢
    obtain ⟨yk, yt⟩ := y
    have HC : Hid (∀ m, CallsIn (Fence.wide.inRound l) m Try.prog 29 #[.agg #[.string yk, .int .i64 yt]] W.drew fun r w' => ∃ e : En, r = .returned (.agg #[.int .i64 e.k, .int .i64 e.n, .string e.s, .slice e.a e.xs.length e.lc, .int .i64 e.t]) ∧ Below W.heap.size W w' ∧ Hid (e.c = c ∧ e.In w' ∧ (e.xs = [] ∨ ∃ b off, e.a = some ⟨b, off, none⟩ ∧ W.heap.size ≤ b))) := Lib.hid (fun m => by
      have h8 := HEO.out W.drew c hmem m l
      rw [hyc] at h8
      refine h8.mono ?_
      rintro r w' ⟨e, rfl, h9, h10, h11, h12⟩
      exact ⟨e, rfl, (Below.refl _ _).drew.trans h12, Lib.hid ⟨h9, h10, h11⟩⟩)
    have hLW : w.heap.size < W.heap.size := by have := HSZ.out; omega
    have hL0 : w.heap.size < W0.heap.size := by have := HSZ.out; omega
    have HSTEP : Hid (∀ (e : En) w1, Below W.heap.size W w1 → Hid (e.c = c ∧ e.In w1 ∧ (e.xs = [] ∨ ∃ b off, e.a = some ⟨b, off, none⟩ ∧ W.heap.size ≤ b)) → ∃ a2 n2 c2 w2, (Builtin.append_ #[25, 25] 25 #[v', .slice (some ⟨w1.heap.size, 0, none⟩) 1 1]).run Try.prog (w1.alloc (.cells #[.int .i64 e.k, .int .i64 e.n, .string e.s, .slice e.a e.xs.length e.lc, .int .i64 e.t] 35)) = .ok (.slice a2 n2 c2) w2 ∧
        w2.cell? ⟨w.heap.size, 0, none⟩ = some v' ∧ w2.frozen? ⟨w.heap.size, 0, none⟩ = false ∧ Hid (KeepsFrom W0.heap.size W (w2.setCell ⟨w.heap.size, 0, none⟩ (.slice a2 n2 c2)) ∧ KpB (fun k => bl P v ss k ∨ k = w.heap.size + 1 ∨ k = w.heap.size + 1 + 1) W (w2.setCell ⟨w.heap.size, 0, none⟩ (.slice a2 n2 c2)) ∧ I (pre ++ [⟨c, hmem⟩]) (w2.setCell ⟨w.heap.size, 0, none⟩ (.slice a2 n2 c2)))) := Lib.hid (fun e w1 hb1 hE => by
      obtain ⟨h9, h10, h11⟩ := hE.out
      have hws := hb1.size
      obtain ⟨v2, w2, hrun, hrow2, hg, hown⟩ := put_enAt 25 (he.row.below hb1) e 35 hel (Nat.le_trans hN hws)
      have hst : EnSt W0.heap.size w2 v2 (es ++ [e]) := he.put hN hb1 h10 h11 hrow2 hg hown
      have hvb : ∀ k, v'.ownBlock = some k → W0.heap.size ≤ k ∧ k < W.heap.size := fun k hk => he.row.lt k hk
      have hold : ∀ k, k < W.heap.size → v'.ownBlock ≠ some k → w2.heap[k]? = W.heap[k]? := fun k h7 h8 => by
        rw [hg.block k (by simp; omega) (fun e => h8 e.symm), Below.heap_alloc _ _ _ (by omega)]
        exact hb1.block k h7
      have hLn : v'.ownBlock ≠ some w.heap.size := fun e => by have := (hvb _ e).1; omega
      have hb2 : w2.heap[w.heap.size]? = W.heap[w.heap.size]? := hold _ hLW hLn
      have hbx : Boxed w2 w.heap.size 25 v' := hb2.trans hv
      obtain ⟨a2, c2, rfl⟩ := hrow2.shape
      refine ⟨a2, _, c2, w2, hrun, hbx.cell, hbx.frozen, Lib.hid ⟨?_, fun k hk => ?_, (HI.out _ _).2 ⟨⟨_, es ++ [e], hbx.set _, hst.set hL0 _, ?_⟩, ?_, ?_⟩⟩⟩
      · refine ⟨?_, fun k o _ hk ho => ?_⟩
        · have := hg.size
          simp only [World.setCell, Array.size_modify, World.size_alloc] at this ⊢
          omega
        · have hkl := (Array.getElem?_eq_some_iff.1 hk).1
          have hne : k ≠ w.heap.size := fun e => by
            subst e
            rw [hv] at hk
            cases hk
            cases ho
          rw [Below.heap_setCell _ _ _ _ hne, hold k hkl (fun e => ?_)]
          · exact hk
          · rcases he.row.2 with ⟨rfl, _⟩ | ⟨g, cap, cur, rfl, _, hgb, _⟩
            · cases e
            · cases e
              rw [hgb] at hk
              cases hk
              cases ho
      · have h5 := HKW.out k hk
        rw [Below.heap_setCell _ _ _ _ h5.2]
        exact hold k (by omega) (fun e => by have := (hvb _ e).1; omega)
      · unfold consE at hce ⊢
        rw [List.map_append, List.map_append, List.map_singleton, h9, hce]
        rfl
      · refine Below.setCell (p := ⟨w.heap.size, 0, none⟩) ?_ (Nat.le_refl _) _
        exact ((hB.trans (hb1.mono hB.size)).alloc (by have := hB.size; omega) _).grown hg (by have := hB.size; simp; omega) (fun k e => by have := (hvb _ e).1; omega)
      · have := hg.size
        simp only [World.setCell, Array.size_modify, World.size_alloc] at this ⊢
        omega)
    have hcL := hv.cell
    have x0 : W.cell? ⟨Bx, 0, none⟩ = some (.string yk) := by rw [Lib.cell_of_heap bX]; rfl
    have x1 : W.cell? ⟨Bx, 1, none⟩ = some (.int .i64 yt) := by rw [Lib.cell_of_heap bX]; rfl
    have hmx : Try.prog.follows .mixedOrders = true := by kernel_rfl
    have hd : 1 ≤ n - 1 - 1 := by omega
    have hBL : Bx < W.heap.size := (Array.getElem?_eq_some_iff.1 bX).1
    clear hv he hce hB hN hyc hel hi bX hr hlt
    unfold hdV
    gi_wp2
    refine wpIn_region_any (by assumption) ?_
    try (change wpAnyIn _ _ _ _ _ _ _ _ _ (World.drew _))
    refine wpAnyIn_ready (rs := [0, 1]) (by kernel_rfl) (by simp) ?_
    refine AllReadyIn.cons rfl (fun K hK => ?_) (AllReadyIn.cons rfl (fun K hK => ?_) AllReadyIn.nil)
    · go_simp
      refine hK _ _ ?_
      clear hK K
      refine wpAnyIn_ready (rs := [1]) (by kernel_rfl) (by simp) ?_
      refine AllReadyIn.cons rfl (fun K hK => ?_) AllReadyIn.nil
      go_simp
      refine hK _ _ ?_
      clear hK K
      refine wpAnyIn_ready (rs := [2]) (by kernel_rfl) (by simp) ?_
      refine AllReadyIn.cons rfl (fun K hK => ?_) AllReadyIn.nil
      go_simp
      gi_wp2_with (gi_at_call 29; refine (HC.out _).mono ?_; rintro e1 w1 ⟨en, rfl, hb1, hE⟩; obtain ⟨a2, n2, c2, w2, hrun, hc2, hf2, HF⟩ := HSTEP.out en w1 hb1 hE; have hcL1 := (hb1.cell (p := ⟨w.heap.size, 0, none⟩) hLW).trans hcL; have hLW1 : w.heap.size < w1.heap.size := Nat.lt_of_lt_of_le hLW hb1.size)
      try (refine hK _ _ ?_)
      try clear hK K
      refine wpAnyIn_ready (rs := [3]) (by kernel_rfl) (by simp) ?_
      refine AllReadyIn.cons rfl (fun K hK => ?_) AllReadyIn.nil
      go_simp
      refine hK _ _ ?_
      clear hK K
      refine wpAnyIn_ready (rs := [4]) (by kernel_rfl) (by simp) ?_
      refine AllReadyIn.cons rfl (fun K hK => ?_) AllReadyIn.nil
      refine step_app_in rfl _ _ 25 rfl _ _ _ (by rfl) (by rfl) hrun ?_
      refine hK _ _ ?_
      clear hK K
      refine wpAnyIn_ready (rs := [5]) (by kernel_rfl) (by simp) ?_
      refine AllReadyIn.cons rfl (fun K hK => ?_) AllReadyIn.nil
      go_simp
      refine hK _ _ ?_
      clear hK K
      refine wpAnyIn_done (by kernel_rfl) ?_ _
      gi_wp2
      exact HF.out
    · go_simp
      refine hK _ _ ?_
      clear hK K
      refine wpAnyIn_ready (rs := [0, 2]) (by kernel_rfl) (by simp) ?_
      refine AllReadyIn.cons rfl (fun K hK => ?_) (AllReadyIn.cons rfl (fun K hK => ?_) AllReadyIn.nil)
      · go_simp
        refine hK _ _ ?_
        clear hK K
        refine wpAnyIn_ready (rs := [2]) (by kernel_rfl) (by simp) ?_
        refine AllReadyIn.cons rfl (fun K hK => ?_) AllReadyIn.nil
        go_simp
        gi_wp2_with (gi_at_call 29; refine (HC.out _).mono ?_; rintro e1 w1 ⟨en, rfl, hb1, hE⟩; obtain ⟨a2, n2, c2, w2, hrun, hc2, hf2, HF⟩ := HSTEP.out en w1 hb1 hE; have hcL1 := (hb1.cell (p := ⟨w.heap.size, 0, none⟩) hLW).trans hcL; have hLW1 : w.heap.size < w1.heap.size := Nat.lt_of_lt_of_le hLW hb1.size)
        try (refine hK _ _ ?_)
        try clear hK K
        refine wpAnyIn_ready (rs := [3]) (by kernel_rfl) (by simp) ?_
        refine AllReadyIn.cons rfl (fun K hK => ?_) AllReadyIn.nil
        go_simp
        refine hK _ _ ?_
        clear hK K
        refine wpAnyIn_ready (rs := [4]) (by kernel_rfl) (by simp) ?_
        refine AllReadyIn.cons rfl (fun K hK => ?_) AllReadyIn.nil
        refine step_app_in rfl _ _ 25 rfl _ _ _ (by rfl) (by rfl) hrun ?_
        refine hK _ _ ?_
        clear hK K
        refine wpAnyIn_ready (rs := [5]) (by kernel_rfl) (by simp) ?_
        refine AllReadyIn.cons rfl (fun K hK => ?_) AllReadyIn.nil
        go_simp
        refine hK _ _ ?_
        clear hK K
        refine wpAnyIn_done (by kernel_rfl) ?_ _
        gi_wp2
        exact HF.out
      · go_simp
        gi_wp2_with (gi_at_call 29; refine (HC.out _).mono ?_; rintro e1 w1 ⟨en, rfl, hb1, hE⟩; obtain ⟨a2, n2, c2, w2, hrun, hc2, hf2, HF⟩ := HSTEP.out en w1 hb1 hE; have hcL1 := (hb1.cell (p := ⟨w.heap.size, 0, none⟩) hLW).trans hcL; have hLW1 : w.heap.size < w1.heap.size := Nat.lt_of_lt_of_le hLW hb1.size)
        try (refine hK _ _ ?_)
        try clear hK K
        refine wpAnyIn_ready (rs := [0, 3]) (by kernel_rfl) (by simp) ?_
        refine AllReadyIn.cons rfl (fun K hK => ?_) (AllReadyIn.cons rfl (fun K hK => ?_) AllReadyIn.nil)
        · go_simp
          refine hK _ _ ?_
          clear hK K
          refine wpAnyIn_ready (rs := [3]) (by kernel_rfl) (by simp) ?_
          refine AllReadyIn.cons rfl (fun K hK => ?_) AllReadyIn.nil
          go_simp
          refine hK _ _ ?_
          clear hK K
          refine wpAnyIn_ready (rs := [4]) (by kernel_rfl) (by simp) ?_
          refine AllReadyIn.cons rfl (fun K hK => ?_) AllReadyIn.nil
          refine step_app_in rfl _ _ 25 rfl _ _ _ (by rfl) (by rfl) hrun ?_
          refine hK _ _ ?_
          clear hK K
          refine wpAnyIn_ready (rs := [5]) (by kernel_rfl) (by simp) ?_
          refine AllReadyIn.cons rfl (fun K hK => ?_) AllReadyIn.nil
          go_simp
          refine hK _ _ ?_
          clear hK K
          refine wpAnyIn_done (by kernel_rfl) ?_ _
          gi_wp2
          exact HF.out
        · go_simp
          refine hK _ _ ?_
          clear hK K
          refine wpAnyIn_ready (rs := [0]) (by kernel_rfl) (by simp) ?_
          refine AllReadyIn.cons rfl (fun K hK => ?_) AllReadyIn.nil
          go_simp
          refine hK _ _ ?_
          clear hK K
          refine wpAnyIn_ready (rs := [4]) (by kernel_rfl) (by simp) ?_
          refine AllReadyIn.cons rfl (fun K hK => ?_) AllReadyIn.nil
          refine step_app_in rfl _ _ 25 rfl _ _ _ (by rfl) (by rfl) hrun ?_
          refine hK _ _ ?_
          clear hK K
          refine wpAnyIn_ready (rs := [5]) (by kernel_rfl) (by simp) ?_
          refine AllReadyIn.cons rfl (fun K hK => ?_) AllReadyIn.nil
          go_simp
          refine hK _ _ ?_
          clear hK K
          refine wpAnyIn_done (by kernel_rfl) ?_ _
          gi_wp2
          exact HF.out
  case done =>
    rintro D ys W hD hys hi hK
    obtain ⟨⟨v', es, hv, he, hce⟩, hB, hN⟩ := (HI.out _ _).1 hi
    have hc := hv.cell
    gi_wp2
    refine ⟨by simp, .inl ⟨_, _, rfl, run_takeDeferred hK, ?_⟩⟩
    refine ⟨_, results_tmp rfl _ _ _, v', es, rfl, ?_, ?_, ?_⟩
    · have h8 := he.kept (grownBy_putObj' W D (.deferred none)) (fun r hr => ⟨_, by cases hr; exact hK, rfl⟩)
      have hle : w.heap.size ≤ W0.heap.size := HBw.out.size
      exact ⟨h8.row.mono hle, h8.ins, fun e he => (h8.far e he).imp id fun ⟨b, off, e1, e2, e3⟩ => ⟨b, off, e1, Nat.le_trans hle e2, e3⟩⟩
    · rw [hce, hys]
    · exact hB.trans (belowK_b (w := w) (Nat.le_refl _) W D _ _ (Nat.le_trans HBw.out.size hD) hK rfl rfl)
  case stop =>
    rintro D c pre W hD hpre hix hK
    exact hix.elim
end Go.Proofs.Ytnnmigglcpkomaa.Dm

/- Entries of a method in hand, by what it holds. -/
set_option maxRecDepth 100000
namespace Go.Proofs.Ytnnmigglcpkomaa.Dm
open Go Go.RowKit

theorem may_tid2 {c : Et} (h : refusedE [1, 2, 3] c = 0) : 0 ≤ c.2 ∧ c.2 < 16777216 := by
  rw [refused_may] at h
  by_cases hm : mayE c = true
  · unfold mayE at hm
    rw [Bool.and_eq_true, decide_eq_true_eq] at hm
    exact hm.1
  · rw [if_neg hm] at h; cases h

theorem cmp_low {c : Et} (h : 0 ≤ c.2) : ¬ cmpH (hOf c) (⟨#[]⟩, 0) < 0 := by
  have h4 : cmpH (hOf c) (⟨#[]⟩, 0) = if Lib.compareBytes c.1.kb [] = 0 then cmpI c.2 0 else Lib.compareBytes c.1.kb [] := rfl
  rw [h4]
  cases c.1.kb with
  | nil =>
    rw [if_pos (show Lib.compareBytes [] [] = 0 by simp [Lib.compareBytes])]
    unfold cmpI
    split
    · omega
    · split <;> omega
  | cons x l => simp [Lib.compareBytes]

theorem entries_st {P : Nat} {S : Nat → Prop} {w : World} {l : List Et} (h : PlSt P S w l) (hl : l.length < 2199023255552) :
    Calls Try.prog 12 #[.pointer (some ⟨P, 0, none⟩)] w fun r w' => ∃ v es, r = .returned v ∧ EnSt w.heap.size w' v es ∧ consE es = l ∧ Below w.heap.size w w' := by
  obtain ⟨v, ss, hP, hF, hS⟩ := h.ex
  have hsrt : SrtH (Sh.lists ss).flatten := by rw [hF]; exact rise_srt h.good.rise
  refine callsIn_wide.1 (entries_in 4 (Nat.le_refl _) P v ss w l (fun c hc => ⟨h.good.fit c hc, ?_⟩) hP hsrt (by rw [hF, List.length_map]; exact hl) hl (fun i at' th hk => ?_))
  · have := may_tid2 (h.good.may c hc)
    exact ⟨by omega, by omega⟩
  · rw [seek_rest hk hsrt, hF, List.filter_eq_self]
    intro a ha
    obtain ⟨c, hc, rfl⟩ := List.mem_map.1 ha
    exact decide_eq_true (cmp_low (may_tid2 (h.good.may c hc)).1)
end Go.Proofs.Ytnnmigglcpkomaa.Dm

/- Two methods in hand beside one another: an entry is put into the one or the other; the entries of both. -/
set_option maxRecDepth 100000
namespace Go.Proofs.Ytnnmigglcpkomaa.Dm
open Go Go.RowKit

/-- Two methods, apart from one another, both made since w0. -/
def Tw (p q : Nat) (w0 : World) (l m : List Et) (W : World) : Prop :=
  ∃ S T, PlSt p S W l ∧ PlSt q T W m ∧ (∀ k, S k → ¬ T k) ∧ (∀ k, S k → w0.heap.size ≤ k) ∧ (∀ k, T k → w0.heap.size ≤ k) ∧ Below w0.heap.size w0 W
theorem Tw.swap {p q : Nat} {w0 W : World} {l m : List Et} (h : Tw p q w0 l m W) : Tw q p w0 m l W := by
  obtain ⟨S, T, h1, h2, h3, h4, h5, h6⟩ := h
  exact ⟨T, S, h2, h1, fun k hT hS => h3 k hS hT, h5, h4, h6⟩
theorem Tw.below {p q : Nat} {w0 W W' : World} {l m : List Et} (h : Tw p q w0 l m W) (hb : Below W.heap.size W W') : Tw p q w0 l m W' := by
  obtain ⟨S, T, h1, h2, h3, h4, h5, h6⟩ := h
  exact ⟨S, T, h1.below hb, h2.below hb, h3, h4, h5, h6.trans (hb.mono h6.size)⟩
theorem Tw.ins {p q : Nat} {w0 W : World} {l m : List Et} (h : Tw p q w0 l m W) {e : En} (hI : e.In W) (hl : l.length < 512) :
    Calls Try.prog 24 #[.pointer (some ⟨p, 0, none⟩), e.v] W fun r w' => r = .returned (.int .i64 (insR [1, 2, 3] l e.c)) ∧ Tw p q w0 (insL [1, 2, 3] l e.c) m w' := by
  obtain ⟨S, T, h1, h2, h3, h4, h5, h6⟩ := h
  refine (ins_st h1 (by omega) hI).mono ?_
  rintro r w' ⟨S', rfl, h7, hK, hS'⟩
  have hT := h2.bound
  have hw := h6.size
  refine ⟨rfl, S', T, h7, h2.frame (hK.mono (fun k hS => h3 k hS)), fun k hk hTk => ?_, fun k hk => ?_, h5, h6.trans (hK.toBelow hw h4)⟩
  · rcases hS' k hk with h8 | h8
    · exact h3 k h8 hTk
    · have := hT k hTk; omega
  · rcases hS' k hk with h8 | h8
    · exact h4 k h8
    · omega
theorem Tw.ins2 {p q : Nat} {w0 W : World} {l m : List Et} (h : Tw p q w0 l m W) {e : En} (hI : e.In W) (hm : m.length < 512) :
    Calls Try.prog 24 #[.pointer (some ⟨q, 0, none⟩), e.v] W fun r w' => r = .returned (.int .i64 (insR [1, 2, 3] m e.c)) ∧ Tw p q w0 l (insL [1, 2, 3] m e.c) w' :=
  (h.swap.ins hI hm).mono fun _ _ h => ⟨h.1, h.2.swap⟩

/-- Two that NewPlain gave, one behind the other. -/
theorem Tw.new {w0 w1 w2 : World} (h1 : PlSt w0.heap.size (fun k => k = w0.heap.size) w1 []) (hb1 : Below w0.heap.size w0 w1) (h2 : PlSt w1.heap.size (fun k => k = w1.heap.size) w2 []) (hb2 : Below w1.heap.size w1 w2) : Tw w0.heap.size w1.heap.size w0 [] [] w2 := by
  have hp := h1.bound w0.heap.size rfl
  exact ⟨_, _, h1.below hb2, h2, fun k hk hk2 => by omega, fun k hk => by omega, fun k hk => by omega, hb1.trans (hb2.mono hb1.size)⟩

theorem Tw.entries {p q : Nat} {w0 W : World} {l m : List Et} (h : Tw p q w0 l m W) (hl : l.length < 2199023255552) :
    Calls Try.prog 12 #[.pointer (some ⟨p, 0, none⟩)] W fun r w' => ∃ v es, r = .returned v ∧ EnSt W.heap.size w' v es ∧ consE es = l ∧ Below W.heap.size W w' ∧ Tw p q w0 l m w' := by
  obtain ⟨S, T, h1, h2, h3, h4, h5, h6⟩ := h
  refine (entries_st h1 hl).mono ?_
  rintro r w' ⟨v, es, rfl, h7, h8, hb⟩
  exact ⟨v, es, rfl, h7, h8, hb, S, T, h1.below hb, h2.below hb, h3, h4, h5, h6.trans (hb.mono h6.size)⟩

/-- What Entries hands out are entries that may be. -/
theorem EnSt.ens {N : Nat} {w : World} {a : Option Addr} {n c : Nat} {es : List En} (h : EnSt N w (.slice a n c) es) (hg : Goods [1, 2, 3] (consE es)) : EnsW w a es :=
  h.row.ens fun e he => ⟨h.ins e he, by
    have h1 := (hg.fit e.c (List.mem_map.2 ⟨e, he, rfl⟩)).1
    rw [← e.ok_d]
    exact h1⟩
end Go.Proofs.Ytnnmigglcpkomaa.Dm

/- Check and Drop of a method in hand; a method in hand as any method. -/
set_option maxRecDepth 100000
namespace Go.Proofs.Ytnnmigglcpkomaa.Dm
open Go Go.RowKit

set_option maxHeartbeats 400000 in
theorem check_st {P : Nat} {S : Nat → Prop} {w : World} {l : List Et} (h : PlSt P S w l) : Calls Try.prog 108 #[.pointer (some ⟨P, 0, none⟩)] w fun r w' => r = .returned (.bool true) ∧ w' = w := by
  obtain ⟨v, ss, hP, -, -⟩ := h.ex
  have HG := Lib.hid (given_yes P w hP.self)
  clear hP h
  go_enter Try.func108, Try.ntmps108
  go_wp2_with (go_at_call 27; refine (HG.out).mono ?_; rintro e w' ⟨rfl, rfl⟩)
  go_ret
  exact ⟨rfl, rfl⟩

set_option maxHeartbeats 400000 in
theorem pages_st (P : Nat) (w : World) : Calls Try.prog 14 #[.pointer (some ⟨P, 0, none⟩)] w fun r w' => r = .returned (.slice none 0 0) ∧ w' = w := by
  go_enter Try.func14, Try.ntmps14
  go_wp2
  go_ret
  exact ⟨rfl, rfl⟩

set_option maxHeartbeats 800000 in
theorem drop_st {P : Nat} {S : Nat → Prop} {w : World} {l : List Et} (h : PlSt P S w l) : Calls Try.prog 110 #[.pointer (some ⟨P, 0, none⟩)] w fun r w' => r = .returned (.int .i64 0) ∧ PlSt P (fun k => k = P) w' [] ∧ Kept S w w' ∧ S P := by
  obtain ⟨v, ss, hP, hF, hS⟩ := h.ex
  have HG := Lib.hid ((given_yes P w hP.self).mono (fun _ _ h => (⟨h.1, h.2.symm⟩ : _ ∧ w = _)))
  have c0 := hP.self
  have c1 := hP.rack.cell
  have f1 := hP.rack.cold
  have HP := Lib.hid ((hS P).1 (.inl rfl))
  have HL := Lib.hid hP.rack.lt
  clear hP hF hS h
  go_enter Try.func110, Try.ntmps110
  go_wp2_with (go_at_call 27; refine (HG.out).mono ?_; rintro e w' ⟨rfl, rfl⟩)
  go_ret
  have hlt := HL.out
  have d0 : (w.setCell ⟨P, 1, none⟩ (.slice none 0 0)).cell? ⟨P, 0, none⟩ = some (.pointer (some ⟨P, 0, none⟩)) := by
    rw [World.cell?_setCell_other _ _ _ _ (by intro h; cases h)]
    exact c0
  have d1 : (w.setCell ⟨P, 1, none⟩ (.slice none 0 0)).cell? ⟨P, 1, none⟩ = some (.slice none 0 0) := World.cell?_setCell_same' _ _ _ (by rw [c1]; rfl)
  have d2 : (w.setCell ⟨P, 1, none⟩ (.slice none 0 0)).frozen? ⟨P, 1, none⟩ = false := by rw [World.frozen?_setCell]; exact f1
  refine ⟨rfl, ⟨⟨.slice none 0 0, [], ⟨d0, ⟨d1, d2, World.ownsRow_nil _ _ _ _, fun s hs => (by cases hs), fun s hs => (by cases hs), by simp [Value.ownBlock], fun s hs => (by cases hs), List.Pairwise.nil⟩, fun s hs => (by cases hs)⟩, rfl, fun k => ?_⟩, Goods.nil _⟩, Kept.setCell S w HP.out _, HP.out⟩
  unfold bl
  simp [Value.ownBlock]

theorem EnSt.shape {N : Nat} {w : World} {v : Value} {es : List En} (h : EnSt N w v es) : ∃ a c, v = .slice a es.length c := by
  rcases h.row.2 with ⟨h1, h2⟩ | ⟨g, cap, _, h1, _⟩
  · exact ⟨none, 0, by rw [h1, h2]⟩
  · exact ⟨_, _, h1⟩

theorem refused_key (e : En) : refusedE [1, 2, 3] (e.d, 0) = if e.ok = true then 0 else 1 := by
  rw [refused_may]
  have : mayE (e.d, 0) = e.ok := by
    unfold mayE
    rw [← e.ok_d]
    show (decide (0 ≤ (0 : Int) ∧ (0 : Int) < 16777216) && e.d.ok) = e.d.ok
    simp
  rw [this]

theorem insL_len1 (kinds : List Int) (l : List Et) (c : Et) : (insL kinds l c).length ≤ l.length + 1 := by
  unfold insL
  split
  · rw [withE_length]; exact Nat.le_refl _
  · omega
theorem delL_length (kinds : List Int) (l : List Et) (c : Et) : (delL kinds l c).length ≤ l.length := by
  unfold delL withoutE
  split
  · exact List.length_filter_le _ _
  · exact Nat.le_refl _

/-- A method in hand behind i calls. -/
def PlI (P i : Nat) (S : Nat → Prop) (w : World) (l : List Et) : Prop := PlSt P S w l ∧ l.length ≤ i

theorem plain_meth (P : Nat) : Meth 23 (.pointer (some ⟨P, 0, none⟩)) [1, 2, 3] 2199023255540 (PlI P) 24 109 30 12 108 110 where
  mI := by intro W; kernel_rfl
  aI := by intro W; kernel_rfl
  eI := by intro args W; kernel_rfl
  mD := by intro W; kernel_rfl
  aD := by intro W; kernel_rfl
  eD := by intro args W; kernel_rfl
  mF := by intro W; kernel_rfl
  aF := by intro W; kernel_rfl
  eF := by intro args W; kernel_rfl
  mE := by intro W; kernel_rfl
  aE := by intro W; kernel_rfl
  eE := by intro args W; kernel_rfl
  mC := by intro W; kernel_rfl
  aC := by intro W; kernel_rfl
  eC := by intro args W; kernel_rfl
  mX := by intro W; kernel_rfl
  aX := by intro W; kernel_rfl
  eX := by intro args W; kernel_rfl
  bound := fun h => h.1.bound
  frame := fun h hk => ⟨h.1.frame hk, h.2⟩
  insert := by
    intro i S w l e h hi he
    refine (ins_st h.1 (by have := h.2; omega) he.now).mono ?_
    rintro r w' ⟨S', rfl, h1, h2, h3⟩
    exact ⟨S', rfl, ⟨h1, Nat.le_trans (insL_len1 _ _ _) (by have := h.2; omega)⟩, h2, h3⟩
  delete := by
    intro i S w l e h hi he
    refine (del_st h.1 (by have := h.2; omega) he.now).mono ?_
    rintro r w' ⟨S', rfl, h1, h2, h3⟩
    exact ⟨S', rfl, ⟨h1, Nat.le_trans (delL_length _ _ _) (by have := h.2; omega)⟩, h2, h3⟩
  find := by
    intro i S w l e h hi he
    refine (find_st h.1 (by have := h.2; omega) he.now).mono ?_
    rintro r w' ⟨v, rfl, hr, hb⟩
    obtain ⟨a, c, rfl⟩ := hr.shape
    refine ⟨S, _, _, by rw [refused_key], ⟨a, c, rfl, hr.ints, ?_⟩, ⟨h.1.below hb, by have := h.2; omega⟩, Kept.ofBelow hb, fun k hk => .inl hk⟩
    rw [refused_key]
    cases e.ok with
    | true => simp
    | false => simp
  entries := by
    intro i S w l h hi
    refine (entries_st h.1 (by have := h.2; omega)).mono ?_
    rintro r w' ⟨v, es, rfl, h1, h2, hb⟩
    obtain ⟨a, c, rfl⟩ := h1.shape
    exact ⟨S, a, c, es, rfl, h1.ens (by rw [h2]; exact h.1.good), h2, ⟨h.1.below hb, h.2⟩, Kept.ofBelow hb, fun k hk => .inl hk⟩
  check := by
    intro i S w l h hi
    refine (check_st h.1).mono ?_
    rintro r w' ⟨rfl, rfl⟩
    exact ⟨S, rfl, h, Kept.refl _ _, fun k hk => .inl hk⟩
  drop := by
    intro i S w l h hi
    refine (drop_st h.1).mono ?_
    rintro r w' ⟨rfl, h1, h2, h3⟩
    exact ⟨_, rfl, ⟨h1, Nat.zero_le _⟩, h2, fun k hk => .inl (by rw [hk]; exact h3)⟩
theorem plI_up {P i : Nat} {S : Nat → Prop} {w : World} {l : List Et} (h : PlI P i S w l) : PlI P (i + 1) S w l := ⟨h.1, by have := h.2; omega⟩
end Go.Proofs.Ytnnmigglcpkomaa.Dm

/- The turned order of a list takes in each of its places; what is put in either order is the same. -/
set_option maxRecDepth 100000
namespace Go.Proofs.Ytnnmigglcpkomaa.Dm
open Go Go.RowKit

/-- The place that the turned order comes to at step i. -/
def turn (n k i : Nat) : Nat := (n - 1 - i + k) % n
theorem turn_lt {n k i : Nat} (hn : 0 < n) : turn n k i < n := Nat.mod_lt _ hn
theorem turn_onto {n k t : Nat} (hk : k < n) (ht : t < n) : ∃ i, i < n ∧ turn n k i = t := by
  unfold turn
  by_cases h : k ≤ t
  · refine ⟨n - 1 + k - t, by omega, ?_⟩
    rw [show n - 1 - (n - 1 + k - t) + k = t by omega]
    exact Nat.mod_eq_of_lt ht
  · refine ⟨k - 1 - t, by omega, ?_⟩
    rw [show n - 1 - (k - 1 - t) + k = t + n by omega, Nat.add_mod_right]
    exact Nat.mod_eq_of_lt ht
/-- The place as the program reckons it. -/
theorem turn_mod {n k i : Nat} (hi : i < n) : ((n : Int) - 1 - (i : Int) + (k : Int)).tmod (n : Int) = (turn n k i : Int) := by
  unfold turn
  rw [show (n : Int) - 1 - (i : Int) + (k : Int) = ((n - 1 - i + k : Nat) : Int) by omega, Int.tmod_eq_emod_of_nonneg (by omega)]
  exact (Int.natCast_emod _ _).symm

/-- The entries in the turned order, the first j. -/
def turned (cs : List Et) (k j : Nat) : List Et := (List.range j).filterMap fun i => cs[turn cs.length k i]?
theorem turned_succ (cs : List Et) (k j : Nat) (h : turn cs.length k j < cs.length) : turned cs k (j + 1) = turned cs k j ++ [cs[turn cs.length k j]'h] := by
  unfold turned
  rw [List.range_succ, List.filterMap_append]
  simp [List.getElem?_eq_getElem h]
theorem turned_all {cs : List Et} {k : Nat} (hk : k < cs.length) (x : Et) : x ∈ cs ↔ x ∈ turned cs k cs.length := by
  unfold turned
  rw [List.mem_filterMap]
  constructor
  · intro h
    obtain ⟨t, ht, rfl⟩ := List.getElem_of_mem h
    obtain ⟨i, hi, e⟩ := turn_onto hk ht
    exact ⟨i, List.mem_range.2 hi, by rw [e, List.getElem?_eq_getElem ht]⟩
  · rintro ⟨i, -, h⟩
    exact List.mem_of_getElem? h
theorem turned_one {cs : List Et} {k : Nat} (hk : k < cs.length) (hc : ∀ c, c ∈ cs → c.1.nums) : putsE [1, 2, 3] (turned cs k cs.length) = putsE [1, 2, 3] cs :=
  (puts_one hc (fun x => turned_all hk x)).symm
theorem puts_snoc (kinds : List Int) (cs : List Et) (c : Et) : putsE kinds (cs ++ [c]) = insL kinds (putsE kinds cs) c := by
  unfold putsE
  rw [List.foldl_append]
  rfl
theorem insL_length (kinds : List Int) (l : List Et) (c : Et) : (insL kinds l c).length ≤ l.length + 1 := by
  unfold insL
  split
  · rw [withE_length]; exact Nat.le_refl _
  · omega
theorem puts_length (kinds : List Int) (cs : List Et) : (putsE kinds cs).length ≤ cs.length := by
  unfold putsE
  have : ∀ (cs l : List Et), (cs.foldl (insL kinds) l).length ≤ l.length + cs.length := by
    intro cs
    induction cs with
    | nil => exact fun l => Nat.le_refl _
    | cons c cs ih =>
      intro l
      have h1 := ih (insL kinds l c)
      have h2 := insL_length kinds l c
      rw [List.foldl_cons, List.length_cons]
      omega
  have := this cs []
  simpa using this
theorem turned_length (cs : List Et) (k j : Nat) : (turned cs k j).length ≤ j := by
  unfold turned
  refine Nat.le_trans (List.length_filterMap_le _ _) ?_
  rw [List.length_range]; exact Nat.le_refl _
end Go.Proofs.Ytnnmigglcpkomaa.Dm

/- What must come, whatever the arguments are (the laws' awake). -/
set_option maxRecDepth 100000
namespace Go.Proofs.Ytnnmigglcpkomaa.Dm
open Go Go.RowKit

/-- The law's own key lies in block bk. -/
def KC (bk : Nat) (W : World) : Prop := W.cell? ⟨bk, 0, none⟩ = some (.int .i64 1) ∧ W.cell? ⟨bk, 1, none⟩ = some (.int .i64 5) ∧ W.cell? ⟨bk, 2, none⟩ = some (.string ⟨#[]⟩) ∧ W.cell? ⟨bk, 3, none⟩ = some (.slice none 0 0)
theorem KC.of_block {bk : Nat} {W W' : World} (h : KC bk W) (hb : W'.heap[bk]? = W.heap[bk]?) : KC bk W' :=
  ⟨(World.cell?_of_block (w := W) (a := ⟨bk, 0, none⟩) hb).trans h.1, (World.cell?_of_block (w := W) (a := ⟨bk, 1, none⟩) hb).trans h.2.1, (World.cell?_of_block (w := W) (a := ⟨bk, 2, none⟩) hb).trans h.2.2.1, (World.cell?_of_block (w := W) (a := ⟨bk, 3, none⟩) hb).trans h.2.2.2⟩

/-- Awake on its way: the method holds l. -/
def Aw (B P bk : Nat) (w0 : World) (l : List Et) (W : World) : Prop := ∃ S, PlSt P S W l ∧ (∀ k, S k → B ≤ k ∧ k ≠ bk) ∧ KC bk W ∧ bk < W.heap.size ∧ Below B w0 W

def e5 (t : Int) : En := ⟨1, 5, ⟨#[]⟩, none, [], 0, t⟩
theorem e5_in (t : Int) (ht : I64 t) (W : World) : (e5 t).In W := ⟨.inl rfl, (show I64 5 from ⟨by decide, by decide⟩), fun x hx => (by cases hx), ht⟩
theorem e5_c (t : Int) : (e5 t).c = ((1, 5, ⟨#[]⟩, []), t) := rfl

theorem aw_ins {B P bk : Nat} {w0 W : World} {l : List Et} (h : Aw B P bk w0 l W) (hB : B ≤ W.heap.size) (t : Int) (ht : I64 t) (hl : l.length < 512) :
    Calls Try.prog 24 #[.pointer (some ⟨P, 0, none⟩), (e5 t).v] W fun r w' => r = .returned (.int .i64 (insR [1, 2, 3] l (e5 t).c)) ∧ Aw B P bk w0 (insL [1, 2, 3] l (e5 t).c) w' ∧ KC bk w' ∧ B ≤ w'.heap.size := by
  obtain ⟨S, hp, hS, hk, hbk, hb⟩ := h
  refine (ins_st hp (by omega) (e5_in t ht W)).mono ?_
  rintro r w' ⟨S', rfl, hp', hK, hS'⟩
  have hkc := hk.of_block (hK.block bk hbk (fun h => (hS bk h).2 rfl))
  refine ⟨rfl, ⟨S', hp', fun k hk => ?_, hkc, Nat.lt_of_lt_of_le hbk hK.size, hb.trans (hK.toBelow hB (fun k hk => (hS k hk).1))⟩, hkc, Nat.le_trans hB hK.size⟩
  rcases hS' k hk with h1 | h1
  · exact hS k h1
  · exact ⟨by omega, by omega⟩

theorem ok5 : dOk 1 5 ⟨#[]⟩ [] = true := by
  unfold dOk
  rw [if_neg (by decide)]
  exact itemOk_of ⟨by decide, .inl ⟨rfl, by rw [ByteArray.toList_eq]; rfl⟩⟩
theorem may5 (t : Int) (h0 : 0 ≤ t) (h1 : t < 16777216) : refusedE [1, 2, 3] (e5 t).c = 0 := by
  rw [refused_may]
  have : mayE (e5 t).c = true := by
    unfold mayE
    rw [Bool.and_eq_true, decide_eq_true_eq]
    exact ⟨⟨h0, h1⟩, by rw [show (e5 t).c.1.ok = (e5 t).ok from (e5 t).ok_d]; exact ok5⟩
  rw [this]
  rfl
theorem l1 : insR [1, 2, 3] [] (e5 1).c = 0 ∧ insL [1, 2, 3] [] (e5 1).c = [(e5 1).c] := by
  have h : insR [1, 2, 3] [] (e5 1).c = 0 := by unfold insR; rw [may5 1 (by decide) (by decide)]; rfl
  exact ⟨h, by unfold insL; rw [h]; rfl⟩
theorem e5_ne : (e5 0).c ≠ (e5 1).c := fun h => by have := congrArg Prod.snd h; revert this; decide
theorem l2 : insR [1, 2, 3] [(e5 1).c] (e5 0).c = 0 ∧ insL [1, 2, 3] [(e5 1).c] (e5 0).c = [(e5 0).c, (e5 1).c] := by
  have hn : (e5 0).c ∉ [(e5 1).c] := fun h => e5_ne (List.mem_singleton.1 h)
  have h : insR [1, 2, 3] [(e5 1).c] (e5 0).c = 0 := by unfold insR; rw [may5 0 (by decide) (by decide), if_pos rfl, if_neg hn]
  refine ⟨h, ?_⟩
  unfold insL
  rw [h, if_pos rfl, withE_cons, if_pos]
  exact ahead_iff.2 (.inr ⟨rfl, by decide⟩)
theorem l3 : insR [1, 2, 3] [(e5 0).c, (e5 1).c] (e5 0).c = 160 ∧ insL [1, 2, 3] [(e5 0).c, (e5 1).c] (e5 0).c = [(e5 0).c, (e5 1).c] := by
  have h : insR [1, 2, 3] [(e5 0).c, (e5 1).c] (e5 0).c = 160 := by unfold insR; rw [may5 0 (by decide) (by decide), if_pos rfl, if_pos (by simp)]
  exact ⟨h, by unfold insL; rw [h]; rfl⟩

/-- Three Inserts, one behind the other. -/
theorem three {B P bk : Nat} {w0 W : World} (h : Aw B P bk w0 [] W) (hB : B ≤ W.heap.size) :
    Calls Try.prog 24 #[.pointer (some ⟨P, 0, none⟩), (e5 1).v] W fun r w1 => r = .returned (.int .i64 0) ∧ KC bk w1 ∧
      Hid (Calls Try.prog 24 #[.pointer (some ⟨P, 0, none⟩), (e5 0).v] w1 fun r w2 => r = .returned (.int .i64 0) ∧ KC bk w2 ∧
        Hid (Calls Try.prog 24 #[.pointer (some ⟨P, 0, none⟩), (e5 0).v] w2 fun r w3 => r = .returned (.int .i64 160) ∧ KC bk w3 ∧ Hid (Aw B P bk w0 [(e5 0).c, (e5 1).c] w3 ∧ B ≤ w3.heap.size))) := by
  refine (aw_ins h hB 1 ⟨by decide, by decide⟩ (by decide)).mono ?_
  rintro r w1 ⟨rfl, h1, hk1, hb1⟩
  rw [l1.2] at h1
  refine ⟨by rw [l1.1], hk1, Lib.hid ?_⟩
  refine (aw_ins h1 hb1 0 ⟨by decide, by decide⟩ (by simp)).mono ?_
  rintro r w2 ⟨rfl, h2, hk2, hb2⟩
  rw [l2.2] at h2
  refine ⟨by rw [l2.1], hk2, Lib.hid ?_⟩
  refine (aw_ins h2 hb2 0 ⟨by decide, by decide⟩ (by simp)).mono ?_
  rintro r w3 ⟨rfl, h3, hk3, hb3⟩
  rw [l3.2] at h3
  exact ⟨by rw [l3.1], hk3, Lib.hid ⟨h3, hb3⟩⟩

theorem find5 : findE [(e5 0).c, (e5 1).c] (e5 0).d = [0, 1] := by
  have h : ∀ t, ((e5 t).c.1 = (e5 0).d) = True := fun t => eq_true rfl
  unfold findE
  simp only [List.filter_cons, List.filter_nil, h, decide_true, if_true, List.map_cons, List.map_nil]
  rfl

set_option maxHeartbeats 3200000 in
theorem awake_any (w : World) : Calls Try.prog 15 #[] w fun r w' => r = .returned (.bool true) ∧ Below w.heap.size w w' := by
  go_enter Try.func15, Try.ntmps15
  go_wp2_with fail
  refine (newPlain_any w).mono ?_
  rintro r w1 ⟨rfl, hp, hb⟩
  obtain ⟨P, hP⟩ : ∃ P, P = w.heap.size := ⟨_, rfl⟩
  rw [← hP] at hp
  have hPl : P < w1.heap.size := hp.bound P rfl
  have hAW : Aw w.heap.size P w1.heap.size w [] ((w1.alloc (.cells #[.int .i64 1, .int .i64 5, .string ⟨#[]⟩, .slice none 0 0] 33)).drew) := by
    have hb1 : Below w1.heap.size w1 ((w1.alloc (.cells #[.int .i64 1, .int .i64 5, .string ⟨#[]⟩, .slice none 0 0] 33)).drew) := ((Below.refl _ _).alloc (Nat.le_refl _) _).drew
    refine ⟨_, hp.below hb1, fun k hk => ⟨by rw [hk, hP]; exact Nat.le_refl _, by rw [hk]; omega⟩, ?_, by simp, hb.trans (hb1.mono hb.size)⟩
    unfold KC
    refine ⟨?_, ?_, ?_, ?_⟩ <;> (show World.cell? (World.alloc _ _) _ = _; simp)
  have HT := Lib.hid (three hAW (by have := hb.size; simp; omega))
  obtain ⟨bk, hbk⟩ : ∃ bk, bk = w1.heap.size := ⟨_, rfl⟩
  have HB := Lib.hid hb
  obtain ⟨-, -, -, ⟨k0, k1, k2, k3⟩, -, -⟩ := hAW
  rw [← hP]
  clear hp hP hb
  go_wp2_with fail
  rw [← hbk] at HT k0 k1 k2 k3 ⊢
  obtain ⟨W0, hW0⟩ : ∃ W0, W0 = w1.alloc (.cells #[.int .i64 1, .int .i64 5, .string ⟨#[]⟩, .slice none 0 0] 33) := ⟨_, rfl⟩
  rw [← hW0] at HT k0 k1 k2 k3 ⊢
  clear hW0
  have HBK := Lib.hid hbk
  clear hbk
  have HS0 : Hid (KC bk W0.drew) := Lib.hid ⟨k0, k1, k2, k3⟩
  refine wp_region_held_drew (S := fun W => KC bk W) (by kernel_rfl) HS0.out (fun hHeld => ?_)
  refine wpAnyH_take (i := 0) (v := .pointer (some ⟨P, 0, none⟩)) rfl (by kernel_rfl) (by kernel_rfl) (by kernel_rfl) (fun _ _ _ h => h) (Or.inl ⟨by first | rfl | (unfold Region.wanted yielded; go_simp), fun W hW => by clear hW; go_simp⟩) HS0.out ?_
  refine wpAnyH_take (i := 1) (v := .agg #[.int .i64 1, .int .i64 5, .string ⟨#[]⟩, .slice none 0 0]) rfl (by kernel_rfl) (by kernel_rfl) (by kernel_rfl) (fun _ _ _ h => h) (Or.inl ⟨by first | rfl | (unfold Region.wanted yielded; go_simp), fun W hW => by obtain ⟨q0, q1, q2, q3⟩ := hW; go_simp⟩) HS0.out ?_
  refine wpAnyH_take (i := 2) (v := .agg #[.int .i64 1, .int .i64 5, .string ⟨#[]⟩, .slice none 0 0, .int .i64 1]) rfl (by kernel_rfl) (by kernel_rfl) (by kernel_rfl) (fun _ _ _ h => h) (Or.inl ⟨by first | rfl | (unfold Region.wanted yielded; go_simp), fun W hW => by clear hW; go_simp⟩) HS0.out ?_
  refine wpAnyH_take (i := 4) (v := .pointer (some ⟨P, 0, none⟩)) rfl (by kernel_rfl) (by kernel_rfl) (by kernel_rfl) (fun _ _ _ h => h) (Or.inl ⟨by first | rfl | (unfold Region.wanted yielded; go_simp), fun W hW => by clear hW; go_simp⟩) HS0.out ?_
  refine wpAnyH_take (i := 5) (v := .agg #[.int .i64 1, .int .i64 5, .string ⟨#[]⟩, .slice none 0 0]) rfl (by kernel_rfl) (by kernel_rfl) (by kernel_rfl) (fun _ _ _ h => h) (Or.inl ⟨by first | rfl | (unfold Region.wanted yielded; go_simp), fun W hW => by obtain ⟨q0, q1, q2, q3⟩ := hW; go_simp⟩) HS0.out ?_
  refine wpAnyH_take (i := 6) (v := .agg #[.int .i64 1, .int .i64 5, .string ⟨#[]⟩, .slice none 0 0, .int .i64 0]) rfl (by kernel_rfl) (by kernel_rfl) (by kernel_rfl) (fun _ _ _ h => h) (Or.inl ⟨by first | rfl | (unfold Region.wanted yielded; go_simp), fun W hW => by clear hW; go_simp⟩) HS0.out ?_
  refine wpAnyH_take (i := 8) (v := .pointer (some ⟨P, 0, none⟩)) rfl (by kernel_rfl) (by kernel_rfl) (by kernel_rfl) (fun _ _ _ h => h) (Or.inl ⟨by first | rfl | (unfold Region.wanted yielded; go_simp), fun W hW => by clear hW; go_simp⟩) HS0.out ?_
  refine wpAnyH_take (i := 9) (v := .agg #[.int .i64 1, .int .i64 5, .string ⟨#[]⟩, .slice none 0 0]) rfl (by kernel_rfl) (by kernel_rfl) (by kernel_rfl) (fun _ _ _ h => h) (Or.inl ⟨by first | rfl | (unfold Region.wanted yielded; go_simp), fun W hW => by obtain ⟨q0, q1, q2, q3⟩ := hW; go_simp⟩) HS0.out ?_
  refine wpAnyH_take (i := 10) (v := .agg #[.int .i64 1, .int .i64 5, .string ⟨#[]⟩, .slice none 0 0, .int .i64 0]) rfl (by kernel_rfl) (by kernel_rfl) (by kernel_rfl) (fun _ _ _ h => h) (Or.inl ⟨by first | rfl | (unfold Region.wanted yielded; go_simp), fun W hW => by clear hW; go_simp⟩) HS0.out ?_
  refine wpAnyH_ready (rs := [3]) (by kernel_rfl) (by simp) ?_
  refine AllReadyH.cons rfl (fun K hK => ?_) AllReadyH.nil
  go_simp
  go_at_call 24
  refine HT.out.mono ?_
  rintro r w2 ⟨rfl, hs2, HT2⟩
  refine hK.out _ _ hs2 (fun _ => ?_)
  clear hK K
  have HS2 := Lib.hid hs2
  clear hs2 HT
  refine wpAnyH_ready (rs := [7]) (by kernel_rfl) (by simp) ?_
  refine AllReadyH.cons rfl (fun K hK => ?_) AllReadyH.nil
  go_simp
  go_at_call 24
  refine HT2.out.mono ?_
  rintro r w3 ⟨rfl, hs3, HT3⟩
  refine hK.out _ _ hs3 (fun _ => ?_)
  clear hK K
  have HS3 := Lib.hid hs3
  clear hs3 HT2
  refine wpAnyH_ready (rs := [11]) (by kernel_rfl) (by simp) ?_
  refine AllReadyH.cons rfl (fun K hK => ?_) AllReadyH.nil
  go_simp
  go_at_call 24
  refine HT3.out.mono ?_
  rintro r w4 ⟨rfl, hs4, HFIN⟩
  refine hK.out _ _ hs4 (fun _ => ?_)
  clear hK K
  have HS4 := Lib.hid hs4
  clear hs4 HT3
  refine wpAnyH_take (i := 12) (v := .int .i64 0) rfl (by kernel_rfl) (by kernel_rfl) (by kernel_rfl) (fun _ _ _ h => h) (Or.inl ⟨by first | rfl | (unfold Region.wanted yielded; go_simp), fun W hW => by clear hW; go_simp⟩) HS4.out ?_
  refine wpAnyH_take (i := 13) (v := .int .i64 0) rfl (by kernel_rfl) (by kernel_rfl) (by kernel_rfl) (fun _ _ _ h => h) (Or.inl ⟨by first | rfl | (unfold Region.wanted yielded; go_simp), fun W hW => by clear hW; go_simp⟩) HS4.out ?_
  refine wpAnyH_take (i := 14) (v := .int .i64 160) rfl (by kernel_rfl) (by kernel_rfl) (by kernel_rfl) (fun _ _ _ h => h) (Or.inl ⟨by first | rfl | (unfold Region.wanted yielded; go_simp), fun W hW => by clear hW; go_simp⟩) HS4.out ?_
  refine wpAnyH_done (by kernel_rfl) ?_ _
  clear hHeld HS0 HS2 HS3 k0 k1 k2 k3
  obtain ⟨c0, c1, c2, c3⟩ := HS4.out
  obtain ⟨⟨S, hp, hS, -, -, hb4⟩, hB4⟩ := HFIN.out
  have HFD : Hid (Calls Try.prog 30 #[.pointer (some ⟨P, 0, none⟩), .agg #[.int .i64 1, .int .i64 5, .string ⟨#[]⟩, .slice none 0 0]] w4 fun r w' => ∃ g c, r = .returned (.tuple #[.slice (some ⟨g, 0, none⟩) 2 c, .int .i64 0]) ∧ w'.cell? ⟨g, 0, none⟩ = some (.int .i64 0) ∧ w'.cell? ⟨g, 1, none⟩ = some (.int .i64 1) ∧ Hid (PlSt P S w' [(e5 0).c, (e5 1).c] ∧ Below w4.heap.size w4 w')) := Lib.hid (by
    refine (find_st (e := e5 0) hp (by simp) (e5_in 0 ⟨by decide, by decide⟩ w4)).mono ?_
    rintro r w' ⟨v, rfl, hr, hbw⟩
    have ho : (e5 0).ok = true := ok5
    rw [if_pos ho, find5] at hr
    obtain ⟨g, c, rfl⟩ := ownsRow_some hr
    rw [if_pos ho]
    have hcell := World.ownsRow.cells hr (g := g) rfl
    have r0 := hcell 0 (.int .i64 0) rfl
    have r1 := hcell 1 (.int .i64 1) rfl
    exact ⟨g, c, rfl, by simpa [Addr.add_lit] using r0, by simpa [Addr.add_lit] using r1, Lib.hid ⟨hp.below hbw, hbw⟩⟩)
  have HB4 := Lib.hid hb4
  clear hp hS hb4 hB4 HFIN HS4
  go_wp2_with fail
  refine HFD.out.mono ?_
  rintro r w5 ⟨g, c, rfl, r0, r1, H5⟩
  have HNM := Lib.hid (name_st H5.out.1)
  clear HFD
  go_wp2_with (go_at_call 23; refine (HNM.out).mono ?_; rintro e w' ⟨rfl, rfl⟩)
  go_ret
  exact ⟨rfl, HB4.out.trans (H5.out.2.mono HB4.out.size)⟩
end Go.Proofs.Ytnnmigglcpkomaa.Dm
