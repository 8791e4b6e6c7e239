/- A range over a map to nothing; maps.Copy of such maps; put of any page; the new set under two. -/
import Derived.Test.YtpjpkpbfbbpmdaaDoorTSK
set_option maxRecDepth 100000
namespace Go.Proofs.YtpjpkpbfbbpmdaaDoor.Ts
open Go Go.RowKit Go.Maps

section
variable {H : Type} {P : Program} (w : World) {ops : Array Oper} {rest : List Oper} {o : Oper} {a : Act} {Q : Exit → Act → World → Prop}
/-- The step of a range over a map of ints to nothing. -/
theorem wpList_next_iu (hg : o.guard = none) (it : Operand) (hop : o.op = Op.next it false) (k : TypeId) (K : Keyed P k) (hk : P.underlying k = some (.int .i64))
    (b r n : Nat) (D : DataW H) (left : Lit → Bool) (cnt : Nat) (hit : a.eval it = .pointer (some ⟨r, 0, none⟩)) (h : w.ranges P k unitElem b r n D left cnt)
    (hDone : cnt = 0 → (∀ kl, left kl = false) → wpList P ops Q rest (a.put o.dst (.tuple #[.bool false])) w)
    (hMore : ∀ (x : Int) (d : DataW H) (w' : World) (cnt' : Nat), (Lit.int .i64 x).wf = true → left (.int .i64 x) = true → (∀ zd, D.atKey (.int .i64 x) zd = d) → w'.ranges P k unitElem b r n D (fun z => left z && !z.sameKey (.int .i64 x)) cnt' → cnt' < cnt →
      w.grownBy w' (some r) → w'.heap.size = w.heap.size → (Instr.entry (.pointer (some ⟨r, 0, none⟩))).run P w' = .ok (.tuple #[.int .i64 x, .agg #[]]) w' → wpList P ops Q rest (a.put o.dst (.tuple #[.bool true, .int .i64 x, .agg #[]])) w') :
    wpList P ops Q (o :: rest) a w :=
  wpList_next_ranges w hg it hop k K unitElem (Value.int .i64) (fun _ : Unit => Value.agg #[]) (fun key kl hkey => by obtain ⟨x, rfl, _⟩ := Maps.keyOf_int_inv hk hkey; exact ⟨x, rfl⟩) (fun v y hv => ⟨(), (unitElem_inv hv).1⟩)
    b r n D left cnt hit h hDone (fun x c kl y w' cnt' hkey hlk hv hat hrg hlt hgr hsz hen => by
      obtain ⟨x', ex, rfl, hwx⟩ := Maps.keyOf_int_inv hk hkey
      cases ex
      exact hMore x y.1 w' cnt' hwx hlk hat hrg hlt hgr hsz hen)
end

/-- A range under way goes on while other blocks are written. -/
theorem ranges_block {H : Type} {P : Program} {k : TypeId} {R : Value → Option (DataW H × List MemPlace)} {w w' : World} {b r n : Nat} {D : DataW H} {left : Lit → Bool} {cnt : Nat} (h : w.ranges P k R b r n D left cnt) (hb : w'.heap[b]? = w.heap[b]?) (hr : w'.heap[r]? = w.heap[r]?) : w'.ranges P k R b r n D left cnt := by
  obtain ⟨es, clock, since, seen, c0, h1, F, hs, hD, h2, rest⟩ := h
  exact ⟨es, clock, since, seen, c0, hb.trans h1, F, hs, hD, hr.trans h2, rest⟩
theorem Kept.ofGrownR {S : Nat → Prop} {w a b : World} {r : Nat} (h : Kept S w a) (hg : a.grownBy b (some r)) (hr : w.heap.size ≤ r) : Kept S w b :=
  h.trans (Kept.ofGrown (S := fun k => k = r) hg (fun k e => by injection e with e; exact e.symm)) (fun k e => .inr (by omega))

/-- Put, whatever page it is. -/
def PutPost (b be bw most : Nat) (T P : List Nat) (q x : Nat) (w w' : World) : Prop :=
  ∃ T', SetAt w' b be bw most T' P ∧ Raw T' P ∧ (∀ t, t ∈ T' ↔ t ∈ T ∨ q ∉ P ∧ t / 64 = q ∧ x.testBit (t % 64) = true) ∧ Kept (Own b be bw) w w'
theorem put_st {w : World} {b be bw most : Nat} {T P : List Nat} (h : SetAt w b be bw most T P) (hR : Raw T P) (q x : Nat) (hq : q < 262144) (hx : x < 18446744073709551616) (hx0 : x ≠ 0) :
    Calls Tryd.prog 26 #[.pointer (some ⟨b, 0, none⟩), .int .i64 q, .int .u64 x] w fun e w' => e = .returned (.tuple #[]) ∧ PutPost b be bw most T P q x w w' := by
  by_cases hp : q ∈ P
  · exact (put_there h q x hq hp).mono fun e w' ⟨h1, h2⟩ => ⟨h1, T, h.below h2, hR, fun t => ⟨.inl, fun e => e.elim id (fun e => absurd hp e.1)⟩, Kept.ofBelow h2⟩
  · refine (put_out h hR q x hq hp hx hx0).mono fun e w' ⟨h1, h2, h3⟩ => ⟨h1, _, h2, ⟨srt_putT hR.st _ _, hR.sp, fun t ht => ?_, hR.pl, fun t ht hP => ?_⟩, fun t => ?_, h3⟩
    · rcases mem_putT.1 ht with ht | ⟨e, _⟩
      · exact hR.tl t ht
      · omega
    · rcases mem_putT.1 ht with ht | ⟨e, _⟩
      · exact hR.apart t ht hP
      · rw [e] at hP; exact hp hP
    · rw [mem_putT]
      exact ⟨fun e => e.imp id (fun e => ⟨hp, e⟩), fun e => e.imp id (fun e => e.2)⟩

/-- Copy: the pages of both. -/
def CopyPost (bd : Nat) (Pd Ps : List Nat) (w w' : World) : Prop := ∃ P', Srt P' ∧ (∀ q, q ∈ P' ↔ q ∈ Pd ∨ q ∈ Ps) ∧ MapIs rdU w' bd (whF P') ∧ Kept (fun k => k = bd) w w'
set_option maxHeartbeats 1600000 in
theorem copy_any {w : World} {bd bs : Nat} {Pd Ps : List Nat} (hd : MapIs rdU w bd (whF Pd)) (hs : MapIs rdU w bs (whF Ps)) (hne : bd ≠ bs) (h1 : Srt Pd) (h2 : ∀ p ∈ Pd, p < 262144) (h3 : ∀ p ∈ Ps, p < 262144) :
    Calls Tryd.prog 28 #[.map (some bd), .map (some bs)] w fun e w' => e = .returned (.tuple #[]) ∧ CopyPost bd Pd Ps w w' := by
  obtain ⟨D, hown, h4⟩ := hs
  have HR : Hid (Reads D (whF Ps)) := Lib.hid h4
  have H3 := Lib.hid h3
  have HD := Lib.hid hd
  have HP0 : Hid (∀ q, q ∈ Pd ↔ q ∈ Pd ∨ q ∈ Ps ∧ Maps.has D (.int .i64 (q : Int)) = false) := Lib.hid fun q => ⟨.inl, fun e => e.elim id (fun e => by rw [Reads.hasWh h4 h3 e.1] at e; cases e.2)⟩
  have H1 := Lib.hid h1
  have H2 := Lib.hid h2
  have hdl := hd.lt
  clear hd h4 h1 h2 h3
  go_enter Tryd.func28, Tryd.ntmps28
  go_wp2_with (first
    | (at_range; refine wpList_range_own _ rfl _ 43 rfl 3 53 keyI Tryd.underlying43 _ bs _ _ rfl hown ?_; intro w0 hrg0 hg0 hs0)
    | go_in)
  go_frame
  go_loopw [4] (fun _ wr => ∃ (left : Lit → Bool) (cn : Nat) (P1 : List Nat), wr.ranges Tryd.prog 3 rdU bs w.heap.size (Maps.size D) D left cn ∧ Hid (Srt P1) ∧ Hid (∀ p ∈ P1, p < 262144) ∧ Hid (∀ q, q ∈ P1 ↔ q ∈ Pd ∨ q ∈ Ps ∧ left (.int .i64 (q : Int)) = false) ∧ Hid (MapIs rdU wr bd (whF P1)) ∧ Hid (Kept (fun k => k = bd) w wr))
    (fun _ wr => wr.rangeLeft bs w.heap.size)
  case atStart => exact ⟨_, _, Pd, hrg0, H1, H2, HP0, Lib.hid (HD.out.block (hg0.block bd hdl (by simp))), Lib.hid (Kept.ofGrown hg0 (fun k e => by cases e))⟩
  case round =>
    obtain ⟨left, cn, P1, hrg, HS1, HL1, HM1, HI1, HK1⟩ := hrel
    go_wp2_with (first
      | (at_next; refine wpList_next_iu _ rfl _ rfl 3 keyI Tryd.underlying3 bs w.heap.size _ _ _ _ rfl hrg ?_ ?_)
      | go_in)
    · intro _ hl0
      have HE : Hid (CopyPost bd Pd Ps w wr) := Lib.hid ⟨P1, HS1.out, fun q => by rw [HM1.out]; exact ⟨fun e => e.imp id (fun e => e.1), fun e => e.imp id (fun e => ⟨e, hl0 _⟩)⟩, HI1.out, HK1.out⟩
      clear hl0
      go_wp2
      go_end0
      exact ⟨rfl, HE.out⟩
    · intro x d w1 cn1 hwx hlx hat hrg1 hlt hg1 hs1 hen
      obtain ⟨q, rfl, hq, hq0⟩ := HR.out.eWh H3.out hwx hat
      have hrw := hrg.lt
      have hsz : w.heap.size ≤ wr.heap.size := HK1.out.size
      have hrb : bd ≠ w.heap.size := by omega
      have hI2 : MapIs rdU w1 bd (whF P1) := HI1.out.block (hg1.block bd HI1.out.lt (by simp; omega))
      have hbl2 : Below w1.heap.size w1 (w1.alloc (.cells #[] 53)) := (Below.refl _ _).alloc (Nat.le_refl _) _
      obtain ⟨w3, hr3, hm3, ht3⟩ := (hI2.block (w' := w1.alloc (.cells #[] 53)) (hbl2.block bd hI2.lt)).putU HL1.out q hq
      have hk1 : Kept (fun k => k = bd) w w1 := Kept.ofGrownR HK1.out hg1 (Nat.le_refl _)
      have hz1 := hk1.size
      have HK3 : Hid (Kept (fun k => k = bd) w w3) := Lib.hid ((hk1.trans (Kept.ofBelow (S := fun _ => False) hbl2) (fun _ e => e.elim)).trans (Kept.ofTurned (S := fun k => k = bd) ht3 rfl) (fun _ e => .inl e))
      have hb3 : ∀ k, k < w1.heap.size → k ≠ bd → w3.heap[k]? = w1.heap[k]? := fun k e1 e2 => (ht3.grown.block k (Nat.lt_of_lt_of_le e1 hbl2.size) (by simp; exact e2)).trans (hbl2.block k e1)
      have hrl1 := hrg1.lt
      have hbsl := hrg1.owns.lt
      have hrg3 := ranges_block hrg1 (hb3 bs hbsl (fun e => hne e.symm)) (hb3 _ hrl1 (fun e => hrb e.symm))
      have HM : Hid (w3.rangeLeft bs w.heap.size < wr.rangeLeft bs w.heap.size) := Lib.hid (by rw [hrg3.left_eq, hrg.left_eq]; exact hlt)
      have HRG := Lib.hid hrg3
      have HI3 := Lib.hid hm3
      have HM3 : Hid (∀ p, p ∈ ins q P1 ↔ p ∈ Pd ∨ p ∈ Ps ∧ (fun z => left z && !z.sameKey (.int .i64 (q : Int))) (.int .i64 (p : Int)) = false) := Lib.hid fun p => by
        simp only [strike_int]
        rw [mem_ins, HM1.out]
        by_cases e : p = q
        · subst e; simp [hq0]
        · simp [e]
      have HS3 := Lib.hid (srt_ins (x := q) HS1.out)
      have HL3 : Hid (∀ p ∈ ins q P1, p < 262144) := Lib.hid fun p hp => (mem_ins.1 hp).elim (fun e => e ▸ hq) (HL1.out p)
      clear hat hlx hwx hrg hrg1 hlt hg1 hs1 hrw hsz hrb hI2 hbl2 hm3 ht3 hk1 hz1 hb3 hrl1 hbsl hrg3 hq0 HS1 HL1 HM1 HI1 HK1
      go_wp2
      go_roundw
      case rel => exact ⟨_, _, _, HRG.out, HS3, HL3, HM3, HI3, HK3⟩
      case measure => exact HM.out
end Go.Proofs.YtpjpkpbfbbpmdaaDoor.Ts
