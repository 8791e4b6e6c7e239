/- And. -/
import Derived.Test.YtpjpkpbfbbpmdaaDoorTSP
set_option maxRecDepth 100000
namespace Go.Proofs.YtpjpkpbfbbpmdaaDoor.Ts
open Go Go.RowKit Go.Maps

theorem below_grown {B r : Nat} {a b c : World} (h : Below B a b) (hg : b.grownBy c (some r)) (hr : B ≤ r) (hB : B ≤ b.heap.size) : Below B a c :=
  ⟨hg.os.trans h.os, hg.tape.trans h.tape, hg.output.trans h.output, Nat.le_trans h.size hg.size, fun k hk => (hg.block k (Nat.lt_of_lt_of_le hk hB) (by simp; omega)).trans (h.block k hk)⟩
theorem grown_none {a b : World} (hg : a.grownBy b none) : Below a.heap.size a b := ⟨hg.os, hg.tape, hg.output, hg.size, fun k hk => hg.block k hk (by simp)⟩
theorem StAt.lts {w : World} {b be bw : Nat} {s : Tset} (h : StAt w b be bw s) : b < w.heap.size ∧ be < w.heap.size ∧ bw < w.heap.size := ⟨h.at_.lt, h.at_.ex.lt, h.at_.wh.lt⟩
/-- Blocks below B are as they were. -/
theorem StAt.old {w w' : World} {B b be bw : Nat} {s : Tset} (h : StAt w b be bw s) (hb : Below B w w') (h1 : b < B) (h2 : be < B) (h3 : bw < B) : StAt w' b be bw s := h.blocks (hb.block b h1) (hb.block be h2) (hb.block bw h3)

/-- A set out of two. -/
def MixPost (R : Tset → Prop) (w : World) (e : Ending) (w' : World) : Prop :=
  ∃ sb se sw s, e = .returned (.tuple #[.pointer (some ⟨sb, 0, none⟩), .int .i64 0]) ∧ StAt w' sb se sw s ∧ R s ∧ Below w.heap.size w w' ∧ w.heap.size ≤ sb ∧ w.heap.size ≤ se ∧ w.heap.size ≤ sw

/-- What at tells. -/
def atV (s : Tset) (q : Nat) : Nat := if q ∈ s.P then 18446744073709551615 else pl s.T q
theorem atV_lt (s : Tset) (q : Nat) : atV s q < 18446744073709551616 := by
  unfold atV; split
  · decide
  · exact pl_lt _ _
theorem atV_bit {s : Tset} {t : Nat} (ht : t < 16777216) : (atV s (t / 64)).testBit (t % 64) = hasB s t := at_bit ht
theorem at_st {w : World} {b be bw : Nat} {s : Tset} (h : StAt w b be bw s) (q : Nat) (hq : q < 262144) :
    Calls Tryd.prog 25 #[.pointer (some ⟨b, 0, none⟩), .int .i64 q] w fun e w' => e = .returned (.int .u64 (atV s q : Nat)) ∧ Below w.heap.size w w' := at_any h.at_ q hq

def Both (a b : Tset) (t : Nat) : Prop := hasB a t = true ∧ hasB b t = true
theorem both_iff {a b : Tset} {t : Nat} (ht : t < 16777216) : (atV a (t / 64) &&& atV b (t / 64)).testBit (t % 64) = true ↔ Both a b t := by
  rw [Nat.testBit_and, atV_bit ht, atV_bit ht, Bool.and_eq_true]; rfl
theorem Both.lt {a b : Tset} {t : Nat} (h : Both a b t) : t < 16777216 := by have := (hasB_iff.1 h.1).1; omega
theorem pl_off {s : Tset} (h : s.Ok) {q : Nat} (hq : pl s.T q ≠ 0) : q ∉ s.P := fun hp => by
  obtain ⟨t, ht, e⟩ := cnt_pos.1 (cnt_pl.2 hq)
  exact h.raw.apart t ht (by rw [e]; exact hp)
/-- What And has when all pages have come. -/
theorem both_says {a b : Tset} (ha : a.Ok) (hb : b.Ok) (t : Nat) : (Both a b t ∧ (pl a.T (t / 64) ≠ 0 ∨ pl b.T (t / 64) ≠ 0)) ↔ BothT a b t := by
  unfold Both BothT
  constructor
  · rintro ⟨⟨h1, h2⟩, h3⟩
    have h1' := (hasB_iff.1 h1).2
    have h2' := (hasB_iff.1 h2).2
    rw [Int.toNat_natCast] at h1' h2'
    rcases h3 with h3 | h3
    · exact .inl ⟨h1'.elim id (fun e => absurd e (pl_off ha h3)), h2'⟩
    · exact .inr ⟨h2'.elim id (fun e => absurd e (pl_off hb h3)), h1'⟩
  · have key : ∀ {x y : Tset}, x.Ok → t ∈ x.T → y.has t → hasB x t = true ∧ hasB y t = true ∧ pl x.T (t / 64) ≠ 0 := fun {x y} hx h1 h2 => by
      have hl := hx.raw.tl t h1
      refine ⟨hasB_iff.2 ⟨by omega, by rw [Int.toNat_natCast]; exact .inl h1⟩, hasB_iff.2 ⟨by omega, by rw [Int.toNat_natCast]; exact h2⟩, fun e => pl_zero.1 e t h1 rfl⟩
    rintro (⟨h1, h2⟩ | ⟨h1, h2⟩)
    · obtain ⟨x, y, z⟩ := key ha h1 h2
      exact ⟨⟨x, y⟩, .inl z⟩
    · obtain ⟨x, y, z⟩ := key hb h1 h2
      exact ⟨⟨y, x⟩, .inr z⟩

/-- The pages so far. -/
structure PSo (a b : Tset) (left : Lit → Bool) (P1 : List Nat) : Prop where
  srt : Srt P1
  mem : ∀ q, q ∈ P1 ↔ (q ∈ a.P ∧ q ∈ b.P) ∧ left (.int .i64 (q : Int)) = false
theorem PSo.turn {a b : Tset} {left : Lit → Bool} {P1 : List Nat} (h : PSo a b left P1) {x : Nat} (ha : x ∈ a.P) (hb : x ∈ b.P) : PSo a b (fun z => left z && !z.sameKey (.int .i64 (x : Int))) (ins x P1) :=
  ⟨srt_ins h.srt, fun q => by
    simp only [strike_int]
    rw [mem_ins, h.mem]
    by_cases e : q = x
    · subst e; simp [ha, hb]
    · simp [e]⟩
theorem PSo.stay {a b : Tset} {left : Lit → Bool} {P1 : List Nat} (h : PSo a b left P1) {x : Nat} (hb : x ∉ b.P) : PSo a b (fun z => left z && !z.sameKey (.int .i64 (x : Int))) P1 :=
  ⟨h.srt, fun q => by
    simp only [strike_int]
    rw [h.mem]
    by_cases e : q = x
    · subst e; simp [hb]
    · simp [e]⟩

/-- The addresses so far, in a range over x's pages. -/
def TSo (a b x : Tset) (T0 : List Nat) (left : Lit → Bool) (T : List Nat) : Prop := ∀ t, t ∈ T ↔ t ∈ T0 ∨ (Both a b t ∧ pl x.T (t / 64) ≠ 0) ∧ left (.int .i64 ((t / 64 : Nat) : Int)) = false
theorem TSo.turn {a b x : Tset} {T0 T T' : List Nat} {left : Lit → Bool} {P : List Nat} (h : TSo a b x T0 left T) {q : Nat} (hq : q < 262144) (h0 : pl x.T q ≠ 0) (hP : q ∉ P)
    (hT : ∀ t, t ∈ T' ↔ t ∈ T ∨ q ∉ P ∧ t / 64 = q ∧ (atV a q &&& atV b q).testBit (t % 64) = true) : TSo a b x T0 (fun z => left z && !z.sameKey (.int .i64 (q : Int))) T' := fun t => by
  simp only [strike_int]
  rw [hT, h t]
  by_cases e : t / 64 = q
  · have ht : t < 16777216 := by omega
    have hb := both_iff (a := a) (b := b) ht
    rw [e] at hb
    simp only [e, hb, hP]
    simp
    constructor
    · rintro ((h | h) | h)
      · exact .inl h
      · exact .inr ⟨h.1.1, h0⟩
      · exact .inr ⟨h, h0⟩
    · rintro (h | h)
      · exact .inl (.inl h)
      · exact .inr h.1
  · simp [e]
theorem TSo.stay {a b x : Tset} {T0 T : List Nat} {left : Lit → Bool} (h : TSo a b x T0 left T) {q : Nat} (hq : q < 262144) (h0 : atV a q &&& atV b q = 0) : TSo a b x T0 (fun z => left z && !z.sameKey (.int .i64 (q : Int))) T := fun t => by
  simp only [strike_int]
  rw [h t]
  by_cases e : t / 64 = q
  · have ht : t < 16777216 := by omega
    have hb := both_iff (a := a) (b := b) ht
    rw [e, h0, Nat.zero_testBit] at hb
    have hn : ¬ Both a b t := fun x => by have := hb.2 x; cases this
    simp [hn]
  · simp [e]
/-- The addresses behind k of both ranges. -/
def TUp (a b : Tset) (k : Nat) (T : List Nat) : Prop := ∀ t, t ∈ T ↔ Both a b t ∧ (0 < k ∧ pl a.T (t / 64) ≠ 0 ∨ 1 < k ∧ pl b.T (t / 64) ≠ 0)
theorem TUp.next {a b x : Tset} {k : Nat} {T0 T : List Nat} {left : Lit → Bool} (h0 : TUp a b k T0) (hx : k = 0 ∧ x = a ∨ k = 1 ∧ x = b) (h : TSo a b x T0 left T) (hl : ∀ kl, left kl = false) : TUp a b (k + 1) T := fun t => by
  rw [h t, h0 t, hl]
  rcases hx with ⟨rfl, rfl⟩ | ⟨rfl, rfl⟩
  · simp
  · simp
    constructor
    · rintro (⟨h1, h2⟩ | ⟨h1, h2⟩)
      · exact ⟨h1, .inl h2⟩
      · exact ⟨h1, .inr h2⟩
    · rintro ⟨h1, h2 | h2⟩
      · exact .inl ⟨h1, h2⟩
      · exact .inr ⟨h1, h2⟩
end Go.Proofs.YtpjpkpbfbbpmdaaDoor.Ts
