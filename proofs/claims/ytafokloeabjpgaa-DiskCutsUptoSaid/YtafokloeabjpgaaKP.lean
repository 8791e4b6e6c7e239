/- Reading on both sides; when a disk is the document's. -/
import Derived.Test.YtafokloeabjpgaaKM
import Derived.Deep.RegionHeld3
set_option maxRecDepth 100000
namespace Go.Proofs.Ytafokloeabjpgaa
open Go.RowKit

def readOk (f a n : Int) (F : Nat → List UInt8) : Bool := decide (0 ≤ f ∧ f < 4 ∧ 0 ≤ a ∧ 0 ≤ n ∧ a + n ≤ (F f.toNat).length)
def readS (f a n : Int) (F : Nat → List UInt8) : ByteArray := if readOk f a n F then ⟨(((F f.toNat).drop a.toNat).take n.toNat).toArray⟩ else ⟨#[]⟩
def readE (f a n : Int) (F : Nat → List UInt8) : Int := if readOk f a n F then 0 else 1

theorem read_any (f a n : Int) (S : Nat → Prop) (d : Nat) (ops : List RawOp) (w : World) (h : DiskAt S d ops w) (hn63 : n ≤ 9223372036854775807) :
    Calls Try.prog 12 #[.pointer (some ⟨d, 0, none⟩), .int .i64 f, .int .i64 a, .int .i64 n] w fun e w' => e = .returned (.tuple #[.string (readS f a n (play ops)), .int .i64 (readE f a n (play ops))]) ∧ w' = w := by
  by_cases hc : readOk f a n (play ops) = true
  · have h1 : readS f a n (play ops) = _ := if_pos hc
    have h2 : readE f a n (play ops) = 0 := if_pos hc
    have hc' := of_decide_eq_true hc
    rw [h1, h2]
    have := read_ok f.toNat a.toNat n.toNat S d ops w h (by omega) (by omega)
    rw [show ((f.toNat : Nat) : Int) = f by omega, show ((n.toNat : Nat) : Int) = n by omega, show ((a.toNat : Nat) : Int) = a by omega] at this
    exact this
  · have h1 : readS f a n (play ops) = _ := if_neg hc
    have h2 : readE f a n (play ops) = 1 := if_neg hc
    rw [h1, h2]
    exact read_no f a n S d ops w h hn63 (fun h => hc (decide_eq_true h))

set_option maxHeartbeats 2000000 in
theorem rread_ok (S : Nat → Prop) (A : Nat → Option Addr) (Ln C : Nat → Nat) (F : Nat → List UInt8) (N : Nat) (j at' n : Nat) (w : World) (hB : RefF S w A Ln C F) (hmax : (F j).length ≤ 4194304) (hj : j < 4) (hn : at' + n ≤ (F j).length) :
    Calls Try.prog 13 #[rv A Ln C N, .int .i64 j, .int .i64 at', .int .i64 n] w fun e w' => e = .returned (.tuple #[.string ⟨(((F j).drop at').take n).toArray⟩, .int .i64 0]) ∧ Below w.heap.size w w' := by
  have hB1 := (hB j hj).1
  obtain ⟨ao, ll, cap, hvs, hll, hcap, hao, hno⟩ := hB1.shape
  have hb1 : Below w.heap.size w (w.alloc (.cells #[Value.slice (A 0) (Ln 0) (C 0), .slice (A 1) (Ln 1) (C 1), .slice (A 2) (Ln 2) (C 2), .slice (A 3) (Ln 3) (C 3), .int .i64 N] 28)) := (Below.refl _ w).alloc (Nat.le_refl _) _
  have hB2 : Bytes (w.alloc (.cells #[Value.slice (A 0) (Ln 0) (C 0), .slice (A 1) (Ln 1) (C 1), .slice (A 2) (Ln 2) (C 2), .slice (A 3) (Ln 3) (C 3), .int .i64 N] 28)) (.slice ao ll cap) (F j) := by
    rw [← hvs]
    exact hB1.alloc _
  rw [hvs] at hao
  rw [← hll] at hmax
  have hn' : at' + n ≤ ll := by omega
  have h1 : (j : Int) < 4 := by omega
  have h2 : ¬ ((at' : Int) < 0) := by omega
  have h3 : ¬ ((n : Int) < 0) := by omega
  have h4 : ¬ ((ll : Int) < at') := by omega
  have h4' : ¬ ((ll : Int) - at' < n) := by omega
  have h5 : at' ≤ at' + n := by omega
  have h6 : at' + n ≤ cap := by omega
  have h7 : at' + n - at' = n := by omega
  obtain ⟨ax, hax⟩ : ∃ ax, (if cap = at' then ao else Option.map (fun x => x.add at') ao) = ax := ⟨_, rfl⟩
  have hdp : 0 < n → ∃ g, (Value.slice ao ll cap).ownBlock = some g ∧ ax = some ⟨g, at', none⟩ := by
    intro h0
    rw [← hax]
    cases ao with
    | none => have := hno rfl; omega
    | some a =>
      obtain ⟨h1, h2, h3⟩ := hao a rfl
      refine ⟨_, h3, ?_⟩
      rw [if_neg (by omega)]
      cases a with
      | mk b o sp => simp at h1 h2; subst h1 h2; simp [Addr.add, eq_comm]
  have hcv := convert_bytes _ (.slice ao ll cap) (F j) hB2 at' n hn ax (cap - at') hdp
  obtain ⟨T, hT⟩ : ∃ T, ((List.drop at' (F j)).take n).toArray = T := ⟨_, rfl⟩
  rw [hT] at hcv ⊢
  have hat2 : ∀ h, ([Value.slice (A 0) (Ln 0) (C 0), .slice (A 1) (Ln 1) (C 1), .slice (A 2) (Ln 2) (C 2), .slice (A 3) (Ln 3) (C 3), .int .i64 N] : List Value)[j]'h = .slice ao ll cap := fun h => by rw [rv_at2 A Ln C N j hj h, hvs]
  clear hdp hB hB1 hao hno hvs hll hn hT hB2
  have HB1 := Lib.hid hb1; clear hb1
  go_enter Try.func13, Try.ntmps13
  go_wp2
  go_ret2
  exact ⟨rfl, HB1.out⟩

set_option maxHeartbeats 2000000 in
theorem rread_no (S : Nat → Prop) (A : Nat → Option Addr) (Ln C : Nat → Nat) (F : Nat → List UInt8) (N : Nat) (f a n : Int) (w : World) (hB : RefF S w A Ln C F) (hn63 : n ≤ 9223372036854775807) (ha63 : a ≤ 9223372036854775807) (hmax : ∀ i, (F i).length ≤ 4194304) (hn : ¬ (0 ≤ f ∧ f < 4 ∧ 0 ≤ a ∧ 0 ≤ n ∧ a + n ≤ (F f.toNat).length)) :
    Calls Try.prog 13 #[rv A Ln C N, .int .i64 f, .int .i64 a, .int .i64 n] w fun e w' => e = .returned (.tuple #[.string ⟨#[]⟩, .int .i64 1]) ∧ Below w.heap.size w w' := by
  have hb1 : Below w.heap.size w (w.alloc (.cells #[Value.slice (A 0) (Ln 0) (C 0), .slice (A 1) (Ln 1) (C 1), .slice (A 2) (Ln 2) (C 2), .slice (A 3) (Ln 3) (C 3), .int .i64 N] 28)) := (Below.refl _ w).alloc (Nat.le_refl _) _
  have HB1 := Lib.hid hb1; clear hb1
  by_cases f0 : f < 0
  · clear hn hB
    go_enter Try.func13, Try.ntmps13
    go_wp2
    go_ret2
    exact ⟨rfl, HB1.out⟩
  by_cases f4 : (4 : Int) ≤ f
  · clear hn hB
    go_enter Try.func13, Try.ntmps13
    go_wp2
    go_ret2
    exact ⟨rfl, HB1.out⟩
  obtain ⟨j, rfl⟩ : ∃ j : Nat, f = (j : Int) := ⟨f.toNat, by omega⟩
  have hj : j < 4 := by omega
  have hlen := hB.len hj
  have hm := hmax j
  obtain ⟨ll, hll⟩ : ∃ ll, ll = Ln j := ⟨_, rfl⟩
  have hat2 : ∀ h, ([Value.slice (A 0) (Ln 0) (C 0), .slice (A 1) (Ln 1) (C 1), .slice (A 2) (Ln 2) (C 2), .slice (A 3) (Ln 3) (C 3), .int .i64 N] : List Value)[j]'h = .slice (A j) ll (C j) := fun h => by rw [rv_at2 A Ln C N j hj h, hll]
  simp only [Int.toNat_natCast, ← hlen, ← hll] at hn hm
  clear hlen hll hB
  by_cases a0 : a < 0
  · clear hn
    go_enter Try.func13, Try.ntmps13
    go_wp2
    go_ret2
    exact ⟨rfl, HB1.out⟩
  by_cases n0 : n < 0
  · clear hn
    go_enter Try.func13, Try.ntmps13
    go_wp2
    go_ret2
    exact ⟨rfl, HB1.out⟩
  by_cases al : (ll : Int) < a
  · clear hn
    go_enter Try.func13, Try.ntmps13
    go_wp2
    go_ret2
    exact ⟨rfl, HB1.out⟩
  · have h9 : (ll : Int) - a < n := by omega
    clear hn
    go_enter Try.func13, Try.ntmps13
    go_wp2
    go_ret2
    exact ⟨rfl, HB1.out⟩

theorem rread_any (f a n : Int) (S : Nat → Prop) (v : Value) (F : Nat → List UInt8) (N : Nat) (w : World) (h : RefAt S w v F N) (hn63 : n ≤ 9223372036854775807) (ha63 : a ≤ 9223372036854775807) (hmax : ∀ i, (F i).length ≤ 4194304) :
    Calls Try.prog 13 #[v, .int .i64 f, .int .i64 a, .int .i64 n] w fun e w' => e = .returned (.tuple #[.string (readS f a n F), .int .i64 (readE f a n F)]) ∧ Below w.heap.size w w' := by
  obtain ⟨A, Ln, C, rfl, hB⟩ := h
  by_cases hc : readOk f a n F = true
  · have h1 : readS f a n F = _ := if_pos hc
    have h2 : readE f a n F = 0 := if_pos hc
    have hc' := of_decide_eq_true hc
    rw [h1, h2]
    have := rread_ok S A Ln C F N f.toNat a.toNat n.toNat w hB (hmax _) (by omega) (by omega)
    rw [show ((f.toNat : Nat) : Int) = f by omega, show ((n.toNat : Nat) : Int) = n by omega, show ((a.toNat : Nat) : Int) = a by omega] at this
    exact this
  · have h1 : readS f a n F = _ := if_neg hc
    have h2 : readE f a n F = 1 := if_neg hc
    rw [h1, h2]
    exact rread_no S A Ln C F N f a n w hB hn63 ha63 hmax (fun h => hc (decide_eq_true h))
end Go.Proofs.Ytafokloeabjpgaa
