/- The contract of a disk's Cut: for every disk that New or Cut gave, every number. -/
import Derived.Test.YtnmeobbbcccgjaaKG
set_option maxRecDepth 100000
namespace Go.Proofs.Ytnmeobbbcccgjaa
open Go.RowKit

/-- All blocks from n on. -/
def From (n : Nat) : Nat → Prop := fun k => n ≤ k

set_option maxHeartbeats 1000000 in
theorem cut_no (n : Int) (S : Nat → Prop) (d : Nat) (ops : List RawOp) (w : World) (h : DiskAt S d ops w) (hn : ¬ (0 ≤ n ∧ n ≤ ops.length)) :
    Calls Try.prog 21 #[.pointer (some ⟨d, 0, none⟩), .int .i64 n] w fun e w' => e = .returned (.tuple #[.pointer none, .int .i64 1]) ∧ w' = w := by
  have hself := h.self
  obtain ⟨vs, hv⟩ := h.2
  obtain ⟨ao, cap, _, hc, _⟩ := hv.doneCell
  obtain ⟨ll, hll⟩ : ∃ ll, ll = ops.length := ⟨_, rfl⟩
  rw [← hll] at hc hn
  clear hv h hll
  by_cases h0 : n < 0
  · clear hn
    go_enter Try.func21, Try.ntmps21
    go_wp2_with (go_at_call 35; refine (given_self d _ hself).mono ?_; rintro e w' ⟨rfl, hw⟩; subst w')
    go_ret2
    exact ⟨rfl, rfl⟩
  · have h1 : (ll : Int) < n := by omega
    clear hn
    go_enter Try.func21, Try.ntmps21
    go_wp2_with (go_at_call 35; refine (given_self d _ hself).mono ?_; rintro e w' ⟨rfl, hw⟩; subst w')
    go_ret2
    exact ⟨rfl, rfl⟩

set_option maxHeartbeats 2000000 in
theorem cut_ok (n : Nat) (S : Nat → Prop) (d : Nat) (ops : List RawOp) (w : World) (h : DiskAt S d ops w) (hlen : ops.length ≤ 4398046511104) (hn : n ≤ ops.length) :
    Calls Try.prog 21 #[.pointer (some ⟨d, 0, none⟩), .int .i64 n] w fun e w' => e = .returned (.tuple #[.pointer (some ⟨w.heap.size, 0, none⟩), .int .i64 0]) ∧ DiskAt (From w.heap.size) w.heap.size (ops.take n) w' ∧ Below w.heap.size w w' := by
  have hself := h.self
  have hok := h.1
  have hdlt := h.lt
  obtain ⟨vs, hv⟩ := h.2
  obtain ⟨ao, cap, hvd, hc, hcap⟩ := hv.doneCell
  have hdone := hv.done
  rw [hvd] at hdone
  obtain ⟨ll, hll⟩ : ∃ ll, ll = ops.length := ⟨_, rfl⟩
  have hn' : n ≤ ll := by omega
  have hncap : n ≤ cap := by omega
  have h1 : ¬ ((n : Int) < 0) := by omega
  have h2 : ¬ ((ll : Int) < n) := by omega
  have hlen' : ll ≤ 4398046511104 := by omega
  rw [← hll] at hc
  have HDN := Lib.hid hdone; clear hdone
  have HN := Lib.hid hn; clear hn
  have HLL := Lib.hid hll; clear hll
  have HOK := Lib.hid hok; clear hok
  clear hv h hvd hlen hcap
  go_enter Try.func21, Try.ntmps21
  go_wp2_with (first
    | (go_at_call 35; refine (given_self d _ hself).mono ?_; rintro e w' ⟨rfl, hw⟩; subst w')
    | (go_at_call 9; refine (new_any _).mono ?_))
  rintro e w1 ⟨rfl, hw1⟩
  have hd1 : DiskAt (From w.heap.size) w.heap.size (ops.take 0) w1 := by
    subst hw1
    exact ⟨okAll_nil, _, disk_new _ w (Nat.le_refl _)⟩
  have hb1 : Below w.heap.size w w1 := by
    subst hw1
    exact (Below.refl _ _).alloc (Nat.le_refl _) _
  have HD1 := Lib.hid hd1; clear hd1
  clear hw1
  have hc1 : w1.cell? ⟨d, 5, none⟩ = some (.slice ao ll cap) := by rw [hb1.cell hdlt]; exact hc
  have HB1 := Lib.hid hb1; clear hb1
  go_wp2
  go_loopw [33] (fun i wr => ∃ j : Nat, j ≤ n ∧ i = .int .i64 j ∧ Hid (Below w.heap.size w wr) ∧ Hid (DiskAt (From w.heap.size) w.heap.size (ops.take j) wr)) (fun i _ => n - (intOf i).toNat)
  case atStart => exact ⟨0, Nat.zero_le _, rfl, HB1, HD1⟩
  case round =>
    obtain ⟨j, hj, rfl, HB, HD⟩ := hrel
    by_cases hlt : j < n
    · have hjl : j < ops.length := by have := HN.out; omega
      obtain ⟨g, rfl, hgw⟩ : ∃ g, ao = some ⟨g, 0, none⟩ ∧ g < w.heap.size := by
        rcases HDN.out.2 with ⟨hv, h0⟩ | ⟨g, cap', cur, hv, _, hg, _⟩
        · omega
        · injection hv with e1; exact ⟨g, e1, (Array.getElem?_eq_some_iff.1 hg).1⟩
      have hcell : wr.cell? ⟨g, j, none⟩ = some (ops[j]'hjl).val := by
        have := World.ownsRow.cells (w := w) HDN.out (g := g) rfl j (ops[j]'hjl).val (by simp [hjl])
        have e1 : (⟨g, 0, none⟩ : Addr).add j = ⟨g, j, none⟩ := by simp only [Addr.add]; split <;> simp_all
        rw [e1] at this
        rw [HB.out.cell hgw]
        exact this
      have hOk : (ops[j]'hjl).Ok (play (ops.take j)) := HOK.out j _ (List.getElem?_eq_getElem hjl)
      have HO := Lib.hid hOk; clear hOk
      obtain ⟨o, ho⟩ : ∃ o, ops[j]'hjl = o := ⟨_, rfl⟩
      rw [ho] at hcell HO
      have HE := Lib.hid ho; clear ho
      have hlen3 : (ops.take j).length ≤ 4398046511104 := by rw [List.length_take]; omega
      have HL3 := Lib.hid hlen3; clear hlen3
      go_wp2_with (go_at_call 37; refine (do_any o (From w.heap.size) w.heap.size (ops.take j) _ HD.out HO.out HL3.out).mono ?_)
      rintro e w2 ⟨rfl, hd2, hk2⟩
      have hsz := HB.out.size
      have hd3 : DiskAt (From w.heap.size) w.heap.size (ops.take (j + 1)) w2 := by
        rw [List.take_succ_eq_append_getElem hjl, HE.out]
        exact hd2.mono (fun i hi => hi.elim id (fun h => by unfold From; omega))
      have hb3 : Below w.heap.size w w2 := HB.out.trans (hk2.toBelow hsz (fun _ hi => hi))
      have HD3 := Lib.hid hd3
      have HB3 := Lib.hid hb3
      clear hd3 hb3 hd2 hk2
      go_wp2
      go_roundw
      case rel => exact ⟨j + 1, by omega, by go_num, HB3, HD3⟩
      case measure => simp [intOf]; omega
    · have hjn : j = n := by omega
      subst hjn
      go_wp2
      go_ret2
      exact ⟨rfl, HD.out, HB.out⟩
end Go.Proofs.Ytnmeobbbcccgjaa
