/- under two sets; And. -/
import Derived.Test.YtpjpkpbfbbpmdaaDoorTSO
set_option maxRecDepth 100000
namespace Go.Proofs.YtpjpkpbfbbpmdaaDoor.Ts
open Go Go.RowKit Go.Maps

set_option maxHeartbeats 1600000 in
theorem under_ok {w : World} {ab ae aw bb be bw : Nat} {a b : Tset} (ha : StAt w ab ae aw a) (hb : StAt w bb be bw b) :
    Calls Tryd.prog 24 #[.pointer (some ⟨ab, 0, none⟩), .pointer (some ⟨bb, 0, none⟩)] w (NewPost (min a.most b.most) w) := by
  have HA := Lib.hid (given_self ab w ha.at_.c0)
  have HB := Lib.hid (given_self bb w hb.at_.c0)
  have c1 := ha.at_.c1
  have d1 := hb.at_.c1
  have ham := ha.ok.most
  have hbm := hb.ok.most
  have HN : Hid (∀ m, m ≤ 64 → ∀ W, Below w.heap.size w W → Calls Tryd.prog 20 #[.int .i64 (m : Nat)] W fun e w' => ∃ b be bw, e = .returned (.tuple #[.pointer (some ⟨b, 0, none⟩), .int .i64 0]) ∧ Below w.heap.size w w' ∧ Hid (StAt w' b be bw ⟨m, [], []⟩ ∧ Below w.heap.size w w' ∧ w.heap.size ≤ b ∧ w.heap.size ≤ be ∧ w.heap.size ≤ bw)) := Lib.hid fun m hm W hW =>
    (new_st m W hm).mono fun e w' ⟨b, be, bw, h1, h2, h3, h4, h5, h6⟩ => ⟨b, be, bw, h1, hW.trans (h3.mono hW.size), Lib.hid ⟨h2, hW.trans (h3.mono hW.size), Nat.le_trans hW.size h4, Nat.le_trans hW.size h5, Nat.le_trans hW.size h6⟩⟩
  obtain ⟨x, hx⟩ : ∃ x, x = a.most := ⟨_, rfl⟩
  obtain ⟨y, hy⟩ : ∃ y, y = b.most := ⟨_, rfl⟩
  rw [← hx] at c1 ham ⊢
  rw [← hy] at d1 hbm ⊢
  have hal := ha.at_.lt
  have hbl := hb.at_.lt
  have HC : Hid (∀ W, Below w.heap.size w W → W.cell? ⟨ab, 1, none⟩ = some (.int .i64 (x : Int)) ∧ W.cell? ⟨bb, 1, none⟩ = some (.int .i64 (y : Int))) := Lib.hid fun W h => ⟨(h.cell (p := ⟨ab, 1, none⟩) hal).trans c1, (h.cell (p := ⟨bb, 1, none⟩) hbl).trans d1⟩
  clear ha hb hx hy
  have hmi : ((min x y : Nat) : Int) = min (x : Int) (y : Int) := by omega
  have HN2 := Lib.hid (HN.out (min x y) (by omega))
  rw [hmi] at HN2
  clear hmi HN
  go_enter Tryd.func24, Tryd.ntmps24
  go_wp2_with fail
  refine HA.out.mono ?_
  rintro e w1 ⟨rfl, rfl⟩
  go_wp2_with fail
  refine HB.out.mono ?_
  rintro e w1 ⟨rfl, rfl⟩
  go_wp2_with fail
  go_region_held3 (fun w' => w'.cell? ⟨ab, 1, none⟩ = some (.int .i64 (x : Int)) ∧ w'.cell? ⟨bb, 1, none⟩ = some (.int .i64 (y : Int))) (first | exact ⟨c1, d1⟩ | exact HC.out _ (by assumption))
    ((go_at_call 20; (with_reducible refine (HN2.out _ ((Below.refl _ _).drew)).mono ?_); rintro e w3 ⟨b, be, bw, rfl, hbb, HE⟩))
  go_wp2
  go_ret2
  exact ⟨b, be, bw, rfl, HE.out⟩
end Go.Proofs.YtpjpkpbfbbpmdaaDoor.Ts
