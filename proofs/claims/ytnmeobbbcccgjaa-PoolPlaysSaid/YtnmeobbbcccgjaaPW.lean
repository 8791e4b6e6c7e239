/- The law's 'does': Pin where no page is new; Write that is refused. -/
import Derived.Test.YtnmeobbbcccgjaaPV
set_option maxRecDepth 100000
namespace Go.Proofs.Ytnmeobbbcccgjaa
open Go Go.RowKit

theorem PgAt.drewN {T : Nat → Prop} {g n : Nat} {L : List Pg} {w : World} (h : PgAt T g n L w) (m : Nat) : PgAt T g n L (w.drewN m) := h.below ⟨rfl, rfl, rfl, Nat.le_refl _, fun _ _ => rfl⟩

set_option maxHeartbeats 1600000 in
theorem does_pin_bad (B : Nat) (S T : Nat → Prop) (p d g n : Nat) (L : List Pg) (C : Nat → List UInt8) (P : Nat → Nat) (N : Nat) (x : It) (w : World) (h : Both B S T p d g n L C P N w) (hk : x.k = 1) (hf : ¬ (0 ≤ x.f ∧ x.f < 4096)) :
    Calls Try.prog 11 #[.pointer (some ⟨g, 0, none⟩), .pointer (some ⟨p, 0, none⟩), opVal x] w (DoesPost B p d g n N w) := by
  obtain ⟨k, f, a, s⟩ := x
  simp only at hk hf
  subst hk
  have hb0 : Below w.heap.size w (w.alloc (opObj ⟨1, f, a, s⟩)) := (Below.refl _ _).alloc (Nat.le_refl _) _
  have h0 := h.below hb0
  obtain ⟨v, _, hfc⟩ := h0.find f
  have HF := Lib.hid hfc
  have HP := Lib.hid (pin_st_bad h0.st f hf)
  have HE := Lib.hid (show DoesPost B p d g n N w (.returned (.bool true)) (w.alloc (opObj ⟨1, f, a, s⟩)) from ⟨rfl, S, T, L, C, P, h0.more (by omega), (Below.refl _ _).alloc h.low1 _⟩)
  unfold opVal
  unfold opObj at HF HE HP
  simp only at HF HE HP ⊢
  clear hfc h0 hb0 h
  by_cases h1 : f < 0
  · clear hf
    go_enter Try.func11, Try.ntmps11
    go_wp2_with fail
    refine HF.out.mono ?_
    rintro e w1 ⟨rfl, hw⟩
    subst w1
    go_wp2_with fail
    refine HP.out.mono ?_
    rintro e w1 ⟨rfl, hw⟩
    subst w1
    go_wp2
    go_ret
    exact HE.out
  · have h2 : 4096 ≤ f := by omega
    have h3 : 0 ≤ f := by omega
    have h4 : decide (f < 4096) = false := by simp; omega
    clear hf h1
    go_enter Try.func11, Try.ntmps11
    go_wp2_with fail
    refine HF.out.mono ?_
    rintro e w1 ⟨rfl, hw⟩
    subst w1
    go_wp2_with fail
    all_goals refine HP.out.mono ?_
    all_goals rintro e w1 ⟨rfl, hw⟩
    all_goals subst w1
    all_goals go_wp2
    all_goals go_ret
    all_goals exact HE.out

set_option maxHeartbeats 1600000 in
theorem does_pin_full (B : Nat) (S T : Nat → Prop) (p d g n : Nat) (L : List Pg) (C : Nat → List UInt8) (P : Nat → Nat) (N q : Nat) (a : Int) (s : ByteArray) (w : World) (h : Both B S T p d g n L C P N w) (hq : q < 4096) (hp0 : P q = 0) (hpn : pinnedN P = n) (hN : N ≤ 4398046511104) :
    Calls Try.prog 11 #[.pointer (some ⟨g, 0, none⟩), .pointer (some ⟨p, 0, none⟩), opVal ⟨1, q, a, s⟩] w (DoesPost B p d g n N w) := by
  have hb0 : Below w.heap.size w (w.alloc (opObj ⟨1, q, a, s⟩)) := (Below.refl _ _).alloc (Nat.le_refl _) _
  have h0 := h.below hb0
  obtain ⟨v, hv, hfc⟩ := h0.find q
  have HF := Lib.hid hfc
  have HP := Lib.hid (pin_full h0.st hN q hq hp0 hpn)
  have H0 := Lib.hid h0
  have hlen := h.rel.len
  have HPN := Lib.hid (fun (W : World) (hW : PgAt T g n L W) => by
    have := lawPinned_any T g n L W hW hlen
    rw [h.rel.pin, hpn] at this
    exact this)
  have hB0 : Below B w (w.alloc (opObj ⟨1, q, a, s⟩)) := (Below.refl _ _).alloc h.low1 _
  have HB0 := Lib.hid hB0
  have HBX := Lib.hid (fun W (hk : Kept S (w.alloc (opObj ⟨1, q, a, s⟩)) W) => box_cells (box_kept (fun k hs => (h.st.low k hs).2) hk))
  have hq0 : (0 : Int) ≤ q := by omega
  have hq1 : (q : Int) < 4096 := by omega
  have hnn : ((n : Int) == n) = true := by simp
  have hv2 : v = -1 ∨ ∃ (i : Nat) (e : Pg), L[i]? = some e ∧ v = i ∧ e.pins = 0 := by
    rcases hv with ⟨i, e, hi, he, hvi⟩ | ⟨_, hv⟩
    · refine .inr ⟨i, e, hi, hvi, ?_⟩
      have hqe : e.page = q := by omega
      rw [← (h.rel.ent e (List.mem_of_getElem? hi)).2.1, hqe]; exact hp0
    · exact .inl hv
  unfold opVal
  unfold opObj at HF HP H0 HB0 HBX
  simp only at HF HP H0 HB0 HBX ⊢
  clear hfc h0 hb0 h hv hp0 hpn hB0
  rcases hv2 with rfl | ⟨i, e, hi, rfl, hep⟩
  · go_enter Try.func11, Try.ntmps11
    go_wp2_with fail
    refine HF.out.mono ?_
    rintro e w1 ⟨rfl, hw⟩
    subst w1
    go_wp2_with fail
    refine HP.out.mono ?_
    rintro e w1 ⟨rfl, S1, t1, h1⟩
    obtain ⟨x0, x1, x2, x3⟩ := HBX.out w1 t1.1
    have hb := both_pool H0.out t1 h1 H0.out.rel
    have HPG := Lib.hid hb.1.pg
    obtain ⟨va, vb, vp, bs, hpf⟩ := hb.1.pg
    have c0 := hpf.c0
    have HE : Hid (∀ m, DoesPost B p d g n N w (.returned (.bool true)) (w1.drewN m)) := Lib.hid (fun m => ⟨rfl, S1, T, L, C, P, (hb.1.more (Nat.le_succ N)).below ⟨rfl, rfl, rfl, Nat.le_refl _, fun _ _ => rfl⟩, (HB0.out.trans hb.2).trans ⟨rfl, rfl, rfl, Nat.le_refl _, fun _ _ => rfl⟩⟩)
    clear hb hpf t1 h1
    go_wp2
    go_quiet ((go_at_call 28; exact Calls.quiet_of_same (HPN.out _ (HPG.out.drewN _))))
    go_wp2
    go_ret
    exact HE.out _
  · have hil : i < L.length := (List.getElem?_eq_some_iff.1 hi).1
    have HI := Lib.hid hi; clear hi
    have HEP := Lib.hid hep; clear hep
    go_enter Try.func11, Try.ntmps11
    go_wp2_with fail
    refine HF.out.mono ?_
    rintro e' w1 ⟨rfl, hw⟩
    subst w1
    go_wp2_with fail
    refine HP.out.mono ?_
    rintro e' w1 ⟨rfl, S1, t1, h1⟩
    obtain ⟨x0, x1, x2, x3⟩ := HBX.out w1 t1.1
    have hb := both_pool H0.out t1 h1 H0.out.rel
    have HPG := Lib.hid hb.1.pg
    obtain ⟨b, c, c3, hlc, cp, _, _⟩ := hb.1.pg.pinsAt HI.out
    rw [HEP.out] at cp
    obtain ⟨va, vb, vp, bs, hpf⟩ := hb.1.pg
    have c0 := hpf.c0
    have HE : Hid (∀ m, DoesPost B p d g n N w (.returned (.bool true)) (w1.drewN m)) := Lib.hid (fun m => ⟨rfl, S1, T, L, C, P, (hb.1.more (Nat.le_succ N)).below ⟨rfl, rfl, rfl, Nat.le_refl _, fun _ _ => rfl⟩, (HB0.out.trans hb.2).trans ⟨rfl, rfl, rfl, Nat.le_refl _, fun _ _ => rfl⟩⟩)
    obtain ⟨ll, hll⟩ : ∃ ll, ll = L.length := ⟨_, rfl⟩
    rw [← hll] at c3 hlc hil hlen
    have hli : (i : Int) < ll := by omega
    have hi0 : (0 : Int) ≤ i := by omega
    have hi00 : ¬ ((i : Int) < 0) := by omega
    clear hb hpf t1 h1 hll
    go_wp2
    go_quiet ((go_at_call 28; exact Calls.quiet_of_same (HPN.out _ (HPG.out.drewN _))))
    go_wp2
    go_ret
    exact HE.out _

end Go.Proofs.Ytnmeobbbcccgjaa
