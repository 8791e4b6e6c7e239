/- The law's 'does': Pin of a page that was pinned before. -/
import Derived.Test.YtnmeobbbcccgjaaPW
set_option maxRecDepth 100000
namespace Go.Proofs.Ytnmeobbbcccgjaa
open Go Go.RowKit

set_option maxHeartbeats 400000 in
theorem does_pin_old (B : Nat) (S T : Nat → Prop) (p d g n : Nat) (L : List Pg) (C : Nat → List UInt8) (P : Nat → Nat) (N i : Nat) (e : Pg) (a : Int) (s : ByteArray) (w : World) (h : Both B S T p d g n L C P N w) (hi : L[i]? = some e) (hf : ¬ (e.pins = 0 ∧ pinnedN P = n)) (hN : N ≤ 4398046511104) :
    Calls Try.prog 11 #[.pointer (some ⟨g, 0, none⟩), .pointer (some ⟨p, 0, none⟩), opVal ⟨1, e.page, a, s⟩] w (DoesPost B p d g n N w) := by
  have hmem := List.mem_of_getElem? hi
  obtain ⟨he4, heP, heC, heb⟩ := h.rel.ent e hmem
  have hb0 : Below w.heap.size w (w.alloc (opObj ⟨1, e.page, a, s⟩)) := (Below.refl _ _).alloc (Nat.le_refl _) _
  have h0 := h.below hb0
  have HF := Lib.hid (find_yes T g n i L e _ h0.pg h0.rel.nd (fun e he => (h0.rel.ent e he).1) h0.rel.len hi)
  have HP := Lib.hid (pin_ok h0.st hN e.page he4 (by rw [heP]; exact hf))
  have hlen := h.rel.len
  have hil : i < L.length := (List.getElem?_eq_some_iff.1 hi).1
  have HPN := Lib.hid (fun (W : World) (hW : PgAt T g n L W) => lawPinned_any T g n L W hW hlen)
  have hB0 : Below B w (w.alloc (opObj ⟨1, e.page, a, s⟩)) := (Below.refl _ _).alloc h.low1 _
  have hpN : e.pins ≤ N := by
    obtain ⟨fb, mb, hand, m, fr, Sd, ops, _, _, _, hV, _⟩ := h.st
    rw [← heP]; exact hV.bnd _
  have H0 := Lib.hid h0
  have HB0 := Lib.hid hB0
  have HI := Lib.hid hi
  have HBX := Lib.hid (fun W (hk : Kept S (w.alloc (opObj ⟨1, e.page, a, s⟩)) W) => box_cells (box_kept (fun k hs => (h.st.low k hs).2) hk))
  have HREL : Hid (Rel (L.set i { e with pins := e.pins + 1 }) C (upd P e.page (P e.page + 1))) := Lib.hid (by
    have h1 : Rel (L.set i { e with pins := e.pins + 1 }) (upd C e.page e.bytes) (upd P e.page (e.pins + 1)) := h.rel.set (e' := { e with pins := e.pins + 1 }) hi rfl heb
    rw [show upd C e.page e.bytes = C by rw [← heC]; exact upd_self _ _] at h1
    rw [heP]
    exact h1)
  have hpl : e.pins = 0 → ((pinL L : Int) == (n : Int)) = false := fun h0' => by
    have := h.rel.pin
    have h2 : pinnedN P ≠ n := fun hc => hf ⟨h0', hc⟩
    simp; omega
  obtain ⟨k0, hk0⟩ : ∃ k0, k0 = e.pins := ⟨_, rfl⟩
  obtain ⟨pl, hpl0⟩ : ∃ pl, pl = pinL L := ⟨_, rfl⟩
  rw [← hpl0] at hpl HPN
  rw [← hk0] at hpl hpN
  have HK0 := Lib.hid hk0
  have hq0 : (0 : Int) ≤ e.page := by omega
  have hq1 : (e.page : Int) < 4096 := by omega
  have hk63 : (k0 : Int) ≤ 4398046511104 := by omega
  have hkk : ((k0 : Int) + 1) = ((k0 + 1 : Nat) : Int) := by omega
  have HKK := Lib.hid hkk
  obtain ⟨ll, hll⟩ : ∃ ll, ll = L.length := ⟨_, rfl⟩
  have hli : (i : Int) < ll := by omega
  have hi0 : (0 : Int) ≤ i := by omega
  have hi00 : decide ((i : Int) < 0) = false := by simp
  have HLL := Lib.hid hll
  rw [← hll] at hil hlen
  unfold opVal
  unfold opObj at HF HP H0 HB0 HBX
  simp only at HF HP H0 HB0 HBX ⊢
  clear h0 hb0 h hi heP heC heb hB0 hmem hf hk0 hpl0 hll hkk hpN
  by_cases hz : k0 = 0
  · subst hz
    have hplf := hpl rfl
    clear hpl
    go_enter Try.func11, Try.ntmps11
    go_wp2_with fail
    refine HF.out.mono ?_
    rintro e' w1 ⟨rfl, hw⟩
    subst w1
    go_wp2_with fail
    refine HP.out.mono ?_
    rintro e' w1 ⟨rfl, S1, t1, h1⟩
    obtain ⟨x0, x1, x2, x3⟩ := HBX.out w1 t1.1
    have hpg1 := (H0.out.pool t1).1
    have HPG := Lib.hid hpg1
    obtain ⟨b, c, c3, hlc, cp, _, _⟩ := hpg1.pinsAt HI.out
    obtain ⟨va, vb, vp, bs, hpf⟩ := hpg1
    have c0 := hpf.c0
    rw [← HK0.out] at cp
    rw [← HLL.out] at c3 hlc
    have HT1 := Lib.hid t1; have H1 := Lib.hid h1
    clear hpf t1 h1
    go_wp2
    go_quiet ((go_at_call 28; exact Calls.quiet_of_same (HPN.out _ (HPG.out.drewN _))))
    obtain ⟨W, hW⟩ : ∃ W, W = w1.drewN nq := ⟨_, rfl⟩
    rw [← hW]
    have hWb : Below w1.heap.size w1 W := by rw [hW]; exact ⟨rfl, rfl, rfl, Nat.le_refl _, fun _ _ => rfl⟩
    have hWz : W.heap.size = w1.heap.size := by rw [hW]; rfl
    have HWZ := Lib.hid hWz; clear hWz
    clear hW x0 x1 x2 x3 c3 cp c0 hlc
    have ht2 : Turn S (w.alloc (.cells #[.int .i64 1, .int .i64 e.page, .int .i64 a, .string s] 37)) S1 W := HT1.out.trans ⟨Kept.ofBelow hWb, fun k hk hs => hs⟩
    obtain ⟨b, c, c3, hlc, cp, fz, hset⟩ := (HPG.out.below hWb).pinsAt HI.out
    obtain ⟨hs1, hs2⟩ := hset (e.pins + 1)
    have hfin := both_mk H0.out ht2 (H1.out.below hWb) hs1 hs2 (fun k hk => ⟨.inl hk, by simp [World.setCell]; exact ((H0.out.pool ht2).2.2 k hk).2⟩) HREL.out
    have HE := Lib.hid (show DoesPost B p d g n N w (.returned (.bool true)) (W.setCell ⟨b, i, none⟩ (.int .i64 (e.pins + 1 : Nat))) from ⟨rfl, S1, T, _, _, _, hfin.1, HB0.out.trans hfin.2⟩)
    rw [← HK0.out] at cp HE
    rw [← HLL.out] at c3 hlc
    clear hfin hs1 hs2 hset hWb ht2
    go_wp2
    go_ret
    exact HE.out
  · have hz1 : ((k0 : Int) == 0) = false := by simp; omega
    clear hpl
    go_enter Try.func11, Try.ntmps11
    go_wp2_with fail
    refine HF.out.mono ?_
    rintro e' w1 ⟨rfl, hw⟩
    subst w1
    go_wp2_with fail
    refine HP.out.mono ?_
    rintro e' w1 ⟨rfl, S1, t1, h1⟩
    obtain ⟨x0, x1, x2, x3⟩ := HBX.out w1 t1.1
    have hpg1 := (H0.out.pool t1).1
    have HPG := Lib.hid hpg1
    obtain ⟨b, c, c3, hlc, cp, _, _⟩ := hpg1.pinsAt HI.out
    obtain ⟨va, vb, vp, bs, hpf⟩ := hpg1
    have c0 := hpf.c0
    rw [← HK0.out] at cp
    rw [← HLL.out] at c3 hlc
    have HT1 := Lib.hid t1; have H1 := Lib.hid h1
    clear hpf t1 h1
    go_wp2
    go_quiet (fail)
    obtain ⟨W, hW⟩ : ∃ W, W = w1.drewN nq := ⟨_, rfl⟩
    rw [← hW]
    have hWb : Below w1.heap.size w1 W := by rw [hW]; exact ⟨rfl, rfl, rfl, Nat.le_refl _, fun _ _ => rfl⟩
    clear hW x0 x1 x2 x3 c3 cp c0 hlc
    have ht2 : Turn S (w.alloc (.cells #[.int .i64 1, .int .i64 e.page, .int .i64 a, .string s] 37)) S1 W := HT1.out.trans ⟨Kept.ofBelow hWb, fun k hk hs => hs⟩
    obtain ⟨b, c, c3, hlc, cp, fz, hset⟩ := (HPG.out.below hWb).pinsAt HI.out
    obtain ⟨hs1, hs2⟩ := hset (e.pins + 1)
    have hfin := both_mk H0.out ht2 (H1.out.below hWb) hs1 hs2 (fun k hk => ⟨.inl hk, by simp [World.setCell]; exact ((H0.out.pool ht2).2.2 k hk).2⟩) HREL.out
    have HE := Lib.hid (show DoesPost B p d g n N w (.returned (.bool true)) (W.setCell ⟨b, i, none⟩ (.int .i64 (e.pins + 1 : Nat))) from ⟨rfl, S1, T, _, _, _, hfin.1, HB0.out.trans hfin.2⟩)
    rw [← HK0.out, ← HKK.out] at HE
    rw [← HK0.out] at cp
    rw [← HLL.out] at c3 hlc
    clear hfin hs1 hs2 hset hWb ht2
    go_wp2
    go_ret
    exact HE.out
end Go.Proofs.Ytnmeobbbcccgjaa
