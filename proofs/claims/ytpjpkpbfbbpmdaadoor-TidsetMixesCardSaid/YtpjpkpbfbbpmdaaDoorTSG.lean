/- A set degrades; Add; Has. -/
import Derived.Test.YtpjpkpbfbbpmdaaDoorTSF
set_option maxRecDepth 100000
namespace Go.Proofs.YtpjpkpbfbbpmdaaDoor.Ts
open Go.RowKit Go.Maps

theorem wpList_delete_run {P : Program} {w w' : World} {ops : Array Oper} {rest : List Oper} {o : Oper} {a : Act} {Q : Exit → Act → World → Prop} (hg : o.guard = none) (m x : Operand) (t k : TypeId) (hop : o.op = Op.call { callee := Callee.builtin Builtin.delete, args := #[m, x], argTypes := #[t, k] })
    (mv xv : Value) (hm : a.eval m = mv) (hx : a.eval x = xv) (hr : (Builtin.delete_ #[t, k] o.type #[mv, xv]).run P w = .ok (.tuple #[]) w') (h : wpList P ops Q rest (a.put o.dst (.tuple #[])) w') :
    wpList P ops Q (o :: rest) a w := by
  refine wpList_plain hg fun K' hK' => ?_
  unfold Oper.wp
  simp [execOp, hop, resolve, invoke, builtin, hm, hx, hr, Result.andThen]
  exact hK' _ _ h

/-- How many are exact, read off the world. -/
def lenAt (w : World) (b : Nat) : Nat :=
  match w.cell? ⟨b, 2, none⟩ with
  | some (.int _ n) => n.toNat
  | _ => 0
theorem SetAt.lenAt {w : World} {b be bw most : Nat} {T P : List Nat} (h : SetAt w b be bw most T P) : lenAt w b = T.length := by
  unfold Ts.lenAt; rw [h.c2]; simp
theorem below_drew (w : World) : Below w.heap.size w w.drew := ⟨rfl, rfl, rfl, Nat.le_refl _, fun _ _ => rfl⟩

/-- What a set's turn leaves. -/
def DegPost (b be bw most : Nat) (T P : List Nat) (w : World) (w' : World) : Prop :=
  ∃ T' P', Deg most T P T' P' ∧ SetAt w' b be bw most T' P' ∧ Kept (Own b be bw) w w'

set_option maxHeartbeats 3200000 in
theorem degrade_any {w : World} {b be bw most : Nat} {T P : List Nat} (h : SetAt w b be bw most T P) (hR : Raw T P) (hm : most ≤ 64) :
    Calls Tryd.prog 27 #[.pointer (some ⟨b, 0, none⟩)] w fun e w' => e = .returned (.tuple #[]) ∧ DegPost b be bw most T P w w' := by
  have HS := Lib.hid h
  have HR := Lib.hid hR
  clear h hR
  go_enter Tryd.func27, Tryd.ntmps27
  go_wp2
  go_loopw [2] (fun _ wr => ∃ (T1 P1 : List Nat), Hid (SetAt wr b be bw most T1 P1) ∧ Hid (Raw T1 P1) ∧ Hid (∀ T' P', Deg most T1 P1 T' P' → Deg most T P T' P') ∧ Hid (Kept (Own b be bw) w wr)) (fun _ wr => lenAt wr b)
  case atStart => exact ⟨T, P, HS, HR, Lib.hid fun _ _ h => h, Lib.hid (Kept.refl _ _)⟩
  case round =>
    clear HS HR
    obtain ⟨T1, P1, HS, HR, HD, HK⟩ := hrel
    have c1 := HS.out.c1
    have c2 := HS.out.c2
    have hfew : T1.length ≤ 16777216 := by
      rcases srt_few 16777216 T1 0 HR.out.st (fun t ht => ⟨by omega, HR.out.tl t ht⟩) with e | e
      · rw [e]; simp
      · omega
    obtain ⟨n, hn⟩ : ∃ n, n = T1.length := ⟨_, rfl⟩
    rw [← hn] at c2 hfew
    have HN := Lib.hid hn; clear hn
    by_cases hlt : most < n
    · have h1 : decide ((most : Int) < n) = true := decide_eq_true (by omega)
      have h1' : decide (most < n) = true := decide_eq_true (by omega)
      have HQ : Hid (∀ j, Calls Tryd.prog 44 #[.pointer (some ⟨b, 0, none⟩)] (wr.drewN j) fun e w' => ∃ p : Nat, e = .returned (.int .i64 p) ∧ IsFull T1 p ∧ Below (wr.drewN j).heap.size (wr.drewN j) w') := Lib.hid fun j => fullest_any (HS.out.blocks (w' := wr.drewN j) rfl rfl rfl) HR.out (by intro e; rw [HN.out, e] at hlt; simp at hlt)
      go_wp2_with fail
      go_quiet (fail)
      go_wp2_with fail
      refine (HQ.out _).mono ?_
      rintro e w1 ⟨p, rfl, hp, hb⟩
      clear HQ
      have hpg : p < 262144 := by
        obtain ⟨t, ht, e⟩ := cnt_pos.1 hp.1
        have := HR.out.tl t ht
        omega
      have hs1 : SetAt w1 b be bw most T1 P1 := (HS.out.blocks (w' := wr.drewN _) rfl rfl rfl).below hb
      have hk1 : Kept (Own b be bw) w w1 := HK.out.trans (Kept.ofBelow (S := fun _ => False) ⟨hb.os, hb.tape, hb.output, hb.size, hb.block⟩) (fun _ e => e.elim)
      have d2 := hs1.c2
      have d3 := hs1.c3
      have f2 := hs1.froz 2
      have hl1 := hs1.ex.lookPl p hpg
      have hl2 := (hs1.below (below_drew w1)).ex.lookPl p hpg
      have hcl := onp_le HR.out.st p
      have hcn := cnt_le p T1
      have hnb := hs1.nb
      have HC : Hid (∀ W, Calls Tryd.prog 43 #[.int .u64 (pl T1 p : Nat)] W fun e w' => e = .returned (.int .i64 (cnt p T1)) ∧ W = w') := Lib.hid fun W => by
        rw [← bits_cnt HR.out.st]; exact tcount_any _ (pl_lt T1 p) W
      have hoff := off_length p T1
      obtain ⟨k, hk⟩ : ∃ k, k = cnt p T1 := ⟨_, rfl⟩
      rw [← HN.out] at d2 hoff hcn
      rw [← hk] at HC hcl hcn hoff
      have hsub : IntKind.i64.wrap ((n : Int) - (k : Int)) = (n : Int) - (k : Int) := IntWalk.i64_in _ (by omega)
      have hkk : Kept (fun i => i = b) w1.drew (w1.drew.setCell ⟨b, 2, none⟩ (.int .i64 ((n : Int) - (k : Int)))) := Kept.setCell (fun i => i = b) _ (b := b) (i := 2) rfl _
      have hblk := hs1.blk
      rw [← HN.out] at hblk
      have hblk3 := cell2 w1.drew b be bw most n (off p T1).length hblk
      have hcast : (((off p T1).length : Nat) : Int) = (n : Int) - (k : Int) := by omega
      rw [hcast] at hblk3
      have hex3 : MapIs rdPl (w1.drew.setCell ⟨b, 2, none⟩ (.int .i64 ((n : Int) - (k : Int)))) be (exF T1) := hs1.ex.block (hkk.block be hs1.ex.lt (fun e => hnb.1 e.symm))
      have hwh3 : MapIs rdU (w1.drew.setCell ⟨b, 2, none⟩ (.int .i64 ((n : Int) - (k : Int)))) bw (whF P1) := hs1.wh.block (hkk.block bw hs1.wh.lt (fun e => hnb.2 e.symm))
      have hdel := fun ty => hex3.delPl p hpg ty
      obtain ⟨w4, hr4, hm4, ht4⟩ := hdel 0
      have hlt4 : w1.drew.heap.size ≤ w4.heap.size := Nat.le_trans hkk.size ht4.grown.size
      have hb4 : w4.heap[b]? = _ := (ht4.grown.block b (Nat.lt_of_lt_of_le hs1.lt hkk.size) (by simp; exact fun e => hnb.1 e)).trans hblk3
      have hwh4 : MapIs rdU w4 bw (whF P1) := hwh3.block (ht4.grown.block bw hwh3.lt (by simp; exact fun e => hs1.ne e.symm))
      have g4 : w4.cell? ⟨b, 4, none⟩ = some (.map (some bw)) := Lib.cell_of_heap hb4 4
      obtain ⟨w5, hr5, hm5, ht5⟩ := hwh4.putU HR.out.pl p hpg
      have hn5 : (off p T1).length < n := by have := cnt_pos.2 (cnt_pos.1 hp.1); omega
      have HX : Hid (SetAt w5 b be bw most (off p T1) (ins p P1)) := Lib.hid ⟨(ht5.grown.block b (Array.getElem?_eq_some_iff.1 hb4).1 (by simp; exact fun e => hnb.2 e)).trans (by rw [hb4, hcast]), hm4.block (ht5.grown.block be hm4.lt (by simp; exact hs1.ne)), hm5, hs1.ne⟩
      have HKK : Hid (Kept (Own b be bw) w w5) := Lib.hid ((((hk1.trans (Kept.ofBelow (S := fun _ => False) (below_drew w1)) (fun _ e => e.elim)).trans hkk (fun i e => .inl (.inl e))).trans (Kept.ofTurned (S := Own b be bw) ht4 (.inr (.inl rfl))) (fun _ e => .inl e)).trans (Kept.ofTurned (S := Own b be bw) ht5 (.inr (.inr rfl))) (fun _ e => .inl e))
      have HDD : Hid (∀ T' P', Deg most (off p T1) (ins p P1) T' P' → Deg most T P T' P') := Lib.hid fun T' P' hd => HD.out _ _ (.step (by rw [← HN.out]; exact hlt) hp hd)
      have HRR := Lib.hid (HR.out.step hp)
      have HME : Hid (lenAt w5 b < lenAt wr b) := Lib.hid (by rw [HX.out.lenAt, HS.out.lenAt, ← HN.out]; exact hn5)
      have e3 : (w1.drew.setCell ⟨b, 2, none⟩ (.int .i64 ((n : Int) - (k : Int)))).cell? ⟨b, 3, none⟩ = some (.map (some be)) := Lib.cell_of_heap hblk3 3
      have HDR := Lib.hid hr4
      obtain ⟨y, hy⟩ : ∃ y, y = pl T1 p := ⟨_, rfl⟩
      rw [← hy] at HC hl1 hl2
      clear hk hy hdel hr4 hm4 ht4 hlt4 hb4 hwh4 hm5 ht5 hn5 hwh3 hex3 hblk3 hcast hblk hkk hoff hnb hcn hcl hk1 hs1 hb hp HS HR HD HK c1 c2
      go_wp2_with fail
      go_still_tail 14, (by kernel_rfl)
      still_call ((HC.out _).mono fun _ _ h => ⟨h.1, h.2.symm⟩)
      repeat still_step
      refine wpStill_nil ?_
      go_wp2_with (refine wpList_delete_run rfl _ _ 42 3 rfl _ _ (by rfl) (by rfl) HDR.out ?_)
      go_roundw
      case rel => exact ⟨_, _, HX, HRR, HDD, HKK⟩
      case measure => exact HME.out
    · have h1 : decide ((most : Int) < n) = false := decide_eq_false (by omega)
      have h1' : decide (most < n) = false := decide_eq_false (by omega)
      go_wp2_with fail
      go_quiet (fail)
      go_wp2
      go_end0
      exact ⟨rfl, T1, P1, HD.out _ _ (.done (by rw [← HN.out]; omega)), HS.out.blocks rfl rfl rfl, ⟨HK.out.os, HK.out.tape, HK.out.output, HK.out.size, HK.out.block⟩⟩
end Go.Proofs.YtpjpkpbfbbpmdaaDoor.Ts
