/- The book's Plays: a script on both sides. -/
import Derived.Test.YtnnmigglcpkomaaDP
set_option maxRecDepth 100000
namespace Go.Proofs.Ytnnmigglcpkomaa.Dm
open Go Go.RowKit

/-- A call of a script. -/
structure OpE where
  o : Int
  e : En
/-- A script that lies in memory. -/
structure OpsW (w : World) (a : Option Addr) (ops : List OpE) : Prop where
  lies : ops = [] ∨ ∃ b off, a = some ⟨b, off, none⟩ ∧ b < w.heap.size ∧ ∀ j (h : j < ops.length), w.cell? ⟨b, off + j * 6, none⟩ = some (.int .i64 (ops[j]'h).o) ∧ w.cell? ⟨b, off + j * 6 + 1, none⟩ = some (.int .i64 (ops[j]'h).e.k) ∧ w.cell? ⟨b, off + j * 6 + 2, none⟩ = some (.int .i64 (ops[j]'h).e.n) ∧
    w.cell? ⟨b, off + j * 6 + 3, none⟩ = some (.string (ops[j]'h).e.s) ∧ w.cell? ⟨b, off + j * 6 + 4, none⟩ = some (.slice (ops[j]'h).e.a (ops[j]'h).e.xs.length (ops[j]'h).e.lc) ∧ w.cell? ⟨b, off + j * 6 + 5, none⟩ = some (.int .i64 (ops[j]'h).e.t)
  all : ∀ x, x ∈ ops → x.e.In w

/-- What there is behind a call, behind a script. -/
def doE (kinds : List Int) (l : List Et) (x : OpE) : List Et := if x.o = 1 then insL kinds l x.e.c else if x.o = 2 then delL kinds l x.e.c else if x.o = 4 then [] else l
def playE (kinds : List Int) (ops : List OpE) : List Et := ops.foldl (doE kinds) []
theorem playE_succ {kinds : List Int} {ops : List OpE} {j : Nat} (h : j < ops.length) : playE kinds (ops.take (j + 1)) = doE kinds (playE kinds (ops.take j)) (ops[j]'h) := by
  unfold playE
  rw [List.take_succ_eq_append_getElem h, List.foldl_append]
  rfl

set_option maxHeartbeats 1600000 in
theorem does_any {T : TypeId} {p : Value} {kinds : List Int} {lim : Nat} {St : Nat → (Nat → Prop) → World → List Et → Prop} {nI nD nF nE nC nX : FuncId} (M : Meth T p kinds lim St nI nD nF nE nC nX)
    (hup : ∀ {i S w l}, St i S w l → St (i + 1) S w l) (i : Nat) (S : Nat → Prop) (w : World) (es : List En) (a : Option Addr) (c : Nat) (ka : Option Addr) (kc : Nat) (x : OpE) (hSt : St i S w (consE es)) (hi : i < lim) (hK : Rob S w (fun w => IntsW w ka kinds)) (h8 : kinds.length ≤ 8)
    (hL : Rob S w (fun w => EnsW w a es)) (he : Rob S w x.e.In) (hbig : es.length ≤ 2199023255540) :
    Calls Try.prog 26 #[.iface T p, .slice ka kinds.length kc, .slice a es.length c, .agg #[.int .i64 x.o, .int .i64 x.e.k, .int .i64 x.e.n, .string x.e.s, .slice x.e.a x.e.xs.length x.e.lc, .int .i64 x.e.t]] w fun r w' => DoesPost St i S es.length (doE kinds (consE es) x) w r w' := by
  obtain ⟨o, e⟩ := x
  simp only []
  by_cases h1 : o = 1
  · subst h1
    exact does_ins M i S w es a c ka kc e hSt hi hK h8 hL he hbig
  · by_cases h2 : o = 2
    · subst h2
      exact does_del M i S w es a c ka kc e hSt hi hK h8 hL he hbig
    · by_cases h3 : o = 3
      · subst h3
        exact does_find M i S w es a c ka kc e hSt hi hK h8 hL he hbig
      · by_cases h4 : o = 4
        · subst h4
          exact does_drop M i S w es a es.length c ka kinds.length kc e.k e.n e.s e.a e.xs.length e.lc e.t hSt hi
        · have hd : doE kinds (consE es) ⟨o, e⟩ = consE es := by unfold doE; rw [if_neg h1, if_neg h2, if_neg h4]
          rw [hd]
          exact does_none M i S w es a c ka kinds.length kc o e.k e.n e.s e.a e.xs.length e.lc e.t hSt hL hup h1 h2 h3 h4

/-- What a script leaves on both sides. -/
def PlaysPost (St : Nat → (Nat → Prop) → World → List Et → Prop) (S : Nat → Prop) (n : Nat) (L : List Et) (w : World) (r : Ending) (w' : World) : Prop :=
  ∃ S' a' c' es', r = .returned (.tuple #[.slice a' (es' : List En).length c', .bool true]) ∧ consE es' = L ∧ Rob S' w' (fun w => EnsW w a' es') ∧ es'.length ≤ n ∧ St n S' w' L ∧ Kept S w w' ∧ ∀ k, S' k → S k ∨ w.heap.size ≤ k

set_option maxHeartbeats 3200000 in
theorem plays_any {T : TypeId} {p : Value} {kinds : List Int} {lim : Nat} {St : Nat → (Nat → Prop) → World → List Et → Prop} {nI nD nF nE nC nX : FuncId} (M : Meth T p kinds lim St nI nD nF nE nC nX)
    (hup : ∀ {i S w l}, St i S w l → St (i + 1) S w l) (S : Nat → Prop) (w : World) (ka : Option Addr) (kc : Nat) (sa : Option Addr) (sc : Nat) (ops : List OpE) (hSt : St 0 S w []) (hlim : ops.length ≤ lim) (hK : Rob S w (fun w => IntsW w ka kinds)) (h8 : kinds.length ≤ 8)
    (hO : Rob S w (fun w => OpsW w sa ops)) (hbig : ops.length ≤ 2199023255540) :
    Calls Try.prog 10 #[.iface T p, .slice ka kinds.length kc, .slice sa ops.length sc] w fun r w' => PlaysPost St S ops.length (playE kinds ops) w r w' := by
  have mC := M.mC
  have aC := M.aC
  have eC := M.eC
  have mE := M.mE
  have aE := M.aE
  have eE := M.eE
  have HM := Lib.hid M; have HK := Lib.hid hK; have HO := Lib.hid hO; have H8 := Lib.hid h8; have HST0 := Lib.hid hSt
  have HUP : Hid (∀ i S w l, St i S w l → St (i + 1) S w l) := Lib.hid (fun i S w l h => hup h)
  obtain ⟨n, hn⟩ : ∃ n, n = ops.length := ⟨_, rfl⟩
  have HN := Lib.hid hn
  rw [← hn] at hlim hbig ⊢
  obtain ⟨kl, hkl⟩ : ∃ kl, kl = kinds.length := ⟨_, rfl⟩
  have HKL := Lib.hid hkl
  rw [← hkl]
  clear M hup hSt hK h8 hO hn hkl
  go_enter Try.func10, Try.ntmps10
  go_wp2
  go_loopw [8, 9] (fun l i wr => ∃ (j m : Nat) (S1 : Nat → Prop) (es : List En) (a : Option Addr) (c : Nat), j ≤ n ∧ i = .int .i64 j ∧ l = .slice a m c ∧ Hid (m = es.length) ∧ Hid (consE es = playE kinds (ops.take j)) ∧ Hid (m ≤ j) ∧ Hid (Rob S1 wr (fun w => EnsW w a es)) ∧ Hid (St j S1 wr (consE es)) ∧ Hid (Kept S w wr) ∧ Hid (∀ k, S1 k → S k ∨ w.heap.size ≤ k)) (fun _ i _ => n - (intOf i).toNat)
  case atStart => exact ⟨0, 0, S, [], none, 0, Nat.zero_le _, rfl, rfl, Lib.hid rfl, Lib.hid rfl, Lib.hid (Nat.zero_le _), Lib.hid (fun _ _ => ⟨.inl rfl, fun x hx => by cases hx⟩), HST0, Lib.hid (Kept.refl S w), Lib.hid (fun _ h => .inl h)⟩
  case round =>
    obtain ⟨j, m, S1, es, a, c, hj, rfl, rfl, HMM, HC, HMJ, HL, HST, HKP, HS1⟩ := hrel
    by_cases hlt : j < n
    · have hlt' : j < ops.length := by rw [← HN.out]; exact hlt
      have hO1 := HO.out.step HKP.out HS1.out
      obtain ⟨b, off, rfl, hbw, hc⟩ : ∃ b off, sa = some ⟨b, off, none⟩ ∧ b < wr.heap.size ∧ _ := by
        rcases hO1.now.lies with h | h
        · rw [h] at hlt'; simp at hlt'
        · exact h
      obtain ⟨c0, c1, c2, c3, c4, c5⟩ := hc j hlt'
      clear hc
      obtain ⟨x, hx⟩ : ∃ x, x = ops[j]'hlt' := ⟨_, rfl⟩
      have hxe : Rob S1 wr x.e.In := hO1.imp (fun w h => h.all x (by rw [hx]; exact List.getElem_mem _))
      have hd := does_any HM.out (fun h => HUP.out _ _ _ _ h) j S1 wr es a c ka kc x HST.out (by omega) (HK.out.step HKP.out HS1.out) H8.out HL.out hxe (by have := HMM.out; have := HMJ.out; omega)
      have hps : playE kinds (ops.take (j + 1)) = doE kinds (consE es) x := by rw [playE_succ hlt', hx, HC.out]
      rw [← hx] at c0 c1 c2 c3 c4 c5
      rw [← hps, ← HMM.out, ← HKL.out] at hd
      obtain ⟨xo, xk, xn, xt, xa, xxs, xlc, xtid⟩ := x
      simp only [] at c0 c1 c2 c3 c4 c5 hd
      obtain ⟨xxl, hxxl⟩ : ∃ xxl, xxl = xxs.length := ⟨_, rfl⟩
      rw [← hxxl] at c4 hd
      have HD := Lib.hid hd
      clear hd hps hx hxe hO1 hxxl
      have hji : (j : Int) < (n : Int) := by omega
      go_wp2_with (go_at_call 26; refine HD.out.mono ?_)
      rintro e w1 hpost
      obtain ⟨S2, a2, c2', es2, rfl, h1, h2, h3, h4, h5, h6⟩ := hpost
      obtain ⟨m2, hm2⟩ : ∃ m2, m2 = es2.length := ⟨_, rfl⟩
      rw [← hm2]
      have HMM2 := Lib.hid hm2
      have HC2 := Lib.hid h1; have HL2 := Lib.hid h2
      have HMJ2 : Hid (m2 ≤ j + 1) := Lib.hid (by have := HMJ.out; omega)
      have HST2 : Hid (St (j + 1) S2 w1 (consE es2)) := Lib.hid (by rw [h1]; exact h4)
      have HS2 : Hid (∀ k, S2 k → S k ∨ w.heap.size ≤ k) := Lib.hid (fun k hk => (h6 k hk).elim (HS1.out k) (fun h => .inr (Nat.le_trans HKP.out.size h)))
      have HKP2 : Hid (Kept S w w1) := Lib.hid (HKP.out.trans h5 HS1.out)
      clear hm2 h1 h2 h3 h4 h5 h6 HD HL HST HKP HS1 c0 c1 c2 c3 c4 c5
      by_cases h16 : (j : Int) % 16 = 0
      · have t16 : (j : Int).tmod 16 = 0 := by rw [Int.tmod_eq_emod_of_nonneg (by omega)]; exact h16
        have HCK := Lib.hid (HM.out.check HST2.out (by omega))
        go_wp2_with fail
        refine HCK.out.mono ?_
        rintro e w2 ⟨S3, rfl, h1, h2, h3⟩
        have HL3 := Lib.hid (HL2.out.step h2 h3)
        have HST3 := Lib.hid h1
        have HS3 : Hid (∀ k, S3 k → S k ∨ w.heap.size ≤ k) := Lib.hid (fun k hk => (h3 k hk).elim (HS2.out k) (fun h => .inr (Nat.le_trans HKP2.out.size h)))
        have HKP3 : Hid (Kept S w w2) := Lib.hid (HKP2.out.trans h2 HS2.out)
        clear h1 h2 h3 HCK HL2 HST2 HS2 HKP2
        go_wp2
        go_roundw
        case rel => exact ⟨j + 1, m2, S3, es2, a2, c2', by omega, by go_num, rfl, HMM2, HC2, HMJ2, HL3, HST3, HKP3, HS3⟩
        case measure => simp [intOf]; omega
      · have t16 : ¬ (j : Int).tmod 16 = 0 := by rw [Int.tmod_eq_emod_of_nonneg (by omega)]; exact h16
        have b16 : ((j : Int) % 16 == 0) = false := by rw [beq_eq_false_iff_ne]; exact h16
        have b16' : ((j : Int).tmod 16 == 0) = false := by rw [beq_eq_false_iff_ne]; exact t16
        go_wp2
        go_roundw
        case rel => exact ⟨j + 1, m2, S2, es2, a2, c2', by omega, by go_num, rfl, HMM2, HC2, HMJ2, HL2, HST2, HKP2, HS2⟩
        case measure => simp [intOf]; omega
    · obtain rfl : j = n := by omega
      have hce : consE es = playE kinds ops := by rw [HC.out, List.take_of_length_le (by rw [HN.out]; exact Nat.le_refl _)]
      have HEN := Lib.hid (HM.out.entries HST.out hlim)
      go_wp2_with fail
      refine HEN.out.mono ?_
      rintro e w1 ⟨S2, a2, c2, es2, rfl, h1, h2, h3, h4, h5⟩
      have hL2 := HL.out.step h4 h5
      have hlen : es2.length = es.length := by
        have := congrArg List.length h2
        unfold consE at this
        rwa [List.length_map, List.length_map] at this
      have hsa := sameAll_any a2 es2 c2 a es c w1 h1 hL2.now (by have := HMM.out; have := HMJ.out; omega)
      have ed : decide (consE es2 = consE es) = true := decide_eq_true h2
      rw [ed, ← HMM.out] at hsa
      rw [hlen, ← HMM.out] at hsa
      rw [hlen, ← HMM.out]
      have HSA := Lib.hid hsa
      have HL2 := Lib.hid hL2; have HST2 := Lib.hid h3
      have HS2 : Hid (∀ k, S2 k → S k ∨ w.heap.size ≤ k) := Lib.hid (fun k hk => (h5 k hk).elim (HS1.out k) (fun h => .inr (Nat.le_trans HKP.out.size h)))
      have HKP2 : Hid (Kept S w w1) := Lib.hid (HKP.out.trans h4 HS1.out)
      have HCE := Lib.hid hce
      clear h1 h2 h3 h4 h5 hL2 hlen hsa ed HEN HL HST HS1 HKP hce
      go_wp2_with (go_at_call 13; refine HSA.out.mono ?_)
      rintro e w2 ⟨rfl, hb2⟩
      have HB2 := Lib.hid hb2
      have HCK := Lib.hid (HM.out.check (HM.out.frame HST2.out (Kept.ofBelow hb2)) hlim)
      clear hb2 HSA
      go_wp2_with fail
      refine HCK.out.mono ?_
      rintro e w3 ⟨S3, rfl, h1, h2, h3⟩
      have HP : Hid (PlaysPost St S j (playE kinds ops) w (.returned (.tuple #[.slice a m c, .bool true])) w3) := Lib.hid ⟨S3, a, c, es, by rw [HMM.out], HCE.out, (HL2.out.below HB2.out).step h2 h3, by rw [← HMM.out]; exact HMJ.out, by rw [← HCE.out]; exact h1, (HKP2.out.trans (Kept.ofBelow (S := S) HB2.out) (fun _ h => .inl h)).trans h2 (fun k hk => HS2.out k hk), fun k hk => (h3 k hk).elim (HS2.out k) (fun h => .inr (Nat.le_trans HKP2.out.size (Nat.le_trans HB2.out.size h)))⟩
      clear h1 h2 h3 HCK
      go_wp2
      go_ret2
      exact HP.out
end Go.Proofs.Ytnnmigglcpkomaa.Dm
