/- Texts of the same proof, one behind the other: SZJ, SZK, SZL, TG, TH, TI. -/
import Derived.Test.YtijggofelepaaaaGreatDoorMAK
import Derived.Deep.RegionHeld3
import Derived.BigQuiet
/- Commit of an action that has something to tell, where the log has room. -/
set_option maxRecDepth 100000
namespace Go.Proofs.YtijggofelepaaaaGreatDoor
open Go.RowKit

def CommitPost (B : Nat) (S : Nat → Prop) (a s d l p n : Nat) (C : Nat → List UInt8) (P : Nat → Nat) (N : Nat) (rs : List ByteArray) (f2 : List UInt8) (h : Hd) (ps : List Pt) (w w' : World) : Prop :=
  ∃ S', Kept (fun k => S k ∨ k = s ∨ k = a) w w' ∧ (∀ k, k < w.heap.size → S' k → S k) ∧ PoolJ (JL (rs ++ [⟨(recB h ps).toArray⟩]) f2) B S' p d n (appC C ps) P (N + 1 + 3 * ps.length) w' ∧ SpaceAt w' s d l p h none ∧ ActAt w' a s h (.map none)

set_option maxHeartbeats 3200000 in
theorem acommit_some (B : Nat) (S : Nat → Prop) (a s d l p n db m : Nat) (C : Nat → List UInt8) (P : Nat → Nat) (N : Nat) (rs : List ByteArray) (f2 : List UInt8) (last h : Hd) (D : Nat → Option Dr) (ks : List Nat) (w : World)
    (x : ActSt w a s d l p db m last h D) (hs : ¬ S s) (ha : ¬ S a) (lg : LogOn l d w) (hl : ¬ S l) (hla : l ≠ a ∧ l ≠ s) (g : PoolJ (JL rs f2) B S p d n C P N w) (hks : KeysOf D ks) (hne : allPts D ks ≠ []) (hf : ∀ p ∈ allPts D ks, p.Fits) (hsz : (recB h (allPts D ks)).length ≤ 16777216)
    (hrs : Recs rs) (hc : appCode rs ⟨(recB h (allPts D ks)).toArray⟩ = 0) (hP : pinnedN P ≠ n) (hN : N + 1 + 3 * (allPts D ks).length ≤ 4398046511104) :
    Calls Tryz.prog 16 #[.pointer (some ⟨a, 0, none⟩)] w fun e w' => e = .returned (.int .i64 0) ∧ CommitPost B S a s d l p n C P N rs f2 h (allPts D ks) w w' := by
  obtain ⟨ps, hps⟩ : ∃ ps, ps = allPts D ks := ⟨_, rfl⟩
  rw [← hps] at hne hf hsz hc hN ⊢
  have HR := Lib.hid x.live
  unfold Refused at HR
  have hone : ∀ ks', KeysOf D ks' → ks' = ks := fun ks' hk' => List.Perm.eq_of_pairwise (le := fun a b => a < b) (fun a b _ _ h1 h2 => by omega) hk'.1 hks.1 ((List.perm_ext_iff_of_nodup (hk'.1.imp (fun h => by omega)) (hks.1.imp (fun h => by omega))).2 fun q => by rw [hk'.2, hks.2])
  have HAP : Hid (Calls Tryz.prog 47 #[.pointer (some ⟨a, 0, none⟩)] w fun e w' => ∃ al c, e = .returned (.slice al ps.length c) ∧ PtsAt w.heap.size w' (.slice al ps.length c) ps ∧ Below w.heap.size w w') := Lib.hid ((apatches_any a s db m h D w x.ac x.dr).mono fun e w' ⟨v, ks', h1, h2, h3, h4⟩ => by
    obtain rfl := hone ks' h2
    rw [← hps] at h3
    obtain ⟨al, c, rfl⟩ := h3.shape
    exact ⟨al, c, h1, h3, h4⟩)
  have HFIN : Hid (∀ w1 v, PtsAt w.heap.size w1 v ps → Below w.heap.size w w1 → Calls Tryz.prog 40 #[.pointer (some ⟨a, 0, none⟩)] w1 fun e w2 => e = .returned (.tuple #[]) ∧ Hid (∀ W, Below w2.heap.size w2 W →
      ((W.cell? ⟨a, 1, none⟩ = some (.pointer (some ⟨s, 1, none⟩)) ∧ W.rangeAt a 2 h.cells) ∧ Calls Tryz.prog 48 #[.pointer (some ⟨s, 1, none⟩), .agg h.cells.toArray, v] W fun e w' => e = .returned (.int .i64 0) ∧
        (w'.cell? ⟨a, 1, none⟩ = some (.pointer (some ⟨s, 1, none⟩)) ∧ w'.rangeAt a 2 h.cells) ∧ CommitPost B S a s d l p n C P N rs f2 h ps w w'))) := Lib.hid (fun w1 v hp1 hb1 => by
    have x1 := x.below hb1
    refine (end_any a s d l p h last _ (some a) w1 x1.ac x1.sp x1.ok x1.okl x1.ne.1).mono ?_
    rintro e w2 ⟨rfl, ha2, hs2, hk2⟩
    refine ⟨rfl, Lib.hid (fun W hbW => ?_)⟩
    have haW := ha2.below hbW
    have hsW := hs2.below hbW
    refine ⟨⟨haW.st, haW.hd⟩, ?_⟩
    have g1 := g.below hb1
    have hkw : Kept (fun k => k = s ∨ k = a) w1 W := hk2.trans (Kept.ofBelow (S := fun k => k = s ∨ k = a) hbW) (fun _ hi => .inl hi)
    have g2 : PoolJ (JL rs f2) B S p d n C P N W := g1.kept hkw (fun k _ hk => by
      rintro (rfl | rfl)
      · exact hs hk
      · exact ha hk)
    have lg2 : LogOn l d W := (lg.below hb1).kept hkw (by rintro (h | h); exact hla.2 h; exact hla.1 h)
    have hown : ∀ b, v.ownBlock = some b → w.heap.size ≤ b ∧ b < w1.heap.size := fun b hb => World.ownsRow.lt hp1 b hb
    have hlts := x.sp.lt
    have hlta := x.ac.lt
    have hpW : PtsAt w.heap.size W v ps := ownsRow_of_block hp1 (fun b hb => hkw.block b (hown b hb).2 (by have := (hown b hb).1; omega))
    have hltS : ∀ b, S b → b < w.heap.size := fun b hb => (g.low b hb).2
    have hszs : w.heap.size ≤ W.heap.size := Nat.le_trans hb1.size hkw.size
    refine (finish_ok B S s d l p n C P N rs f2 last h none v ps w.heap.size W hsW x.okl.len x.ok hs lg2 hl g2 hpW (fun b hb hS => by have := hltS b hS; have := (hown b hb).1; omega) hf hsz hrs hc hP hN).mono ?_
    rintro e w' ⟨rfl, S', h1, h2, h3, h4⟩
    have haw' : ActAt w' a s h (.map none) := haW.kept h1 (by rintro (hh | hh); exact ha hh; exact x.ne.1 hh)
    refine ⟨rfl, ⟨haw'.st, haw'.hd⟩, S', ?_, fun k hk hh => h2 k (by omega) hh, h3, h4, haw'⟩
    refine (((Kept.ofBelow (S := fun k => S k ∨ k = s ∨ k = a) hb1).trans (hkw.mono (T := fun k => S k ∨ k = s ∨ k = a) (fun k hk => .inr hk)) (fun _ hi => .inl hi)).trans (h1.mono (T := fun k => S k ∨ k = s ∨ k = a) (fun k hk => hk.imp id .inl)) (fun _ hi => .inl hi)))
  have hlen : ps.length ≠ 0 := fun h0 => hne (List.eq_nil_of_length_eq_zero h0)
  obtain ⟨ll, hll⟩ : ∃ ll, ll = ps.length := ⟨_, rfl⟩
  rw [← hll] at HAP hlen
  have hl0 : ((ll : Int) == 0) = false := by simp; omega
  have hl1 : decide ((ll : Int) = 0) = false := decide_eq_false (by omega)
  have hl2 : ¬ (ll : Int) = 0 := by omega
  obtain ⟨X, hX⟩ : ∃ X : List Value, X = h.cells := ⟨_, rfl⟩
  have HXL : Hid ((Tryz.prog.info? 37).map (·.size) = some X.length) := Lib.hid (by rw [hX, Hd.cells_length x.ok]; exact sizeHd)
  rw [← hX] at HFIN
  clear x hs ha lg hl hla g hks hne hf hsz hrs hc hP hN hone hll hX hps hlen
  go_enter Tryz.func16, Tryz.ntmps16
  go_wp2_with fail
  refine HR.out.mono ?_
  rintro e w' ⟨rfl, hw⟩
  subst w'
  go_wp2_with fail
  refine HAP.out.mono ?_
  rintro e w1 ⟨al, c, rfl, hp1, hb1⟩
  have HEN := Lib.hid (HFIN.out w1 _ hp1 hb1)
  clear hp1 hb1
  go_wp2_with fail
  refine HEN.out.mono ?_
  rintro e w2 ⟨rfl, HW⟩
  go_wp2
  go_quiet (fail)
  obtain ⟨W, hW⟩ : ∃ W, W = w2.drewN nq := ⟨_, rfl⟩
  rw [← hW]
  have hwb : Below w2.heap.size w2 W.drew := by rw [hW]; exact ⟨rfl, rfl, rfl, Nat.le_refl _, fun _ _ => rfl⟩
  obtain ⟨hS0, hcall⟩ := HW.out _ hwb
  have HS0 := Lib.hid hS0
  have HCA := Lib.hid hcall
  clear hW hwb hS0 hcall
  go_wp2
  refine wp_region_held_drew (S := fun W => W.cell? ⟨a, 1, none⟩ = some (.pointer (some ⟨s, 1, none⟩)) ∧ W.rangeAt a 2 X) (by kernel_rfl) HS0.out (fun hHeld => ?_)
  refine wpAnyH_take (i := 0) (v := .pointer (some ⟨a, 0, none⟩)) rfl (by kernel_rfl) (by kernel_rfl) (by kernel_rfl) (fun _ _ _ h => h) (Or.inl ⟨by rfl, fun W hW => by clear hW; go_simp⟩) HS0.out ?_
  refine wpAnyH_take (i := 1) (v := .pointer (some ⟨a, 0, none⟩)) rfl (by kernel_rfl) (by kernel_rfl) (by kernel_rfl) (fun _ _ _ h => h) (Or.inl ⟨by rfl, fun W hW => by clear hW; go_simp⟩) HS0.out ?_
  refine wpAnyH_take (i := 2) (v := .pointer (some ⟨a, 1, none⟩)) rfl (by kernel_rfl) (by kernel_rfl) (by kernel_rfl) (fun _ _ _ h => h) (Or.inl ⟨by rfl, fun W hW => by clear hW; go_simp⟩) HS0.out ?_
  refine wpAnyH_take (i := 3) (v := .pointer (some ⟨s, 1, none⟩)) rfl (by kernel_rfl) (by kernel_rfl) (by kernel_rfl) (fun _ _ _ h => h) (Or.inl ⟨by rfl, fun W hW => by have hh := hW.1; clear hW; go_simp⟩) HS0.out ?_
  refine wpAnyH_take (i := 4) (v := .pointer (some ⟨a, 0, none⟩)) rfl (by kernel_rfl) (by kernel_rfl) (by kernel_rfl) (fun _ _ _ h => h) (Or.inl ⟨by rfl, fun W hW => by clear hW; go_simp⟩) HS0.out ?_
  refine wpAnyH_take (i := 5) (v := .pointer (some ⟨a, 0, none⟩)) rfl (by kernel_rfl) (by kernel_rfl) (by kernel_rfl) (fun _ _ _ h => h) (Or.inl ⟨by rfl, fun W hW => by clear hW; go_simp⟩) HS0.out ?_
  refine wpAnyH_take (i := 6) (v := .pointer (some ⟨a, 2, none⟩)) rfl (by kernel_rfl) (by kernel_rfl) (by kernel_rfl) (fun _ _ _ h => h) (Or.inl ⟨by rfl, fun W hW => by clear hW; go_simp⟩) HS0.out ?_
  refine wpAnyH_take (i := 7) (v := .agg X.toArray) rfl (by kernel_rfl) (by kernel_rfl) (by kernel_rfl) (fun _ _ _ h => h) (yieldsIf_load_mid (by rfl) 37 _ rfl a 2 rfl X _ (fun W hW => hW.2) Tryz.underlying37 rfl HXL.out) HS0.out ?_
  refine wpAnyH_take (i := 8) (v := .slice al ll c) rfl (by kernel_rfl) (by kernel_rfl) (by kernel_rfl) (fun _ _ _ h => h) (Or.inl ⟨by rfl, fun W hW => by clear hW; go_simp⟩) HS0.out ?_
  refine wpAnyH_ready (rs := [9]) (by kernel_rfl) (by simp) ?_
  refine AllReadyH.cons rfl (fun K hK => ?_) AllReadyH.nil
  go_simp
  go_at_call 48
  refine HCA.out.mono ?_
  rintro e w4 ⟨rfl, hS4, hpost⟩
  have HPO := Lib.hid hpost
  clear hpost
  refine hK.out _ _ hS4 (fun hHeld2 => ?_)
  clear hK K
  refine wpAnyH_take (i := 10) (v := .int .i64 0) rfl (by kernel_rfl) (by kernel_rfl) (by kernel_rfl) (fun _ _ _ h => h) (Or.inl ⟨by rfl, fun W hW => by clear hW; go_simp⟩) hS4 ?_
  refine wpAnyH_done (by kernel_rfl) ?_ _
  clear hHeld hHeld2
  go_wp2
  go_ret
  exact ⟨rfl, HPO.out⟩
end Go.Proofs.YtijggofelepaaaaGreatDoor

/- What a record's bytes tell is the head and the patches that they are of. -/
set_option maxRecDepth 100000
namespace Go.Proofs.YtijggofelepaaaaGreatDoor
open Go.RowKit

theorem numB_succ (k n : Nat) : numB (k + 1) n = numB k (n / 256) ++ [UInt8.ofNat n] := by
  unfold numB
  rw [List.range_succ, List.map_append, List.map_cons, List.map_nil]
  congr 1
  · refine List.map_congr_left fun j hj => ?_
    have hj := List.mem_range.1 hj
    rw [Nat.div_div_eq_div_mul, show k + 1 - 1 - j = (k - 1 - j) + 1 by omega, Nat.pow_succ, Nat.mul_comm 256]
  · rw [show k + 1 - 1 - k = 0 by omega]; simp
theorem v4_numB : ∀ (k n : Nat), n < 256 ^ k → v4 (numB k n) = n
  | 0, n, h => by simp at h; subst h; rfl
  | k + 1, n, h => by
    rw [numB_succ, v4_snoc, v4_numB k (n / 256) (by rw [Nat.pow_succ] at h; omega), UInt8.toNat_ofNat']
    omega
theorem rTk_append (a l : List UInt8) (sh : Bool) (k : Nat) (h : a.length = k) : rTk (a ++ l) sh k = (a, l, sh) := by
  subst h
  unfold rTk
  rw [if_neg (by simp), List.take_left', List.drop_left'] <;> rfl
theorem rNum_numB (k n : Nat) (l : List UInt8) (sh : Bool) (h : n < 256 ^ k) : rNum (numB k n ++ l, sh) k = (n, (l, sh)) := by
  unfold rNum
  simp only
  rw [rTk_append _ _ _ _ (numB_length k n), v4_numB k n h]

/-- A head with roots set, one by one; with words. -/
def setRs (y : Hd) (f : Nat → Nat) : Nat → Hd
  | 0 => y
  | k + 1 => (setRs y f k).setRoot k (f k)
def setWs (y : Hd) (f : Nat → Nat) : Nat → Hd
  | 0 => y
  | k + 1 => (setWs y f k).setWord k (f k)
theorem rRoots_of (y : Hd) (f : Nat → Nat) (hf : ∀ i, f i < 2147483648) (sh : Bool) : ∀ (k : Nat) (l : List UInt8), rRoots k (y, (((List.range k).flatMap fun i => numB 4 (f i)) ++ l, sh)) = (setRs y f k, (l, sh))
  | 0, l => by simp [rRoots, setRs]
  | k + 1, l => by
    rw [flat_succ, List.append_assoc, rRoots, rRoots_of y f hf sh k, rNum_numB 4 (f k) l sh (by have := hf k; omega)]
    rfl
theorem rWords_of (y : Hd) (f : Nat → Nat) (hf : ∀ i, f i < 18446744073709551616) (sh : Bool) : ∀ (k : Nat) (l : List UInt8), rWords k (y, (((List.range k).flatMap fun i => numB 8 (f i)) ++ l, sh)) = (setWs y f k, (l, sh))
  | 0, l => by simp [rWords, setWs]
  | k + 1, l => by
    rw [flat_succ, List.append_assoc, rWords, rWords_of y f hf sh k, rNum_numB 8 (f k) l sh (by have := hf k; omega)]
    rfl
theorem setRs_count (y : Hd) (f : Nat → Nat) : ∀ k, (setRs y f k).count = y.count
  | 0 => rfl
  | k + 1 => setRs_count y f k
theorem setRs_free (y : Hd) (f : Nat → Nat) : ∀ k, (setRs y f k).free = y.free
  | 0 => rfl
  | k + 1 => setRs_free y f k
theorem setWs_count (y : Hd) (f : Nat → Nat) : ∀ k, (setWs y f k).count = y.count
  | 0 => rfl
  | k + 1 => setWs_count y f k
theorem setWs_roots (y : Hd) (f : Nat → Nat) : ∀ k, (setWs y f k).roots = y.roots
  | 0 => rfl
  | k + 1 => setWs_roots y f k
theorem setRs_get (y : Hd) (f : Nat → Nat) : ∀ k, (setRs y f k).roots.length = y.roots.length ∧ ∀ i, i < y.roots.length → (setRs y f k).roots[i]? = if i < k then some (f i) else y.roots[i]?
  | 0 => ⟨rfl, fun i _ => by simp [setRs]⟩
  | k + 1 => by
    obtain ⟨h1, h2⟩ := setRs_get y f k
    refine ⟨by simp [setRs, Hd.setRoot, h1], fun i hi => ?_⟩
    simp only [setRs, Hd.setRoot]
    by_cases hk : i = k
    · subst hk
      rw [List.getElem?_set_self (by omega), if_pos (by omega)]
    · rw [List.getElem?_set_ne (by omega), h2 i hi]
      by_cases h : i < k
      · rw [if_pos h, if_pos (by omega)]
      · rw [if_neg h, if_neg (by omega)]
theorem setWs_get (y : Hd) (f : Nat → Nat) : ∀ k, (setWs y f k).free.length = y.free.length ∧ ∀ i, i < y.free.length → (setWs y f k).free[i]? = if i < k then some (f i) else y.free[i]?
  | 0 => ⟨rfl, fun i _ => by simp [setWs]⟩
  | k + 1 => by
    obtain ⟨h1, h2⟩ := setWs_get y f k
    refine ⟨by simp [setWs, Hd.setWord, h1], fun i hi => ?_⟩
    simp only [setWs, Hd.setWord]
    by_cases hk : i = k
    · subst hk
      rw [List.getElem?_set_self (by omega), if_pos (by omega)]
    · rw [List.getElem?_set_ne (by omega), h2 i hi]
      by_cases h : i < k
      · rw [if_pos h, if_pos (by omega)]
      · rw [if_neg h, if_neg (by omega)]

/-- The words that tell of no page are noughts. -/
theorem Hd.Ok.word_zero {h : Hd} (k : h.Ok) {i : Nat} (hi : h.count / 64 < i) : h.word i = 0 := by
  refine Nat.eq_of_testBit_eq fun b => ?_
  rw [Nat.zero_testBit]
  by_cases hb : b < 64
  · cases hv : (h.word i).testBit b with
    | false => rfl
    | true =>
      have hf : h.isFree (64 * i + b) = true := by
        unfold Hd.isFree
        rw [show (64 * i + b) / 64 = i by omega, show (64 * i + b) % 64 = b by omega]
        exact hv
      have := (k.in_ _ hf).2
      omega
  · exact Nat.testBit_lt_two_pow (Nat.lt_of_lt_of_le (k.lt i) (by
      have : (2 : Nat) ^ 64 ≤ 2 ^ b := Nat.pow_le_pow_right (by omega) (by omega)
      omega))

theorem rHd_hdB (h : Hd) (k : h.Ok) (l : List UInt8) (sh : Bool) : rHd (hdB h ++ l, sh) = (h, (l, sh)) := by
  have hc := k.cnt
  have e1 : rNum (hdB h ++ l, sh) 2 = (h.count, (((List.range 16).flatMap fun i => numB 4 (h.root i)) ++ (((List.range (h.count / 64 + 1)).flatMap fun i => numB 8 (h.word i)) ++ l), sh)) := by
    unfold hdB
    rw [List.append_assoc, List.append_assoc, rNum_numB 2 h.count _ sh (by omega)]
  unfold rHd
  rw [e1]
  simp only
  rw [if_neg (by omega), rRoots_of _ h.root k.rt sh 16, rWords_of _ h.word k.lt sh]
  congr 1
  have hroots : (setRs (Hd.zero.setCount h.count) h.root 16).roots = h.roots := by
    refine List.ext_getElem? fun i => ?_
    obtain ⟨g1, g2⟩ := setRs_get (Hd.zero.setCount h.count) h.root 16
    have hl : (Hd.zero.setCount h.count).roots.length = 16 := rfl
    by_cases hi : i < 16
    · rw [g2 i (by omega), if_pos hi, Hd.root, List.getD_eq_getElem?_getD, List.getElem?_eq_getElem (by rw [k.nr]; exact hi)]
      rfl
    · rw [List.getElem?_eq_none (by omega), List.getElem?_eq_none (by rw [k.nr]; omega)]
  have hfree : (setWs (setRs (Hd.zero.setCount h.count) h.root 16) h.word (h.count / 64 + 1)).free = h.free := by
    refine List.ext_getElem? fun i => ?_
    obtain ⟨g1, g2⟩ := setWs_get (setRs (Hd.zero.setCount h.count) h.root 16) h.word (h.count / 64 + 1)
    have hl : (setRs (Hd.zero.setCount h.count) h.root 16).free = List.replicate 64 0 := by rw [setRs_free]; rfl
    rw [hl] at g1 g2
    simp only [List.length_replicate] at g1 g2
    by_cases hi : i < 64
    · have hw : h.free[i]? = some (h.word i) := by
        rw [Hd.word, List.getD_eq_getElem?_getD, List.getElem?_eq_getElem (by rw [k.nf]; exact hi)]; rfl
      rw [g2 i hi, hw]
      by_cases hs : i < h.count / 64 + 1
      · rw [if_pos hs]
      · rw [if_neg hs, k.word_zero (by omega), List.getElem?_replicate, if_pos hi]
    · rw [List.getElem?_eq_none (by omega), List.getElem?_eq_none (by rw [k.nf]; omega)]
  have hcount : (setWs (setRs (Hd.zero.setCount h.count) h.root 16) h.word (h.count / 64 + 1)).count = h.count := by rw [setWs_count, setRs_count]; rfl
  have hroots2 : (setWs (setRs (Hd.zero.setCount h.count) h.root 16) h.word (h.count / 64 + 1)).roots = h.roots := by rw [setWs_roots, hroots]
  obtain ⟨c, f, r⟩ := h
  generalize setWs (setRs (Hd.zero.setCount c) (Hd.root ⟨c, f, r⟩) 16) (Hd.word ⟨c, f, r⟩) (c / 64 + 1) = y at *
  obtain ⟨c', f', r'⟩ := y
  simp only at hfree hcount hroots2
  subst hfree hcount hroots2
  rfl

theorem rPt_ptB (p : Pt) (l : List UInt8) (sh : Bool) (h1 : p.page < 65536) (h2 : p.at_ < 65536) (h3 : p.s.size < 65536) : rPt (ptB p ++ l, sh) = ((p.page, p.at_, p.s.data.toList), (l, sh)) := by
  have e : ptB p ++ l = numB 2 p.page ++ (numB 2 p.at_ ++ (numB 2 p.s.size ++ (p.s.data.toList ++ l))) := by simp [ptB]
  unfold rPt
  rw [e, rNum_numB 2 p.page _ sh (by omega)]
  simp only
  rw [rNum_numB 2 p.at_ _ sh (by omega)]
  simp only
  rw [rNum_numB 2 p.s.size _ sh (by omega)]
  simp only
  rw [rTk_append _ _ _ _ (show p.s.data.toList.length = p.s.size from rfl)]
theorem ptB_length (p : Pt) : (ptB p).length = 6 + p.s.size := by
  have : p.s.data.toList.length = p.s.size := rfl
  simp only [ptB, List.length_append, numB_length, this]
theorem rPts_ptB (sh : Bool) : ∀ (ps : List Pt) (f : Nat), (ps.flatMap ptB).length ≤ f → (∀ p ∈ ps, p.page < 65536 ∧ p.at_ < 65536 ∧ p.s.size < 65536) → rPts f (ps.flatMap ptB, sh) = (ps, ([], sh))
  | [], f, _, _ => by cases f <;> simp [rPts]
  | p :: r, 0, hf, _ => by
    rw [List.flatMap_cons, List.length_append, ptB_length] at hf
    omega
  | p :: r, f + 1, hf, hp => by
    obtain ⟨h1, h2, h3⟩ := hp p (by simp)
    have hne : (p :: r).flatMap ptB ≠ [] := fun e => by
      have := congrArg List.length e
      rw [List.flatMap_cons, List.length_append, ptB_length] at this
      simp at this
    have hl : (r.flatMap ptB).length ≤ f := by
      rw [List.flatMap_cons, List.length_append, ptB_length] at hf
      omega
    unfold rPts
    rw [if_neg hne, List.flatMap_cons, rPt_ptB p _ sh h1 h2 h3]
    simp only
    rw [rPts_ptB sh r f hl (fun q hq => hp q (by simp [hq]))]

/-- A record tells what it is of. -/
theorem tells_rec (h : Hd) (k : h.Ok) (ps : List Pt) (hl : ps.length ≤ 4194304) (hf : ∀ p ∈ ps, p.Fits) : Tells ⟨(recB h ps).toArray⟩ (h, ps) := by
  have hp : ∀ p ∈ ps, p.page < 65536 ∧ p.at_ < 65536 ∧ p.s.size < 65536 := fun p hp => by
    obtain ⟨h1, h2⟩ := hf p hp
    have h3 : p.s.size ≤ 512 := by
      by_cases h0 : p.s.size = 0
      · omega
      · have : p.bytes = p.s.data.toList := by unfold Pt.bytes; rw [if_neg h0]
        rw [this] at h2
        have : p.s.data.toList.length = p.s.size := rfl
        omega
    omega
  refine ⟨(ps.flatMap ptB, false), ([], false), ?_, ?_, rfl, hl, hf⟩
  · show rHd (recB h ps, false) = _
    unfold recB
    exact rHd_hdB h k _ false
  · exact rPts_ptB false ps _ (Nat.le_refl _) hp
end Go.Proofs.YtijggofelepaaaaGreatDoor

/- A space at rest and an action that goes on, each with all that they stand on; their calls leave all that is older than B. -/
set_option maxRecDepth 100000
namespace Go.Proofs.YtijggofelepaaaaGreatDoor
open Go.RowKit

def P0 : Nat → Nat := fun _ => 0
theorem pinned0 {n : Nat} (h : 0 < n) : pinnedN P0 ≠ n := by rw [pinnedN_zero (P := P0) (fun _ => rfl)]; omega
/-- J is closed under saved pages. -/
def Saves (J : List RawOp → Prop) : Prop := ∀ ops q bs, J ops → J (ops ++ [.put 1 (q * 512) bs])
theorem Saves.jl (rs : List ByteArray) (f2 : List UInt8) : Saves (JL rs f2) := fun ops q bs h => JL.save ops q bs h

/-- A space at block s, on its log, pool and disk. -/
structure SpSt (J : List RawOp → Prop) (B : Nat) (S : Nat → Prop) (s d l p n : Nat) (C : Nat → List UInt8) (N : Nat) (last : Hd) (cur : Option Nat) (w : World) : Prop where
  sp : SpaceAt w s d l p last cur
  ok : last.Ok
  pool : PoolJ J B S p d n C P0 N w
  lg : LogOn l d w
  ns : ¬ S s
  nl : ¬ S l
  ne : l ≠ s
  low : B ≤ s ∧ B ≤ l
  n0 : 0 < n

/-- An action at block a of the space at block s, that goes on. -/
structure LiveSt (J : List RawOp → Prop) (B : Nat) (S : Nat → Prop) (a s d l p db m n : Nat) (C : Nat → List UInt8) (N : Nat) (last h : Hd) (D : Nat → Option Dr) (w : World) : Prop where
  act : ActSt w a s d l p db m last h D
  pool : PoolJ J B S p d n C P0 N w
  lg : LogOn l d w
  ns : ¬ S s
  na : ¬ S a
  nl : ¬ S l
  nb : ¬ S db
  nd : ∀ q x, D q = some x → ¬ S x.blk
  ne : l ≠ a ∧ l ≠ s ∧ l ≠ db ∧ ∀ q x, D q = some x → x.blk ≠ l
  low : B ≤ a ∧ B ≤ s ∧ B ≤ l ∧ B ≤ db ∧ ∀ q x, D q = some x → B ≤ x.blk
  n0 : 0 < n

section
variable {J : List RawOp → Prop} {B a s d l p db m n N : Nat} {S : Nat → Prop} {C : Nat → List UInt8} {last h : Hd} {cur : Option Nat} {D : Nat → Option Dr} {w w' : World}

theorem SpSt.size (g : SpSt J B S s d l p n C N last cur w) : B ≤ w.heap.size := g.pool.size
theorem LiveSt.size (g : LiveSt J B S a s d l p db m n C N last h D w) : B ≤ w.heap.size := g.pool.size
theorem LiveSt.below (g : LiveSt J B S a s d l p db m n C N last h D w) (hb : Below w.heap.size w w') : LiveSt J B S a s d l p db m n C N last h D w' :=
  ⟨g.act.below hb, g.pool.below hb, g.lg.below hb, g.ns, g.na, g.nl, g.nb, g.nd, g.ne, g.low, g.n0⟩
theorem SpSt.more (g : SpSt J B S s d l p n C N last cur w) {M : Nat} (hM : N ≤ M) : SpSt J B S s d l p n C M last cur w :=
  ⟨g.sp, g.ok, g.pool.more hM, g.lg, g.ns, g.nl, g.ne, g.low, g.n0⟩
theorem LiveSt.more (g : LiveSt J B S a s d l p db m n C N last h D w) {M : Nat} (hM : N ≤ M) : LiveSt J B S a s d l p db m n C M last h D w :=
  ⟨g.act, g.pool.more hM, g.lg, g.ns, g.na, g.nl, g.nb, g.nd, g.ne, g.low, g.n0⟩
/-- What the pool's blocks turn leaves the action. -/
theorem LiveSt.turn (g : LiveSt J B S a s d l p db m n C N last h D w) {S' : Nat → Prop} {M : Nat} {J' : List RawOp → Prop} (ht : Turn S w S' w') (hp : PoolJ J' B S' p d n C P0 M w') : LiveSt J' B S' a s d l p db m n C M last h D w' := by
  have h1 := g.act.sp.lt; have h2 := g.act.ac.lt; have h3 := g.act.dr.ltM; have h4 := g.lg.lt
  refine ⟨g.act.kept ht.1 g.na g.ns g.nb g.nd, hp, g.lg.kept ht.1 g.nl, ht.not h1 g.ns, ht.not h2 g.na, ht.not h4 g.nl, ht.not h3 g.nb, fun q x hq => ht.not (g.act.dr.at_ q x hq).2.2.2.2.2.2 (g.nd q x hq), g.ne, g.low, g.n0⟩
/-! ### Open, Begin -/
theorem open_sp (ops : List RawOp) (rs : List ByteArray) (xs : List (Hd × List Pt)) (g : DiskAt S d ops w) (hS : ∀ k, S k → B ≤ k ∧ k < w.heap.size) (hp : play ops 0 = logB rs) (hrs : Recs rs) (h1 : 4 ≤ n) (h2 : n ≤ 1024) (hNo : ops.length ≤ N) (hJ : J ops)
    (hlen : rs.length = xs.length) (hx : ∀ i (h1 : i < rs.length) (h2 : i < xs.length), Tells rs[i] xs[i]) (hN : resN N xs ≤ 4398046511104) (hok : (resH Hd.zero xs).Ok)
    (hcl : Saves J) (hJ2 : ∀ ops, J ops → (rHd (play ops 2, false)).2.2 = true) (hB : B ≤ w.heap.size) :
    Calls Tryz.prog 6 #[.pointer (some ⟨d, 0, none⟩), .int .i64 n] w fun e w' => ∃ s l p S', e = .returned (.tuple #[.pointer (some ⟨s, 0, none⟩), .int .i64 0]) ∧ SpSt J B S' s d l p n (resC (fun q => pageOf (play ops 1) q) xs) (resN N xs) (resH Hd.zero xs) none w' ∧ Below B w w' := by
  refine (sopen_ok J B d n N S ops rs xs w g hS hp hrs h1 h2 hNo hJ hlen hx hN hcl hJ2).mono ?_
  rintro e w' ⟨s, l, p, S', rfl, ⟨a1, a2, a3, a4, a5⟩, hlg, hsp, hpool, hk, _⟩
  exact ⟨s, l, p, S', rfl, ⟨hsp, hok, hpool, hlg, a4, a5, a3, ⟨by omega, by omega⟩, by omega⟩, hk.toBelow hB (fun i hi => (hS i hi).1)⟩

theorem dr_none {db : Nat} (hm : PMap w db 0 (fun _ => none)) : DraftsAt w db 0 (fun _ => none) :=
  ⟨⟨_, hm, (fun q x hq => by cases hq), (fun q v hv => by cases hv)⟩, (fun q x hq => by cases hq), (fun q q' x y hq => by cases hq)⟩

theorem begin_sp (g : SpSt J B S s d l p n C N last none w) :
    Calls Tryz.prog 8 #[.pointer (some ⟨s, 0, none⟩)] w fun e w' => ∃ a db, e = .returned (.tuple #[.pointer (some ⟨a, 0, none⟩), .int .i64 0]) ∧ LiveSt J B S a s d l p db 0 n C N last last (fun _ => none) w' ∧ Below B w w' ∧ w.heap.size ≤ a ∧ Kept (fun k => k = s) w w' := by
  refine (begin_ok s d l p last w g.sp g.ok).mono ?_
  rintro e w' ⟨a, db, rfl, hac, hm, hsp, ha, hdb, hne, hk⟩
  have hsz := g.size
  have hlS : ∀ k, S k → k < w.heap.size := fun k hk => (g.pool.low k hk).2
  have hll := g.lg.lt
  have hls := g.sp.lt
  refine ⟨a, db, rfl, ⟨⟨hsp, hac, dr_none hm, g.ok, g.ok, (fun q x hq => by cases hq), ⟨by omega, hne, by omega⟩, (fun q x hq => by cases hq)⟩, g.pool.kept hk (fun k _ hS he => g.ns (he ▸ hS)), g.lg.kept hk g.ne, g.ns, fun hh => by have := hlS _ hh; omega, g.nl, fun hh => by have := hlS _ hh; omega, (fun q x hq => by cases hq), ⟨by omega, g.ne, by omega, (fun q x hq => by cases hq)⟩, ⟨by omega, g.low.1, g.low.2, by omega, (fun q x hq => by cases hq)⟩, g.n0⟩, hk.toBelow hsz (fun i hi => by have := g.low.1; omega), ha, hk⟩

/-! ### An action's calls -/
/-- The action's own blocks have turned, no others. -/
theorem LiveSt.bel (g : LiveSt J B S a s d l p db m n C N last h D w) (hk : Kept (fun k => k = a ∨ k = db) w w') : Below B w w' := hk.toBelow g.size (fun i hi => by rcases hi with rfl | rfl <;> have := g.low <;> omega)

theorem alloc_live (g : LiveSt J B S a s d l p db m n C N last h D w) (hT : Tab w) :
    Calls Tryz.prog 11 #[.pointer (some ⟨a, 0, none⟩)] w fun e w' =>
      (∃ q h' b, h.NextIs q h' ∧ e = .returned (.tuple #[.int .i64 q, .int .i64 0]) ∧ LiveSt J B S a s d l p db (m + 1) n C N last h' (upd D q (some ⟨b, true, noughts, noughts⟩)) w' ∧ Below B w w' ∧ Kept (fun k => k = a ∨ k = db) w w' ∧ w.heap.size ≤ b) ∨
      ((∀ j, h.isFree j = false) ∧ h.count = 4095 ∧ e = .returned (.tuple #[.int .i64 0, .int .i64 2]) ∧ w' = w) := by
  refine (aalloc_live g.act hT (by have := g.act.dr.few; omega)).mono ?_
  rintro e w' (⟨q, h', b, hn, rfl, hb, hx, hk⟩ | ⟨h1, h2, rfl, rfl⟩)
  · have hlS : ∀ k, S k → k < w.heap.size := fun k hk => (g.pool.low k hk).2
    have hll := g.lg.lt
    have hsz := g.size
    refine .inl ⟨q, h', b, hn, rfl, ⟨hx, g.pool.kept hk (fun k _ hS he => by rcases he with rfl | rfl; exact g.na hS; exact g.nb hS), g.lg.kept hk (by rintro (hh | hh); exact g.ne.1 hh; exact g.ne.2.2.1 hh), g.ns, g.na, g.nl, g.nb, fun j y hj => ?_, ⟨g.ne.1, g.ne.2.1, g.ne.2.2.1, fun j y hj => ?_⟩, ⟨g.low.1, g.low.2.1, g.low.2.2.1, g.low.2.2.2.1, fun j y hj => ?_⟩, g.n0⟩, g.bel hk, hk, hb⟩
    all_goals
      by_cases hjq : j = q
      · subst hjq; rw [upd_same] at hj; cases hj
        first
          | (intro hh; have := hlS _ hh; simp only at this; omega)
          | (simp only; omega)
      · rw [upd_other _ _ hjq] at hj
        first
          | exact g.nd j y hj
          | exact g.ne.2.2.2 j y hj
          | exact g.low.2.2.2.2 j y hj
  · exact .inr ⟨h1, h2, rfl, rfl⟩

theorem root_live (q : Nat) (g : LiveSt J B S a s d l p db m n C N last h D w) (hq : q < 16) :
    Calls Tryz.prog 12 #[.pointer (some ⟨a, 0, none⟩), .int .i64 q] w fun e w' => e = .returned (.tuple #[.int .i64 (h.root q), .int .i64 0]) ∧ w' = w := aroot_good a h q w g.act.live g.act.ac.hd g.act.ok hq

theorem free_live (q : Nat) (g : LiveSt J B S a s d l p db m n C N last h D w) (hq : h.has q) :
    Calls Tryz.prog 14 #[.pointer (some ⟨a, 0, none⟩), .int .i64 q] w fun e w' => e = .returned (.int .i64 0) ∧ (∃ m', LiveSt J B S a s d l p db m' n C N last (h.turn q) (upd D q none) w') ∧ Below B w w' ∧ Kept (fun k => k = a ∨ k = db) w w' := by
  refine (afree_live q g.act hq).mono ?_
  rintro e w' ⟨rfl, ⟨m', _, hx⟩, hk⟩
  refine ⟨rfl, ⟨m', hx, g.pool.kept hk (fun k _ hS he => by rcases he with rfl | rfl; exact g.na hS; exact g.nb hS), g.lg.kept hk (by rintro (hh | hh); exact g.ne.1 hh; exact g.ne.2.2.1 hh), g.ns, g.na, g.nl, g.nb, fun j y hj => ?_, ⟨g.ne.1, g.ne.2.1, g.ne.2.2.1, fun j y hj => ?_⟩, ⟨g.low.1, g.low.2.1, g.low.2.2.1, g.low.2.2.2.1, fun j y hj => ?_⟩, g.n0⟩, g.bel hk, hk⟩
  all_goals
    by_cases hjq : j = q
    · subst hjq; rw [upd_same] at hj; cases hj
    · rw [upd_other _ _ hjq] at hj
      first
        | exact g.nd j y hj
        | exact g.ne.2.2.2 j y hj
        | exact g.low.2.2.2.2 j y hj

end
end Go.Proofs.YtijggofelepaaaaGreatDoor

/- A pool as whoever uses it sees it, its raw writes counted apart from its pins: what is read costs nothing that was not owed. -/
set_option maxRecDepth 100000
namespace Go.Proofs.YtijggofelepaaaaGreatDoor
open Go.RowKit

/-- As PoolJ; M bounds the pins, N the raw writes, those that are owed too. -/
def PoolK (J : List RawOp → Prop) (B : Nat) (S : Nat → Prop) (p d n : Nat) (C : Nat → List UInt8) (P : Nat → Nat) (M N : Nat) (w : World) : Prop :=
  ∃ fb mb hand m fr Sd ops, J ops ∧ PoolG p d fb mb n hand m fr w ∧ Filled n m fr ∧ DiskAt Sd d ops w ∧ View n fr ops C P M ∧ ops.length + chg n fr ≤ N ∧ (¬ Sd p ∧ ¬ Sd fb ∧ ¬ Sd mb) ∧ (∀ k, Sd k ∨ k = p ∨ k = fb ∨ k = mb → S k) ∧ ∀ k, S k → B ≤ k ∧ k < w.heap.size

theorem PoolJ.toK {J : List RawOp → Prop} {B p d n N : Nat} {S : Nat → Prop} {w : World} {C : Nat → List UInt8} {P : Nat → Nat} (h : PoolJ J B S p d n C P N w) : PoolK J B S p d n C P N N w := by
  obtain ⟨fb, mb, hand, m, fr, Sd, ops, hJ, h1, h2, h3, h4, h5⟩ := h
  exact ⟨fb, mb, hand, m, fr, Sd, ops, hJ, h1, h2, h3, h4, h4.cost, h5⟩
theorem PoolK.toJ {J : List RawOp → Prop} {B p d n M N : Nat} {S : Nat → Prop} {w : World} {C : Nat → List UInt8} {P : Nat → Nat} (h : PoolK J B S p d n C P M N w) : PoolJ J B S p d n C P (max M N) w := by
  obtain ⟨fb, mb, hand, m, fr, Sd, ops, hJ, h1, h2, h3, h4, h5, h6⟩ := h
  exact ⟨fb, mb, hand, m, fr, Sd, ops, hJ, h1, h2, h3, ⟨h4.held, h4.free, by omega, fun q => Nat.le_trans (h4.bnd q) (Nat.le_max_left _ _)⟩, h6⟩
theorem PoolK.rest {J : List RawOp → Prop} {B p d n M N : Nat} {S : Nat → Prop} {w : World} {C : Nat → List UInt8} (h : PoolK J B S p d n C P0 M N w) : PoolJ J B S p d n C P0 N w := by
  obtain ⟨fb, mb, hand, m, fr, Sd, ops, hJ, h1, h2, h3, h4, h5, h6⟩ := h
  exact ⟨fb, mb, hand, m, fr, Sd, ops, hJ, h1, h2, h3, ⟨h4.held, h4.free, h5, fun q => Nat.zero_le _⟩, h6⟩

section
variable {n : Nat} {fr fr' : Nat → Option Fr} {ops : List RawOp}
theorem late_cost (hl : Late fr fr') : chg n fr' = chg n fr := chg_same fun i => by
  obtain ⟨b, hb⟩ := hl i
  rw [hb]
  cases fr i <;> rfl
theorem upd_cost {i : Nat} {f f' : Fr} (hi : fr i = some f) (hin : i < n) (hc : f'.changed = f.changed) : chg n (upd fr i (some f')) = chg n fr := by
  have := chg_upd fr (some f') hin
  rw [hi] at this
  simp only [cb, hc] at this
  omega
theorem load_cost {i q : Nat} {bs : List UInt8} {x : Nat} {b : Bool} (hi : fr i = none) (hin : i < n) : chg n (upd fr i (some ⟨q, x, b, false, bs⟩)) = chg n fr := by
  have := chg_upd fr (some ⟨q, x, b, false, bs⟩) hin
  rw [hi] at this
  simp only [cb] at this
  simpa using this
theorem evict_cost {i : Nat} {f : Fr} (hi : fr i = some f) (hin : i < n) : (saved f ops).length + chg n (upd fr i none) ≤ ops.length + chg n fr := by
  have := chg_upd fr none hin
  rw [hi] at this
  unfold saved
  cases hc : f.changed <;> simp [cb, hc] at this ⊢ <;> omega
end

section
variable {B p d n M N : Nat} {S : Nat → Prop} {w w' : World} {C : Nat → List UInt8} {P : Nat → Nat} {J : List RawOp → Prop}
/-- A pool's state out of its parts, behind a turn. -/
theorem poolK_mk {fb mb hand m : Nat} {fr : Nat → Option Fr} {Sd : Nat → Prop} {ops : List RawOp} (hJ : J ops) (h1 : PoolG p d fb mb n hand m fr w') (h2 : Filled n m fr) (h3 : DiskAt Sd d ops w') (h4 : View n fr ops C P M) (hc4 : ops.length + chg n fr ≤ N) (h5 : ¬ Sd p ∧ ¬ Sd fb ∧ ¬ Sd mb)
    (h6 : ∀ k, Sd k → S k ∨ w.heap.size ≤ k) (h7 : S p ∧ S fb ∧ S mb) (h8 : ∀ k, S k → B ≤ k ∧ k < w.heap.size) (h9 : Kept S w w') : ∃ S', Turn S w S' w' ∧ PoolK J B S' p d n C P M N w' := by
  refine ⟨fun k => (S k ∨ w.heap.size ≤ k) ∧ k < w'.heap.size, ⟨h9, fun k hk hs => hs.1.elim id (by omega)⟩, fb, mb, hand, m, fr, fun k => Sd k ∧ k < w'.heap.size, ops, hJ, h1, h2, h3.bound, h4, hc4, ⟨fun h => h5.1 h.1, fun h => h5.2.1 h.1, fun h => h5.2.2 h.1⟩, ?_, ?_⟩
  · rintro k (⟨h, hlt⟩ | rfl | rfl | rfl)
    · exact ⟨h6 k h, hlt⟩
    · exact ⟨.inl h7.1, h1.lt⟩
    · exact ⟨.inl h7.2.1, h1.ltF⟩
    · exact ⟨.inl h7.2.2, h1.ltM⟩
  · rintro k ⟨hk, hlt⟩
    refine ⟨hk.elim (fun h => (h8 k h).1) (fun h => ?_), hlt⟩
    have := h8 p h7.1
    omega
end

def PinPostK (J : List RawOp → Prop) (B : Nat) (S : Nat → Prop) (p d n : Nat) (C : Nat → List UInt8) (P : Nat → Nat) (M N q : Nat) (w : World) (e : Ending) (w' : World) : Prop :=
  ∃ S', Turn S w S' w' ∧ (e = .returned (.int .i64 40) ∧ P q = 0 ∧ pinnedN P = n ∧ PoolK J B S' p d n C P M N w' ∨ e = .returned (.int .i64 0) ∧ ¬ (P q = 0 ∧ pinnedN P = n) ∧ PoolK J B S' p d n C (upd P q (P q + 1)) (M + 1) N w')

theorem pin_k (J : List RawOp → Prop) (B : Nat) (S : Nat → Prop) (p d n : Nat) (C : Nat → List UInt8) (P : Nat → Nat) (M N q : Nat) (w : World) (h : PoolK J B S p d n C P M N w) (hM : M ≤ 4398046511104) (hN : N ≤ 4398046511104) (hq : q < 4096) (hcl : ∀ ops q, J ops → J (ops ++ [.put 1 (q * 512) ⟨(C q).toArray⟩])) :
    Calls Tryz.prog 82 #[.pointer (some ⟨p, 0, none⟩), .int .i64 q] w (PinPostK J B S p d n C P M N q w) := by
  obtain ⟨fb, mb, hand, m, fr, Sd, ops, hJ, hG, hF, hD, hV, hcst, hO, hS, hB⟩ := h
  have hSS : S p ∧ S fb ∧ S mb := ⟨hS p (.inr (.inl rfl)), hS fb (.inr (.inr (.inl rfl))), hS mb (.inr (.inr (.inr rfl)))⟩
  by_cases hx : ∃ i f, fr i = some f ∧ f.page = q
  · -- a frame holds it
    obtain ⟨i, f, hi, rfl⟩ := hx
    obtain ⟨hin, _, hfb, _⟩ := hG.at_ i f hi
    obtain ⟨hC, hP, _⟩ := hV.held i f hi
    have hpn : f.pins ≤ M := by rw [← hP]; exact hV.bnd _
    refine (pin_held p d fb mb n hand m i fr f w hG hi (by omega)).mono ?_
    rintro e w' ⟨rfl, g1, g2⟩
    have hV2 := hV.turn hG.one hi hin (f' := { f with pins := f.pins + 1, lately := true }) rfl (fun h => ⟨h, rfl⟩) (by show f.pins + 1 ≤ M + 1; omega)
    have hC2 : upd C f.page f.bytes = C := by rw [← hC]; exact upd_self _ _
    have hV3 : View n (upd fr i (some { f with pins := f.pins + 1, lately := true })) ops C (upd P f.page (P f.page + 1)) (M + 1) := by
      rw [hP]; rw [show ({ f with pins := f.pins + 1, lately := true } : Fr).bytes = f.bytes from rfl, hC2] at hV2; exact hV2
    obtain ⟨S', hT, hSt⟩ := poolK_mk (N := N) (S := S) (B := B) (w := w) hJ g1 ⟨hF.1, fun j => by
      rw [hF.2 j]
      by_cases hj : j = i
      · subst hj; rw [upd_same]; exact ⟨fun _ => ⟨_, rfl⟩, fun _ => ⟨f, hi⟩⟩
      · rw [upd_other _ _ hj]⟩ (hD.kept g2 (fun k _ hs e => hO.2.1 (e ▸ hs))) hV3 (by rw [upd_cost (f' := { f with pins := f.pins + 1, lately := true }) hi hin rfl]; exact hcst) hO (fun k hk => .inl (hS k (.inl hk))) hSS hB (g2.mono (fun k hk => hk ▸ hSS.2.1))
    refine ⟨S', hT, .inr ⟨rfl, ?_, hSt⟩⟩
    rintro ⟨h0, h1⟩
    exact full_no hG hV hin (fun g hg => by rw [hi] at hg; cases hg; omega) h1
  · have hno : ∀ j f, fr j = some f → f.page ≠ q := fun j f hj e => hx ⟨j, f, hj, e⟩
    have hP0 := (hV.free q hno).2
    by_cases hm : m < n
    · -- a frame is free
      have hnone : fr m = none := by
        cases hf : fr m with
        | none => rfl
        | some f => have := (hF.2 m).2 ⟨f, hf⟩; omega
      have hs : Calls Tryz.prog 132 #[.pointer (some ⟨p, 0, none⟩)] w fun e w' => ∃ i hand' m' fr' S ops', e = .returned (ptrFr fb i) ∧ Spared S p d fb mb n q hand' m' fr' ops' i w' ∧ (i = m ∧ m' = m ∧ fr' = fr ∧ S = Sd ∧ ops' = ops ∧ w' = w) :=
        (spare_free p d fb mb n hand m fr w hG hm).mono fun e w' ⟨h1, h2⟩ => ⟨m, hand, m, fr, Sd, ops, h1, by subst h2; exact ⟨hG, hnone, hm, hF.1, hno, hD, hO.1, hO.2.1, hO.2.2⟩, rfl, rfl, rfl, rfl, rfl, h2⟩
      refine (pin_new p d fb mb n hand m fr q (fun i m' fr' S ops' w' => i = m ∧ m' = m ∧ fr' = fr ∧ S = Sd ∧ ops' = ops ∧ w' = w) w hG hq hno hs).mono ?_
      rintro e w' ⟨rfl, i, hand', m', fr', S2, ops', w1, _, ⟨hX1, hX2, hX3, hX4, hX5, hX6⟩, g1, g2, g3⟩
      subst hX2 hX3 hX4 hX5 hX6
      rw [hX1] at g1
      obtain ⟨S', hT, hSt⟩ := poolK_mk (N := N) (S := S) (B := B) (w := w1) hJ g1 ⟨hm, fun j => by
        by_cases hj : j = m'
        · subst hj; rw [upd_same]; exact ⟨fun _ => ⟨_, rfl⟩, fun _ => by omega⟩
        · rw [upd_other _ _ hj, ← hF.2 j]; omega⟩ g2 (hV.load hnone hm hno) (by rw [load_cost hnone hm]; exact hcst) hO (fun k hk => .inl (hS k (.inl hk))) hSS hB (g3.mono (fun k hk => by rcases hk with rfl | rfl; exact hSS.2.1; exact hSS.2.2))
      refine ⟨S', hT, .inr ⟨rfl, ?_, ?_⟩⟩
      · rintro ⟨_, h1⟩
        exact full_no hG hV hm (fun g hg => by rw [hnone] at hg; cases hg) h1
      · rw [hP0]; exact hSt
    · have hmn : m = n := by have := hF.1; omega
      have hsp := spare_full p d fb mb n hand m fr Sd ops w hG hF hmn hD (by omega) hO.1 hO.2.1 hO.2.2
      by_cases hall : ∀ i, i < n → ∃ f, fr i = some f ∧ 0 < f.pins
      · -- all are pinned
        have hs : Calls Tryz.prog 132 #[.pointer (some ⟨p, 0, none⟩)] w fun e w' => e = .returned (.pointer none) ∧ ∃ hand' fr', Late fr fr' ∧ PoolG p d fb mb n hand' m fr' w' ∧ Kept (fun k => k = p ∨ k = fb) w w' := by
          refine hsp.mono ?_
          rintro e w' ⟨hand', fr', hL, he | ⟨i, f, S', hin, hi, hp, _⟩⟩
          · exact ⟨he.1, hand', fr', hL, he.2.1, he.2.2.2⟩
          · exfalso
            obtain ⟨f0, hf0, _, e2, _⟩ := late_some hL hi
            obtain ⟨g, hg, hgp⟩ := hall i hin
            rw [hf0] at hg; cases hg
            omega
        refine (pin_nil p d fb mb n hand m fr q (fun w' => ∃ hand' fr', Late fr fr' ∧ PoolG p d fb mb n hand' m fr' w' ∧ Kept (fun k => k = p ∨ k = fb) w w') w hG hq hno hs).mono ?_
        rintro e w' ⟨rfl, hand', fr', hL, g1, g2⟩
        obtain ⟨S', hT, hSt⟩ := poolK_mk (N := N) (S := S) (B := B) (w := w) hJ g1 ⟨hF.1, fun j => by
          rw [hF.2 j]
          constructor
          · rintro ⟨f, hf⟩; obtain ⟨b, hb⟩ := late_back hL hf; exact ⟨_, hb⟩
          · rintro ⟨f, hf⟩; obtain ⟨f0, hf0, _⟩ := late_some hL hf; exact ⟨_, hf0⟩⟩ (hD.kept g2 (fun k _ hsd e => by rcases e with rfl | rfl; exact hO.1 hsd; exact hO.2.1 hsd)) (hV.late hL) (by rw [late_cost hL]; exact hcst) hO (fun k hk => .inl (hS k (.inl hk))) hSS hB (g2.mono (fun k hk => by rcases hk with rfl | rfl; exact hSS.1; exact hSS.2.1))
        exact ⟨S', hT, .inl ⟨rfl, hP0, full_yes hG hV hall, hSt⟩⟩
      · -- one is taken from another page
        obtain ⟨i0, hi0, hp0⟩ : ∃ i, i < n ∧ ∀ f, fr i = some f → f.pins = 0 := by
          refine Classical.byContradiction fun hc => hall fun i hi => ?_
          obtain ⟨f, hf⟩ := (hF.2 i).1 (by omega)
          refine ⟨f, hf, ?_⟩
          refine Classical.byContradiction fun hc2 => hc ⟨i, hi, fun g hg => ?_⟩
          rw [hf] at hg; cases hg; omega
        have hs : Calls Tryz.prog 132 #[.pointer (some ⟨p, 0, none⟩)] w fun e w' => ∃ i hand' m' fr2 S2 ops', e = .returned (ptrFr fb i) ∧ Spared S2 p d fb mb n q hand' m' fr2 ops' i w' ∧
            (m' = m - 1 ∧ (∃ fr1 f, Late fr fr1 ∧ fr1 i = some f ∧ f.pins = 0 ∧ fr2 = upd fr1 i none ∧ ops' = saved f ops ∧ f.bytes.length = 512) ∧ Kept (fun k => Sd k ∨ k = p ∨ k = fb ∨ k = mb) w w' ∧ ∀ k, S2 k → Sd k ∨ w.heap.size ≤ k) := by
          refine hsp.mono ?_
          rintro e w' ⟨hand', fr', hL, ⟨_, _, ha, _⟩ | ⟨i, f, S2, hin, hi, hp, he, g1, g2, g3, g4⟩⟩
          · exfalso
            obtain ⟨f, hf⟩ := (hF.2 i0).1 (by omega)
            obtain ⟨b, hb⟩ := late_back hL hf
            have h1 := ha i0 _ hi0 hb
            have h2 := hp0 f hf
            simp only at h1
            omega
          · obtain ⟨f0, hf0, _, _, _, e4⟩ := late_some hL hi
            have hbl : f.bytes.length = 512 := by rw [e4]; exact (hG.at_ i f0 hf0).2.2.1
            refine ⟨i, hand', m - 1, upd fr' i none, S2, saved f ops, he, ⟨g1, upd_same _ _ _, hin, by omega, fun j g hg => ?_, g2, ?_, ?_, ?_⟩, rfl, ⟨fr', f, hL, hi, hp, rfl, rfl, hbl⟩, g3, g4⟩
            · by_cases hj : j = i
              · subst hj; rw [upd_same] at hg; cases hg
              · rw [upd_other _ _ hj] at hg
                obtain ⟨g0, hg0, e1, _⟩ := late_some hL hg
                rw [e1]; exact hno j g0 hg0
            · exact fun hh => (g4 p hh).elim hO.1 (by have := hG.lt; omega)
            · exact fun hh => (g4 fb hh).elim hO.2.1 (by have := hG.ltF; omega)
            · exact fun hh => (g4 mb hh).elim hO.2.2 (by have := hG.ltM; omega)
        refine (pin_new p d fb mb n hand m fr q _ w hG hq hno hs).mono ?_
        rintro e w' ⟨rfl, i, hand', m', fr2, S2, ops', w1, hSp, ⟨rfl, ⟨fr1, f, hL, hi, hp, rfl, rfl, hbl⟩, k1, k2⟩, g1, g2, g3⟩
        have one1 : ∀ a b x y, fr1 a = some x → fr1 b = some y → x.page = y.page → a = b := fun a b x y hx hy hxy => by
          obtain ⟨x0, hx0, ex, _⟩ := late_some hL hx
          obtain ⟨y0, hy0, ey, _⟩ := late_some hL hy
          exact hG.one a b x0 y0 hx0 hy0 (by omega)
        have hV1 := (hV.late hL).evict one1 hi hSp.lt hbl hp
        have hV2 := hV1.load hSp.none_ hSp.lt hSp.no
        have hn1 := hG.n1
        have hJ2 : J (saved f ops) := by
          unfold saved
          cases hc : f.changed
          · exact hJ
          · have := hcl ops f.page hJ
            rwa [((hV.late hL).held i f hi).1] at this
        obtain ⟨S', hT, hSt⟩ := poolK_mk (N := N) (S := S) (B := B) (w := w) hJ2 g1 ⟨by omega, fun j => by
          by_cases hj : j = i
          · subst hj; rw [upd_same]
            have := hSp.lt
            exact ⟨fun _ => ⟨_, rfl⟩, fun _ => by omega⟩
          · rw [upd_other _ _ hj, upd_other _ _ hj]
            rw [show j < m - 1 + 1 ↔ j < m from by omega, hF.2 j]
            constructor
            · rintro ⟨f, hf⟩; obtain ⟨b, hb⟩ := late_back hL hf; exact ⟨_, hb⟩
            · rintro ⟨f, hf⟩; obtain ⟨f0, hf0, _⟩ := late_some hL hf; exact ⟨_, hf0⟩⟩ g2 hV2 (by rw [load_cost hSp.none_ hSp.lt]; have h1 := evict_cost (ops := ops) hi hSp.lt; rw [late_cost hL] at h1; omega) ⟨hSp.oP, hSp.oF, hSp.oM⟩ (fun k hk => (k2 k hk).imp (fun h => hS k (.inl h)) id) hSS hB
          ((k1.mono (fun k hk => hS k hk)).trans g3 (fun k hk => by rcases hk with rfl | rfl; exact .inl hSS.2.1; exact .inl hSS.2.2))
        refine ⟨S', hT, .inr ⟨rfl, ?_, ?_⟩⟩
        · rintro ⟨_, h1⟩
          exact full_no hG hV hi0 hp0 h1
        · rw [hP0]; exact hSt

/-- Unpin, the raw writes counted apart. -/
theorem unpin_k {J : List RawOp → Prop} {B p d n M N : Nat} {S : Nat → Prop} {w : World} {C : Nat → List UInt8} {P : Nat → Nat} (h : PoolK J B S p d n C P M N w) (q : Nat) (hp : 0 < P q) (hM : M ≤ 4398046511104) :
    Calls Tryz.prog 84 #[.pointer (some ⟨p, 0, none⟩), .int .i64 q] w fun e w' => e = .returned (.int .i64 0) ∧ ∃ S', Turn S w S' w' ∧ PoolK J B S' p d n C (upd P q (P q - 1)) (M + 1) N w' := by
  obtain ⟨fb, mb, hand, m, fr, Sd, ops, hJ, hG, hF, hD, hV, hcst, hO, hS, hB⟩ := h
  obtain ⟨i, f, hi, rfl, _, hfp, _⟩ := holder hG hV hp
  have hb := hV.bnd f.page
  refine (unpin_yes p d fb mb n hand m i fr f w hG hi (by omega) (by omega)).mono ?_
  rintro e w' ⟨rfl, g1, g2, g3⟩
  have hSS : S p ∧ S fb ∧ S mb := ⟨hS p (.inr (.inl rfl)), hS fb (.inr (.inr (.inl rfl))), hS mb (.inr (.inr (.inr rfl)))⟩
  have hin := (hG.at_ i f hi).1
  obtain ⟨S', hT, hSt⟩ := poolK_mk (M := M + 1) (N := N) (J := J) (C := upd C f.page f.bytes) (P := upd P f.page (f.pins - 1)) (S := S) (B := B) hJ (hG.turnFr hi g2 g3 g1 (hG.at_ i f hi).2.2.1 rfl) ⟨hF.1, fun j => by
      rw [hF.2 j]
      by_cases hj : j = i
      · subst hj; rw [upd_same]; exact ⟨fun _ => ⟨_, rfl⟩, fun _ => ⟨f, hi⟩⟩
      · rw [upd_other _ _ hj]⟩ (hD.kept g3 (fun k _ hs e => hO.2.1 (e ▸ hs))) (hV.turn hG.one hi hin rfl (fun h => ⟨h, rfl⟩) (by show f.pins - 1 ≤ M + 1; omega)) (by rw [upd_cost (f' := { f with pins := f.pins - 1 }) hi hin rfl]; exact hcst) hO (fun k hk => .inl (hS k (.inl hk))) hSS hB (g3.mono (fun k hk => hk ▸ hSS.2.1))
  refine ⟨rfl, S', hT, ?_⟩
  have hC := (hV.held i f hi).1
  rw [← hC, upd_self] at hSt
  rw [← hfp]; exact hSt
end Go.Proofs.YtijggofelepaaaaGreatDoor

/- Action.Read of a page that has a draft; store.read and Action.Read of one that has none, the raw writes counted apart. -/
set_option maxRecDepth 100000
namespace Go.Proofs.YtijggofelepaaaaGreatDoor
open Go.RowKit

section
variable {J : List RawOp → Prop} {B s d l p n N a db m : Nat} {S : Nat → Prop} {C : Nat → List UInt8} {last h : Hd} {cur : Option Nat} {D : Nat → Option Dr} {w : World}

set_option maxHeartbeats 1600000 in
theorem aread_draft (q : Nat) (y : Dr) (x : ActSt w a s d l p db m last h D) (hq : D q = some y) :
    Calls Tryz.prog 10 #[.pointer (some ⟨a, 0, none⟩), .int .i64 q] w fun e w' => e = .returned (.tuple #[.string ⟨y.now.toArray⟩, .int .i64 0]) ∧ w' = w := by
  have h1 := refusesPage_live q x
  have hhas := x.has q y hq
  rw [if_pos (by rw [Int.toNat_natCast]; exact ⟨by have := hhas.1; omega, hhas⟩)] at h1
  have HP := Lib.hid h1
  have hlk := x.dr.look hq
  unfold Dr.ptr at hlk
  have c83 := x.ac.dr
  obtain ⟨g1, g2, g3, g4, g5, g6, g7⟩ := x.dr.at_ q y hq
  have hcv := run_string_mid w y.blk 513 512 y.now (Dr.range_now g2 g4)
  rw [g5] at hcv
  obtain ⟨t, ht⟩ : ∃ t : ByteArray, t = ⟨y.now.toArray⟩ := ⟨_, rfl⟩
  rw [← ht] at hcv ⊢
  obtain ⟨yb, hyb⟩ : ∃ yb, yb = y.blk := ⟨_, rfl⟩
  rw [← hyb] at hlk hcv g7
  clear h1 x hq hhas g1 g2 g3 g4 g5 g6 ht hyb
  go_enter Tryz.func10, Tryz.ntmps10
  go_wp2_with fail
  refine HP.out.mono ?_
  rintro e w' ⟨rfl, hw⟩
  subst w'
  go_wp2
  go_ret2
  exact ⟨rfl, rfl⟩

/-- What reading leaves of the pool. -/
def ReadK (J : List RawOp → Prop) (B : Nat) (S : Nat → Prop) (p d n : Nat) (C : Nat → List UInt8) (N : Nat) (w w' : World) : Prop :=
  ∃ S', Turn S w S' w' ∧ PoolJ J B S' p d n C P0 N w'

set_option maxHeartbeats 1600000 in
theorem sread_k (q : Nat) (x : SpaceAt w s d l p last cur) (hs : ¬ S s) (g : PoolJ J B S p d n C P0 N w) (hq : q < 4096) (hn : 0 < n) (hN : N ≤ 4398046511000) (hcl : Saves J) :
    Calls Tryz.prog 42 #[.pointer (some ⟨s, 1, none⟩), .int .i64 q] w fun e w' => e = .returned (.string ⟨(C q).toArray⟩) ∧ ReadK J B S p d n C N w w' := by
  have hsl := x.lt
  have hpl := x.pl
  have HPI : Hid (Calls Tryz.prog 82 #[.pointer (some ⟨p, 0, none⟩), .int .i64 q] w fun e w1 => e = .returned (.int .i64 0) ∧ w1.cell? ⟨s, 3, none⟩ = some (.pointer (some ⟨p, 0, none⟩)) ∧ s < w1.heap.size ∧ Hid (∃ S1, Turn S w S1 w1 ∧ ¬ S1 s ∧ PoolK J B S1 p d n C (upd P0 q (P0 q + 1)) (N + 1) N w1)) := Lib.hid (by
    refine (pin_k J B S p d n C P0 N N q w g.toK (by omega) (by omega) hq (fun ops q => hcl ops q _)).mono ?_
    rintro e w1 ⟨S1, hT, ⟨_, _, h2, _⟩ | ⟨rfl, _, h3⟩⟩
    · exact absurd h2 (pinned0 hn)
    · exact ⟨rfl, (World.cell?_of_block (hT.1.block s hsl hs)).trans hpl, Nat.lt_of_lt_of_le hsl hT.1.size, Lib.hid ⟨S1, hT, hT.not hsl hs, h3⟩⟩)
  have HN := Lib.hid hN
  clear x hs g hq hn hcl hN
  go_enter Tryz.func42, Tryz.ntmps42
  go_wp2_with fail
  refine HPI.out.mono ?_
  rintro e w1 ⟨rfl, hp1, hs1, hr⟩
  obtain ⟨S1, hT1, hn1, hK1⟩ := hr.out
  have HRD : Hid (Calls Tryz.prog 83 #[.pointer (some ⟨p, 0, none⟩), .int .i64 q] w1 fun e w' => e = .returned (.tuple #[.string ⟨(C q).toArray⟩, .int .i64 0]) ∧ w' = w1) := Lib.hid (read_j hK1.toJ q (by rw [upd_same]; omega))
  have HUN : Hid (Calls Tryz.prog 84 #[.pointer (some ⟨p, 0, none⟩), .int .i64 q] w1 fun e w' => e = .returned (.int .i64 0) ∧ ReadK J B S p d n C N w w') := Lib.hid (by
    refine (unpin_k hK1 q (by rw [upd_same]; omega) (by have := HN.out; omega)).mono ?_
    rintro e w' ⟨rfl, S2, hT2, h2⟩
    rw [upd_back] at h2
    exact ⟨rfl, S2, hT1.trans hT2, h2.rest⟩)
  clear hr hT1 hn1 hK1
  go_wp2_with fail
  refine HRD.out.mono ?_
  rintro e w' ⟨rfl, hw⟩
  subst w'
  go_wp2_with fail
  refine HUN.out.mono ?_
  rintro e w2 ⟨rfl, hend⟩
  have HE := Lib.hid hend
  clear hend
  go_wp2
  go_ret
  exact ⟨rfl, HE.out⟩

set_option maxHeartbeats 1600000 in
theorem aread_k (q : Nat) (x : ActSt w a s d l p db m last h D) (hs : ¬ S s) (g : PoolJ J B S p d n C P0 N w) (hq : h.has q) (hD : D q = none) (hn : 0 < n) (hN : N ≤ 4398046511000) (hcl : Saves J) :
    Calls Tryz.prog 10 #[.pointer (some ⟨a, 0, none⟩), .int .i64 q] w fun e w' => e = .returned (.tuple #[.string ⟨(C q).toArray⟩, .int .i64 0]) ∧ ReadK J B S p d n C N w w' := by
  have h1 := refusesPage_live q x
  have hq4 : q < 4096 := by have := hq.2.1; have := x.ok.cnt; omega
  rw [if_pos (by rw [Int.toNat_natCast]; exact ⟨by have := hq.1; omega, hq⟩)] at h1
  have HP := Lib.hid h1
  have hlk := x.dr.look_none hq4 hD
  have HRD := Lib.hid (sread_k q x.sp hs g hq4 hn hN hcl)
  have c83 := x.ac.dr
  have c1 := x.ac.st
  clear h1 x hs g hq hD hn hN hcl
  go_enter Tryz.func10, Tryz.ntmps10
  go_wp2_with fail
  refine HP.out.mono ?_
  rintro e w' ⟨rfl, hw⟩
  subst w'
  go_wp2_with fail
  refine HRD.out.mono ?_
  rintro e w1 ⟨rfl, hend⟩
  have HE := Lib.hid hend
  clear hend
  go_wp2
  go_ret2
  exact ⟨rfl, HE.out⟩
end
end Go.Proofs.YtijggofelepaaaaGreatDoor

/- An action that goes on, as whoever uses it sees it: which pages it has, what they hold, its roots; all its blocks are of one set. -/
set_option maxRecDepth 100000
namespace Go.Proofs.YtijggofelepaaaaGreatDoor
open Go.RowKit

/-- What of an action does not turn. -/
structure Ac where
  a : Nat
  s : Nat
  d : Nat
  l : Nat
  p : Nat
  db : Nat
  n : Nat
  N : Nat
  C : Nat → List UInt8
  last : Hd

/-- What a page holds, by its draft, or as it was committed. -/
def pgD (C : Nat → List UInt8) (D : Nat → Option Dr) (q : Nat) : List UInt8 := match D q with
  | some x => x.now
  | none => C q
/-- Each draft knows what was; a page that was not there when the action began has a draft, one that knows that it is new. -/
def DrOk (last h : Hd) (C : Nat → List UInt8) (D : Nat → Option Dr) : Prop :=
  (∀ q x, D q = some x → x.was = if x.fresh then noughts else C q) ∧ (∀ q x, D q = some x → x.fresh = true ∨ last.has q) ∧ ∀ q, h.has q → D q = none → last.has q

structure ActV (J : List RawOp → Prop) (B : Nat) (S : Nat → Prop) (c : Ac) (h : Hd) (G : Nat → List UInt8) (w : World) : Prop where
  live : ∃ m D S0, LiveSt J B S0 c.a c.s c.d c.l c.p c.db m c.n c.C c.N c.last h D w ∧ (∀ k, S0 k → S k) ∧ (∀ q x, D q = some x → S x.blk) ∧ DrOk c.last h c.C D ∧ ∀ q, h.has q → G q = pgD c.C D q
  own : S c.a ∧ S c.s ∧ S c.l ∧ S c.db
  low : ∀ k, S k → B ≤ k ∧ k < w.heap.size
  saves : Saves J
  cost : c.N ≤ 4398046511000
  tab : Tab w ∧ 1 ≤ B

theorem has_turn {h : Hd} (k : h.Ok) {q : Nat} (hq : h.has q) (j : Nat) : (h.turn q).has j ↔ h.has j ∧ j ≠ q := by
  have hlt : q < 4096 := by have := hq.2.1; have := k.cnt; omega
  unfold Hd.has at hq ⊢
  rw [Hd.isFree_turn k hlt]
  have hc : (h.turn q).count = h.count := rfl
  rw [hc]
  by_cases hj : j = q
  · subst hj; rw [if_pos rfl, hq.2.2]; simp
  · rw [if_neg hj]; simp [hj]

section
variable {J : List RawOp → Prop} {B : Nat} {S : Nat → Prop} {c : Ac} {h : Hd} {G : Nat → List UInt8} {w w' : World}
theorem ActV.ok (x : ActV J B S c h G w) : h.Ok := by
  obtain ⟨m, D, S0, hL, _⟩ := x.live
  exact hL.act.ok
theorem ActV.size (x : ActV J B S c h G w) : B ≤ w.heap.size := by
  obtain ⟨m, D, S0, hL, _⟩ := x.live
  exact hL.size
theorem ActV.has_lt (x : ActV J B S c h G w) {q : Nat} (hq : h.has q) : 1 ≤ q ∧ q < 4096 := by
  have := hq.2.1; have := x.ok.cnt; exact ⟨hq.1, by omega⟩
theorem ActV.len (x : ActV J B S c h G w) {q : Nat} (hq : h.has q) (hC : (c.C q).length = 512) : (G q).length = 512 := by
  obtain ⟨m, D, S0, hL, _, _, _, hG⟩ := x.live
  rw [hG q hq]
  unfold pgD
  cases hD : D q with
  | none => exact hC
  | some y => exact (hL.act.dr.at_ q y hD).2.2.2.2.1
theorem ActV.congr {G' : Nat → List UInt8} (x : ActV J B S c h G w) (hG : ∀ q, h.has q → G' q = G q) : ActV J B S c h G' w := by
  obtain ⟨m, D, S0, hL, h1, h2, h3, h4⟩ := x.live
  exact ⟨⟨m, D, S0, hL, h1, h2, h3, fun q hq => (hG q hq).trans (h4 q hq)⟩, x.own, x.low, x.saves, x.cost, x.tab⟩
/-- Whatever is none of the action's blocks may turn. -/
theorem ActV.kept {T : Nat → Prop} (x : ActV J B S c h G w) (hk : Kept T w w') (hT : ∀ k, T k → k < w.heap.size → ¬ S k ∧ 1 ≤ k) : ActV J B S c h G w' := by
  obtain ⟨m, D, S0, hL, h1, h2, h3, h4⟩ := x.live
  have hn : ∀ k, k < w.heap.size → S k → ¬ T k := fun k hk hs ht => (hT k ht hk).1 hs
  have lt : ∀ k, S k → k < w.heap.size := fun k hs => (x.low k hs).2
  refine ⟨⟨m, D, S0, ⟨hL.act.kept hk (hn _ (lt _ x.own.1) x.own.1) (hn _ (lt _ x.own.2.1) x.own.2.1) (hn _ (lt _ x.own.2.2.2) x.own.2.2.2) (fun q y hq => hn _ (lt _ (h2 q y hq)) (h2 q y hq)), hL.pool.kept hk (fun k hlt hs => hn k hlt (h1 k hs)), hL.lg.kept hk (hn _ (lt _ x.own.2.2.1) x.own.2.2.1), hL.ns, hL.na, hL.nl, hL.nb, hL.nd, hL.ne, hL.low, hL.n0⟩, h1, h2, h3, h4⟩, x.own, fun k hs => ⟨(x.low k hs).1, Nat.lt_of_lt_of_le (lt k hs) hk.size⟩, x.saves, x.cost, x.tab.1.kept hk (fun h0 => ?_), x.tab.2⟩
  have h00 : 0 < w.heap.size := x.tab.1.1
  exact absurd (hT 0 h0 h00).2 (by omega)
theorem ActV.below (x : ActV J B S c h G w) (hb : Below w.heap.size w w') : ActV J B S c h G w' :=
  x.kept (Kept.ofBelow (S := fun _ => False) hb) (fun _ h => h.elim)

/-- What a call leaves of an action's blocks. -/
def ActPost (J : List RawOp → Prop) (B : Nat) (S : Nat → Prop) (c : Ac) (h : Hd) (G : Nat → List UInt8) (w w' : World) : Prop :=
  ∃ S', Turn S w S' w' ∧ ActV J B S' c h G w'

theorem ActPost.same (x : ActV J B S c h G w) : ActPost J B S c h G w w := ⟨S, Turn.refl S w, x⟩

/-- Blocks of the action's own have turned, drafts may be new. -/
theorem actPost_mk {h' : Hd} {G' : Nat → List UInt8} {T : Nat → Prop} {m : Nat} {D : Nat → Option Dr} {S0 : Nat → Prop} (x : ActV J B S c h G w) (hk : Kept T w w') (hT : ∀ k, T k → S k) (hL : LiveSt J B S0 c.a c.s c.d c.l c.p c.db m c.n c.C c.N c.last h' D w')
    (h1 : ∀ k, S0 k → S k) (h2 : ∀ q y, D q = some y → S y.blk ∨ w.heap.size ≤ y.blk) (h3 : DrOk c.last h' c.C D) (h4 : ∀ q, h'.has q → G' q = pgD c.C D q) : ActPost J B S c h' G' w w' := by
  have hsz := x.size
  have h00 : 0 < w.heap.size := x.tab.1.1
  refine ⟨fun k => (S k ∨ w.heap.size ≤ k) ∧ k < w'.heap.size, ⟨hk.mono hT, fun k hlt hs => hs.1.elim id (by omega)⟩, ⟨⟨m, D, S0, hL, fun k hs => ⟨.inl (h1 k hs), (hL.pool.low k hs).2⟩, fun q y hq => ⟨h2 q y hq, (hL.act.dr.at_ q y hq).2.2.2.2.2.2⟩, h3, h4⟩, ?_, ?_, x.saves, x.cost, x.tab.1.kept hk (fun h0 => ?_), x.tab.2⟩⟩
  · have hz := hk.size
    have f : ∀ k, S k → (S k ∨ w.heap.size ≤ k) ∧ k < w'.heap.size := fun k hs => ⟨.inl hs, by have := (x.low k hs).2; omega⟩
    exact ⟨f _ x.own.1, f _ x.own.2.1, f _ x.own.2.2.1, f _ x.own.2.2.2⟩
  · rintro k ⟨hs, hlt⟩
    refine ⟨hs.elim (fun h => (x.low k h).1) (fun h => by omega), hlt⟩
  · have := (x.low 0 (hT 0 h0)).1
    have := x.tab.2
    omega

theorem read_v (x : ActV J B S c h G w) (q : Nat) (hq : h.has q) :
    Calls Tryz.prog 10 #[.pointer (some ⟨c.a, 0, none⟩), .int .i64 q] w fun e w' => e = .returned (.tuple #[.string ⟨(G q).toArray⟩, .int .i64 0]) ∧ ActPost J B S c h G w w' := by
  obtain ⟨m, D, S0, hL, h1, h2, h3, h4⟩ := x.live
  rw [h4 q hq]
  unfold pgD
  cases hD : D q with
  | some y =>
    refine (aread_draft q y hL.act hD).mono ?_
    rintro e w' ⟨rfl, rfl⟩
    exact ⟨rfl, ActPost.same x⟩
  | none =>
    refine (aread_k q hL.act hL.ns hL.pool hq hD hL.n0 x.cost x.saves).mono ?_
    rintro e w' ⟨rfl, S1, hT, hp⟩
    refine ⟨rfl, fun k => (S k ∨ w.heap.size ≤ k) ∧ k < w'.heap.size, ⟨hT.1.mono h1, fun k hlt hs => hs.1.elim id (by omega)⟩, ⟨⟨m, D, S1, hL.turn hT hp, fun k hs => ⟨?_, (hp.low k hs).2⟩, fun r y hr => ⟨.inl (h2 r y hr), by have := (x.low _ (h2 r y hr)).2; have := hT.1.size; omega⟩, h3, h4⟩, ?_, ?_, x.saves, x.cost, x.tab.1.kept hT.1 (fun h0 => ?_), x.tab.2⟩⟩
    · rcases Nat.lt_or_ge k w.heap.size with hlt | hge
      · exact .inl (h1 k (hT.2 k hlt hs))
      · exact .inr hge
    · have hz := hT.1.size
      have f : ∀ k, S k → (S k ∨ w.heap.size ≤ k) ∧ k < w'.heap.size := fun k hs => ⟨.inl hs, by have := (x.low k hs).2; omega⟩
      exact ⟨f _ x.own.1, f _ x.own.2.1, f _ x.own.2.2.1, f _ x.own.2.2.2⟩
    · have hsz := x.size
      rintro k ⟨hs, hlt⟩
      refine ⟨hs.elim (fun h => (x.low k h).1) (fun h => by omega), hlt⟩
    · have := (x.low 0 (h1 0 h0)).1
      have := x.tab.2
      omega
theorem read_v_none (x : ActV J B S c h G w) (q : Int) (hq : ¬ (1 ≤ q ∧ h.has q.toNat)) :
    Calls Tryz.prog 10 #[.pointer (some ⟨c.a, 0, none⟩), .int .i64 q] w fun e w' => e = .returned (.tuple #[.string ⟨#[]⟩, .int .i64 3]) ∧ w' = w := by
  obtain ⟨m, D, S0, hL, _⟩ := x.live
  exact aread_none q hL.act hq
theorem root_v (x : ActV J B S c h G w) (q : Nat) (hq : q < 16) :
    Calls Tryz.prog 12 #[.pointer (some ⟨c.a, 0, none⟩), .int .i64 q] w fun e w' => e = .returned (.tuple #[.int .i64 (h.root q), .int .i64 0]) ∧ w' = w := by
  obtain ⟨m, D, S0, hL, _⟩ := x.live
  exact root_live q hL hq
theorem setRoot_v (x : ActV J B S c h G w) (q n : Nat) (hq : q < 16) (hn : n < 2147483648) :
    Calls Tryz.prog 15 #[.pointer (some ⟨c.a, 0, none⟩), .int .i64 q, .int .i64 n] w fun e w' => e = .returned (.int .i64 0) ∧ ActPost J B S c (h.setRoot q n) G w w' := by
  obtain ⟨m, D, S0, hL, h1, h2, h3, h4⟩ := x.live
  refine (asetRoot_good q n hL.act hq hn).mono ?_
  rintro e w' ⟨rfl, hA, hk⟩
  refine ⟨rfl, actPost_mk x hk (fun k e => e ▸ x.own.1) (D := D) (S0 := S0) ⟨hA, hL.pool.kept hk (fun k _ hS he => hL.na (he ▸ hS)), hL.lg.kept hk hL.ne.1, hL.ns, hL.na, hL.nl, hL.nb, hL.nd, hL.ne, hL.low, hL.n0⟩ h1 (fun q y hq => .inl (h2 q y hq)) ⟨h3.1, h3.2.1, fun q hq => h3.2.2 q hq⟩ (fun q hq => h4 q hq)⟩
theorem alloc_v (x : ActV J B S c h G w) :
    Calls Tryz.prog 11 #[.pointer (some ⟨c.a, 0, none⟩)] w fun e w' =>
      (∃ q h', h.NextIs q h' ∧ e = .returned (.tuple #[.int .i64 q, .int .i64 0]) ∧ ActPost J B S c h' (upd G q noughts) w w') ∨
      ((∀ j, h.isFree j = false) ∧ h.count = 4095 ∧ e = .returned (.tuple #[.int .i64 0, .int .i64 2]) ∧ w' = w) := by
  obtain ⟨m, D, S0, hL, h1, h2, h3, h4⟩ := x.live
  refine (alloc_live hL x.tab.1).mono ?_
  rintro e w' (⟨q, h', b, hn, rfl, hL', _, hk, hb⟩ | hno)
  · refine .inl ⟨q, h', hn, rfl, actPost_mk x hk (fun k e => e.elim (fun e => e ▸ x.own.1) (fun e => e ▸ x.own.2.2.2)) hL' h1 (fun r y hr => ?_) ⟨fun r y hr => ?_, fun r y hr => ?_, fun r hr hn' => ?_⟩ (fun r hr => ?_)⟩
    · by_cases hrq : r = q
      · subst hrq; rw [upd_same] at hr; cases hr; exact .inr hb
      · rw [upd_other _ _ hrq] at hr; exact .inl (h2 r y hr)
    · by_cases hrq : r = q
      · subst hrq; rw [upd_same] at hr; cases hr; rfl
      · rw [upd_other _ _ hrq] at hr; exact h3.1 r y hr
    · by_cases hrq : r = q
      · subst hrq; rw [upd_same] at hr; cases hr; exact .inl rfl
      · rw [upd_other _ _ hrq] at hr; exact h3.2.1 r y hr
    · by_cases hrq : r = q
      · subst hrq; rw [upd_same] at hn'; cases hn'
      · rw [upd_other _ _ hrq] at hn'
        exact h3.2.2 r (((hn.spec x.ok).2.2.2.2.1 r).1 hr |>.resolve_right hrq) hn'
    · by_cases hrq : r = q
      · subst hrq; rw [upd_same]; unfold pgD; rw [upd_same]
      · rw [upd_other _ _ hrq]
        have := h4 r (((hn.spec x.ok).2.2.2.2.1 r).1 hr |>.resolve_right hrq)
        rw [this]; unfold pgD; rw [upd_other _ _ hrq]
  · exact .inr hno
theorem free_v (x : ActV J B S c h G w) (q : Nat) (hq : h.has q) :
    Calls Tryz.prog 14 #[.pointer (some ⟨c.a, 0, none⟩), .int .i64 q] w fun e w' => e = .returned (.int .i64 0) ∧ ActPost J B S c (h.turn q) G w w' := by
  obtain ⟨m, D, S0, hL, h1, h2, h3, h4⟩ := x.live
  refine (free_live q hL hq).mono ?_
  rintro e w' ⟨rfl, ⟨m', hL'⟩, _, hk⟩
  refine ⟨rfl, actPost_mk x hk (fun k e => e.elim (fun e => e ▸ x.own.1) (fun e => e ▸ x.own.2.2.2)) hL' h1 (fun r y hr => ?_) ⟨fun r y hr => ?_, fun r y hr => ?_, fun r hr hn' => ?_⟩ (fun r hr => ?_)⟩
  · by_cases hrq : r = q
    · subst hrq; rw [upd_same] at hr; cases hr
    · rw [upd_other _ _ hrq] at hr; exact .inl (h2 r y hr)
  · by_cases hrq : r = q
    · subst hrq; rw [upd_same] at hr; cases hr
    · rw [upd_other _ _ hrq] at hr; exact h3.1 r y hr
  · by_cases hrq : r = q
    · subst hrq; rw [upd_same] at hr; cases hr
    · rw [upd_other _ _ hrq] at hr; exact h3.2.1 r y hr
  · obtain ⟨hr1, hrq⟩ := (has_turn x.ok hq r).1 hr
    rw [upd_other _ _ hrq] at hn'
    exact h3.2.2 r hr1 hn'
  · obtain ⟨hr1, hrq⟩ := (has_turn x.ok hq r).1 hr
    rw [h4 r hr1]; unfold pgD; rw [upd_other _ _ hrq]
end
end Go.Proofs.YtijggofelepaaaaGreatDoor
