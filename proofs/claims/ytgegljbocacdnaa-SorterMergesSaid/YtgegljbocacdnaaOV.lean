/- The law's sorted: the document's sorting. -/
import Derived.Test.YtgegljbocacdnaaOU
set_option maxRecDepth 100000
namespace Go.Proofs.Ytgegljbocacdnaa
open Go.RowKit

theorem cutS_is {x : ByteArray} {l : List ByteArray} {m : Nat} (hm : m ≤ l.length) (h1 : ∀ j (h : j < l.length), j < m → leS l[j] x) (h2 : ∀ h : m < l.length, ¬ leS l[m] x) : cutS x l = m := by
  rcases Nat.lt_trichotomy (cutS x l) m with h | h | h
  · exact absurd (h1 _ (by omega) h) (cutS_stop x l (by omega))
  · exact h
  · have := cutS_le x l
    exact absurd (cutS_below x l m (by omega) h) (h2 (by omega))

/-- What an append takes: texts in memory, or nil. -/
def Src (w : World) (v : Value) (qs : List ByteArray) : Prop :=
  (v = .slice none 0 0 ∧ qs = []) ∨ ∃ (ad : Addr) (c : Nat), v = .slice (some ad) qs.length c ∧ ∀ j (hj : j < qs.length), w.cell? (ad.add j) = some (.string qs[j])
theorem append_src (w : World) (ty : TypeId) (v sv : Value) (rs qs : List ByteArray) (B : Nat) (h : Strs B w v rs) (hs : Src w sv qs) (hl : rs.length + qs.length ≤ 4194304) :
    ∃ v' w', (Builtin.append_ #[22, 22] ty #[v, sv]).run Try.prog w = .ok v' w' ∧ Strs 0 w' v' (rs ++ qs) ∧ Grew w w' v v' := by
  rcases hs with ⟨rfl, rfl⟩ | ⟨ad, c, rfl, hc⟩
  · obtain ⟨i0, hi, q0, q1, q2⟩ := info_parts infoStr
    have hr := run_append_owned_none (P := Try.prog) (w := w) B 22 ty 9 i0 1 Try.underlying22 hi v rs.length (rs.map .string) h
    exact ⟨_, _, hr, by rw [List.append_nil]; exact h.mono (Nat.zero_le _), ⟨rfl, rfl, rfl, Nat.le_refl _, fun _ _ _ => rfl⟩, fun k hk => .inl hk⟩
  · exact append_texts w ty v rs qs B h ad c hc hl
theorem Src.below {w w' : World} {v : Value} {qs : List ByteArray} (h : Src w v qs) (hb : ∀ k, (∃ a n c, v = .slice (some a) n c ∧ a.block = k) → w'.heap[k]? = w.heap[k]?) : Src w' v qs := by
  rcases h with h | ⟨ad, c, rfl, hc⟩
  · exact .inl h
  · refine .inr ⟨ad, c, rfl, fun j hj => ?_⟩
    have e := hb ad.block ⟨ad, _, _, rfl, rfl⟩
    have := hc j hj
    unfold World.cell? at this ⊢
    have hbl : (ad.add j).block = ad.block := by cases ad with | mk b o sp => cases sp <;> (unfold Addr.add; split <;> rfl)
    rw [hbl] at this ⊢
    rw [e]; exact this
/-- The head and the rest of texts that are owned. -/
theorem Strs.head {B : Nat} {w : World} {a : Option Addr} {n c m : Nat} {rs : List ByteArray} (h : Strs B w (.slice a n c) rs) (hm : m ≤ n) : m ≤ c ∧ n ≤ c ∧ rs.length = n ∧ Src w (.slice a m c) (rs.take m) ∧ Src w (if m = c then .slice a 0 0 else .slice (a.map (·.add m)) (n - m) (c - m)) (rs.drop m) := by
  obtain ⟨a', c', e⟩ := h.shape
  injection e with e1 e2 e3
  subst e1 e3
  rcases h.2 with ⟨h1, h2⟩ | ⟨g, cap, cur, h1, _, _, h3, _⟩
  · injection h1 with h1 h4 h5
    subst h1 h4 h5
    have hr : rs = [] := List.eq_nil_of_length_eq_zero h2
    obtain rfl : m = 0 := by omega
    subst hr
    exact ⟨Nat.le_refl _, Nat.le_refl _, rfl, .inl ⟨rfl, rfl⟩, .inl ⟨by simp, rfl⟩⟩
  · injection h1 with h1 h4 h5
    subst h1 h4 h5
    have hc : ∀ j (hj : j < rs.length), w.cell? ((⟨g, 0, none⟩ : Addr).add j) = some (.string rs[j]) := fun j hj => h.cells (g := g) rfl j _ (by simp [hj])
    refine ⟨by omega, h3, rfl, .inr ⟨⟨g, 0, none⟩, c, by rw [List.length_take, Nat.min_eq_left hm], fun j hj => ?_⟩, ?_⟩
    · rw [List.length_take] at hj
      rw [hc j (by omega), List.getElem_take]
    · by_cases hmc : m = c
      · rw [if_pos hmc]
        exact .inr ⟨⟨g, 0, none⟩, 0, by rw [List.drop_of_length_le (by omega)]; rfl, fun j hj => by rw [List.length_drop] at hj; omega⟩
      · rw [if_neg hmc]
        refine .inr ⟨(⟨g, 0, none⟩ : Addr).add m, c - m, by rw [List.length_drop]; rfl, fun j hj => ?_⟩
        rw [List.length_drop] at hj
        have := hc (m + j) (by omega)
        rw [Addr.add_lit] at this
        rw [Addr.add_lit, Addr.add_lit, List.getElem_drop, show 0 + m + j = 0 + (m + j) by omega]
        exact this

/-- A text is put in its place: three appends. -/
theorem place (B : Nat) (W : World) (sv tv : Value) (os : List ByteArray) (x : ByteArray) (m : Nat) (hB : B ≤ W.heap.size) (hc : cutS x os = m) (h1 : Src W sv (os.take m)) (h2 : Src W tv (os.drop m)) (ht : ∀ a n c, tv = .slice (some a) n c → a.block < W.heap.size) (hk : os.length ≤ 4000) :
    ∃ a1 c1 w1 a2 c2 w2 a3 c3 w3, (Builtin.append_ #[22, 22] 22 #[.slice none 0 0, sv]).run Try.prog W = .ok (.slice a1 m c1) w1 ∧
      (Builtin.append_ #[22, 22] 22 #[.slice a1 m c1, .slice (some ⟨w1.heap.size, 0, none⟩) 1 1]).run Try.prog (w1.alloc (.cells #[.string x] 9)) = .ok (.slice a2 (m + 1) c2) w2 ∧
      (Builtin.append_ #[22, 22] 22 #[.slice a2 (m + 1) c2, tv]).run Try.prog w2 = .ok (.slice a3 (os.length + 1) c3) w3 ∧
      Strs B w3 (.slice a3 (os.length + 1) c3) (insS x os) ∧ Below W.heap.size W w1 ∧ Below W.heap.size W w3 := by
  have hm : m ≤ os.length := by rw [← hc]; exact cutS_le x os
  have hlm : (os.take m).length = m := by rw [List.length_take, Nat.min_eq_left hm]
  obtain ⟨v1, w1, r1, s1, g1⟩ := append_src W 22 (.slice none 0 0) sv [] (os.take m) W.heap.size (World.ownsRow_nil _ _ _ _) h1 (by rw [hlm]; simp; omega)
  rw [List.nil_append] at s1
  have s1' : Strs W.heap.size w1 v1 (os.take m) := s1.rebase fun g hg => by
    rcases g1.2 g hg with h | h
    · cases h
    · exact h
  have b1 : Below W.heap.size W w1 := ⟨g1.1.os, g1.1.tape, g1.1.output, g1.1.size, fun k hk => g1.1.block k hk (fun e => by cases e)⟩
  obtain ⟨a1, c1, rfl⟩ := s1'.shape
  rw [hlm] at r1
  obtain ⟨v2, w2, r2, s2, g2⟩ := append_text w1 W.heap.size _ (os.take m) x s1' (by rw [hlm]; omega) b1.size 22
  rw [hlm] at r2
  have hl2 : (os.take m ++ [x]).length = m + 1 := by rw [List.length_append, hlm]; rfl
  have b2 : Below W.heap.size W w2 := (b1.alloc b1.size _).trans ⟨g2.os, g2.tape, g2.output, g2.size, fun k hk => g2.block k (by have := b1.size; simp; omega) (fun e => by have := (s1'.lt k e.symm).1; omega)⟩
  obtain ⟨a2, c2, rfl⟩ := s2.shape
  rw [hl2] at r2
  have h2' : Src w2 tv (os.drop m) := h2.below fun k ⟨a, n, c, e, hk⟩ => b2.block k (by rw [← hk]; exact ht a n c e)
  obtain ⟨v3, w3, r3, s3, g3⟩ := append_src w2 22 _ tv (os.take m ++ [x]) (os.drop m) W.heap.size s2 h2' (by rw [hl2, List.length_drop]; omega)
  rw [hl2] at r3
  have hins : os.take m ++ [x] ++ os.drop m = insS x os := by unfold insS; rw [hc]; simp
  rw [hins] at s3
  have b3 : Below W.heap.size W w3 := b2.trans ⟨g3.1.os, g3.1.tape, g3.1.output, g3.1.size, fun k hk => g3.1.block k (Nat.lt_of_lt_of_le hk b2.size) (fun e => by have := (s2.lt k e.symm).1; omega)⟩
  have s3' : Strs B w3 v3 (insS x os) := s3.rebase fun g hg => by
    rcases g3.2 g hg with h | h
    · have := (s2.lt g h).1; omega
    · exact Nat.le_trans (Nat.le_trans hB b2.size) h
  obtain ⟨a3, c3, rfl⟩ := s3'.shape
  rw [insS_len] at r3 s3'
  exact ⟨a1, c1, w1, a2, c2, w2, a3, c3, w3, r1, r2, r3, s3', b1, b3⟩
/-- What is sliced off behind m. -/
def tlV (g k co m : Nat) : Value := if m = co then .slice (some ⟨g, 0, none⟩) (k - m) 0 else .slice (some ⟨g, m, none⟩) (k - m) (co - m)
theorem Strs.tl {B : Nat} {w : World} {g k co m : Nat} {rs : List ByteArray} (h : Strs B w (.slice (some ⟨g, 0, none⟩) k co) rs) (hm : m ≤ k) : m ≤ co ∧ k ≤ co ∧ rs.length = k ∧ g < w.heap.size ∧ Src w (.slice (some ⟨g, 0, none⟩) m co) (rs.take m) ∧ Src w (tlV g k co m) (rs.drop m) := by
  obtain ⟨h1, h2, h3, h4, h5⟩ := h.head hm
  refine ⟨h1, h2, h3, (h.lt g rfl).2, h4, ?_⟩
  unfold tlV
  by_cases hmc : m = co
  · rw [if_pos hmc] at h5 ⊢
    rw [show k - m = 0 by omega]; exact h5
  · rw [if_neg hmc] at h5 ⊢
    rw [Option.map_some, Addr.add_lit, Nat.zero_add] at h5
    exact h5

set_option maxHeartbeats 3200000 in
theorem xsorted_any (v : Value) (rs : List ByteArray) (w : World) (h : Texts w v rs) (hn : rs.length ≤ 4000) :
    Calls Try.prog 15 #[v] w fun e w' => ∃ v', e = .returned v' ∧ Strs w.heap.size w' v' (srtS rs) ∧ Below w.heap.size w w' := by
  obtain ⟨a, c, rfl, -⟩ := id h
  obtain ⟨N, hN⟩ : ∃ n, n = rs.length := ⟨_, rfl⟩
  rw [← hN] at h hn ⊢
  have HT := Lib.hid (fun k (hk : k < N) => h.at' hk)
  have HN := Lib.hid hN
  obtain ⟨R, hR⟩ : ∃ R, R = srtS rs := ⟨_, rfl⟩
  rw [← hR]
  have HR := Lib.hid hR
  clear h hN hR
  go_enter Try.func15, Try.ntmps15
  go_wp2
  go_loopw [3, 4] (fun o i wr => ∃ (k : Nat) (ao : Option Addr) (co : Nat), k ≤ N ∧ i = .int .i64 k ∧ o = .slice ao k co ∧ Hid (Strs w.heap.size wr (.slice ao k co) (srtS (rs.take k))) ∧ Hid (Below w.heap.size w wr)) (fun _ i _ => N - (intOf i).toNat)
  case atStart => exact ⟨0, none, 0, Nat.zero_le _, rfl, rfl, Lib.hid (World.ownsRow_nil _ _ _ _), Lib.hid (Below.refl _ _)⟩
  case round =>
    obtain ⟨k, ao, co, hk, rfl, rfl, HO, HB⟩ := hrel
    by_cases hlt : k < N
    · obtain ⟨wo, hwo⟩ : ∃ wo : World, wo = wr := ⟨_, rfl⟩
      rw [← hwo] at HO HB ⊢
      clear hwo
      obtain ⟨hNr, b, off, rfl, hbw, hcell⟩ := HT.out k hlt
      have hx := hcell k hlt
      obtain ⟨x, hxx⟩ : ∃ x, x = rs.getD k ⟨#[]⟩ := ⟨_, rfl⟩
      rw [← hxx] at hx
      obtain ⟨os, hos⟩ : ∃ os, os = srtS (rs.take k) := ⟨_, rfl⟩
      rw [← hos] at HO
      have hol : os.length = k := by rw [hos, srtS_len, List.length_take]; omega
      have hnext : srtS (rs.take (k + 1)) = insS x os := by
        rw [List.take_succ_eq_append_getElem (by omega), srtS_snoc, ← hos]
        congr 1
        rw [hxx, List.getD_eq_getElem?_getD, List.getElem?_eq_getElem (by omega)]; rfl
      have HNX := Lib.hid hnext
      have HOL := Lib.hid hol
      have HXW : Hid (wo.cell? ⟨b, off + k, none⟩ = some (.string x)) := Lib.hid ((HB.out.cell (p := ⟨b, off + k, none⟩) hbw).trans hx)
      have HOC : Hid (∀ m, m < k → ∃ g, ao = some ⟨g, 0, none⟩ ∧ wo.cell? ⟨g, m, none⟩ = some (.string (os.getD m ⟨#[]⟩))) := Lib.hid (fun m hm => by
        rcases HO.out.2 with ⟨h1, h2⟩ | ⟨g, cap, cur, h1, _⟩
        · rw [hol] at h2; omega
        · injection h1 with h1 _ _
          refine ⟨g, h1, ?_⟩
          have := HO.out.cells (g := g) (by rw [h1]; rfl) m (.string (os.getD m ⟨#[]⟩)) (by rw [List.getElem?_map, List.getElem?_eq_getElem (by omega), List.getD_eq_getElem?_getD, List.getElem?_eq_getElem (by omega)]; rfl)
          rw [Addr.add_lit, Nat.zero_add] at this
          exact this)
      have hkN : (k : Int) < N := by omega
      have HBL := Lib.hid hbw
      clear hNr hcell hx hxx hos hol hnext hbw
      go_wp2_with fail
      go_loopw [6] (fun i wr => ∃ m q : Nat, m ≤ k ∧ i = .int .i64 m ∧ wr = wo.drewN q ∧ Hid (∀ j, j < m → leS (os.getD j ⟨#[]⟩) x)) (fun i _ => k - (intOf i).toNat)
      case atStart => exact ⟨0, 0, Nat.zero_le _, rfl, rfl, Lib.hid (fun j h => by omega)⟩
      case round =>
        obtain ⟨m, q, hm, rfl, rfl, HLE⟩ := hrel
        have hxc := HXW.out
        by_cases hmk : m < k
        · obtain ⟨g, rfl, hoc⟩ := HOC.out m hmk
          have hocq := hoc
          obtain ⟨y, hy⟩ : ∃ y, y = os.getD m ⟨#[]⟩ := ⟨_, rfl⟩
          rw [← hy] at hocq
          have HY := Lib.hid hy
          have hd : decide (m < k) = true := decide_eq_true hmk
          have hmki : (m : Int) < k := by omega
          clear hoc hy
          by_cases hle : leS y x
          · have hlb := gt_no hle
            have HLE2 : Hid (∀ j, j < m + 1 → leS (os.getD j ⟨#[]⟩) x) := Lib.hid (fun j hj => by
              by_cases hjm : j = m
              · subst hjm; rw [← HY.out]; exact hle
              · exact HLE.out j (by omega))
            clear hle
            rcases hlb with hlb | hlb
            all_goals
              go_wp2_with fail
              go_quiet (fail)
              go_wp2
              go_roundw
              case rel => exact ⟨m + 1, _, by omega, by go_num, rfl, HLE2⟩
              case measure => simp [intOf]; omega
          · obtain ⟨hlb, hlc⟩ := gt_yes hle
            have HCUT : Hid (cutS x os = m) := Lib.hid (cutS_is (by rw [HOL.out]; omega) (fun j h1 h2 => by
              have := HLE.out j h2
              rwa [List.getD_eq_getElem?_getD, List.getElem?_eq_getElem h1] at this) (fun h => by
              rw [HY.out, List.getD_eq_getElem?_getD, List.getElem?_eq_getElem h] at hle
              exact hle))
            clear hle
            go_wp2_with fail
            go_quiet (fail)
            obtain ⟨W, hW⟩ : ∃ W, W = (wo.drewN q).drewN nq := ⟨_, rfl⟩
            rw [← hW]
            have hbW : Below wo.heap.size wo W := by rw [hW, World.drewN_drewN]; exact below_drewN wo _
            have hsW : W.heap.size = wo.heap.size := by rw [hW]; rfl
            have hBW := HB.out.size
            have hsW' : Strs w.heap.size W (.slice (some ⟨g, 0, none⟩) k co) os := HO.out.below hbW
            obtain ⟨hmc, hkc, -, hgl, hs1, hs2⟩ := hsW'.tl (m := m) (by omega)
            have htv : tlV g k co m = Value.slice (some ⟨g, m, none⟩) (k - m) (co - m) := if_neg (by omega)
            rw [htv] at hs2
            have hs3 : ∀ a n c, Value.slice (some ⟨g, m, none⟩) (k - m) (co - m) = .slice (some a) n c → a.block < W.heap.size := fun a n c e => by injection e with e _ _; injection e with e; rw [← e]; exact hgl
            clear hsW'
            obtain ⟨a1, c1, w1, a2, c2, w2, a3, c3, w3, r1, r2, r3, s3, b1, b3⟩ := place w.heap.size W (.slice (some ⟨g, 0, none⟩) m co) (.slice (some ⟨g, m, none⟩) (k - m) (co - m)) os x m (by rw [hsW]; exact hBW) HCUT.out hs1 hs2 hs3 (by have := HOL.out; omega)
            have hx1 : w1.cell? ⟨b, off + k, none⟩ = some (.string x) := (b1.cell (p := ⟨b, off + k, none⟩) (by show b < _; rw [hsW]; have := HBL.out; omega)).trans ((hbW.cell (p := ⟨b, off + k, none⟩) (by show b < _; have := HBL.out; omega)).trans HXW.out)
            rw [HOL.out] at r3 s3
            have H3 : Hid (Strs w.heap.size w3 (.slice a3 (k + 1) c3) (srtS (rs.take (k + 1)))) := Lib.hid (by rw [HNX.out]; exact s3)
            have HB3 : Hid (Below w.heap.size w w3) := Lib.hid (HB.out.trans ((hbW.trans (b3.mono (by rw [hsW]; exact Nat.le_refl _))).mono hBW))
            clear s3 b1 b3 hs1 hs2 hs3 hbW hsW hW
            go_wp2_with (first | (at_builtin; refine Lib.wpList_append_run _ rfl (.tmp 30) (.tmp 33) 22 22 rfl _ _ rfl rfl _ _ r1 ?_) | (at_builtin; refine Lib.wpList_append_run _ rfl (.tmp 35) (.tmp 40) 22 22 rfl _ _ rfl rfl _ _ r2 ?_) | (at_builtin; refine Lib.wpList_append_run _ rfl (.tmp 42) (.tmp 45) 22 22 rfl _ _ rfl rfl _ _ r3 ?_))
            clear r1 r2 r3
            go_roundw
            case rel => exact ⟨k + 1, a3, c3, by omega, by go_num, rfl, H3, HB3⟩
            case measure => simp [intOf]; omega
        · obtain rfl : m = k := by omega
          have HCUT : Hid (cutS x os = m) := Lib.hid (cutS_is (by rw [HOL.out]; omega) (fun j h1 h2 => by
            have := HLE.out j h2
            rwa [List.getD_eq_getElem?_getD, List.getElem?_eq_getElem h1] at this) (fun h => by have := HOL.out; omega))
          have hd : decide (m < m) = false := decide_eq_false (by omega)
          clear hmk
          rcases HO.out.2 with ⟨h1, h2⟩ | ⟨g, cap, cur, h1, -⟩
          · injection h1 with h1 h3 h4
            subst h1 h4
            obtain rfl : m = 0 := h3
            clear h2
            go_wp2_with fail
            go_quiet (fail)
            obtain ⟨W, hW⟩ : ∃ W, W = (wo.drewN q).drewN nq := ⟨_, rfl⟩
            rw [← hW]
            have hbW : Below wo.heap.size wo W := by rw [hW, World.drewN_drewN]; exact below_drewN wo _
            have hsW : W.heap.size = wo.heap.size := by rw [hW]; rfl
            have hBW := HB.out.size
            have hs1 : Src W (.slice none 0 0) (os.take 0) := .inl ⟨rfl, rfl⟩
            have hs2 : Src W (.slice none 0 0) (os.drop 0) := .inl ⟨rfl, by rw [List.drop_zero]; exact List.eq_nil_of_length_eq_zero HOL.out⟩
            have hs3 : ∀ a n c, Value.slice none 0 0 = .slice (some a) n c → a.block < W.heap.size := fun a n c e => by injection e with e _ _; cases e
            obtain ⟨a1, c1, w1, a2, c2, w2, a3, c3, w3, r1, r2, r3, s3, b1, b3⟩ := place w.heap.size W (.slice none 0 0) (.slice none 0 0) os x 0 (by rw [hsW]; exact hBW) HCUT.out hs1 hs2 hs3 (by have := HOL.out; omega)
            have hx1 : w1.cell? ⟨b, off, none⟩ = some (.string x) := (b1.cell (p := ⟨b, off, none⟩) (by show b < _; rw [hsW]; have := HBL.out; omega)).trans ((hbW.cell (p := ⟨b, off, none⟩) (by show b < _; have := HBL.out; omega)).trans HXW.out)
            rw [HOL.out] at r3 s3
            have H3 : Hid (Strs w.heap.size w3 (.slice a3 (0 + 1) c3) (srtS (rs.take (0 + 1)))) := Lib.hid (by rw [HNX.out]; exact s3)
            have HB3 : Hid (Below w.heap.size w w3) := Lib.hid (HB.out.trans ((hbW.trans (b3.mono (by rw [hsW]; exact Nat.le_refl _))).mono hBW))
            clear s3 b1 b3 hs1 hs2 hs3 hbW hsW hW
            go_wp2_with (first | (at_builtin; refine Lib.wpList_append_run _ rfl (.tmp 30) (.tmp 33) 22 22 rfl _ _ rfl rfl _ _ r1 ?_) | (at_builtin; refine Lib.wpList_append_run _ rfl (.tmp 35) (.tmp 40) 22 22 rfl _ _ rfl rfl _ _ r2 ?_) | (at_builtin; refine Lib.wpList_append_run _ rfl (.tmp 42) (.tmp 45) 22 22 rfl _ _ rfl rfl _ _ r3 ?_))
            clear r1 r2 r3
            go_roundw
            case rel => exact ⟨0 + 1, a3, c3, by omega, by go_num, rfl, H3, HB3⟩
            case measure => simp [intOf]; omega
          · have h1' : ao = some ⟨g, 0, none⟩ := by injection h1
            subst h1'
            clear h1 cur cap
            by_cases hmco : m = co
            · subst hmco
              go_wp2_with fail
              go_quiet (fail)
              obtain ⟨W, hW⟩ : ∃ W, W = (wo.drewN q).drewN nq := ⟨_, rfl⟩
              rw [← hW]
              have hbW : Below wo.heap.size wo W := by rw [hW, World.drewN_drewN]; exact below_drewN wo _
              have hsW : W.heap.size = wo.heap.size := by rw [hW]; rfl
              have hBW := HB.out.size
              have hsW' : Strs w.heap.size W (.slice (some ⟨g, 0, none⟩) m m) os := HO.out.below hbW
              obtain ⟨-, -, -, hgl, hs1, hs2⟩ := hsW'.tl (m := m) (by omega)
              have htv : tlV g m m m = Value.slice (some ⟨g, 0, none⟩) 0 0 := by unfold tlV; rw [if_pos rfl, Nat.sub_self]
              rw [htv] at hs2
              have hs3 : ∀ a n c, Value.slice (some ⟨g, 0, none⟩) 0 0 = .slice (some a) n c → a.block < W.heap.size := fun a n c e => by injection e with e _ _; injection e with e; rw [← e]; exact hgl
              clear hsW'
              obtain ⟨a1, c1, w1, a2, c2, w2, a3, c3, w3, r1, r2, r3, s3, b1, b3⟩ := place w.heap.size W (.slice (some ⟨g, 0, none⟩) m m) (.slice (some ⟨g, 0, none⟩) 0 0) os x m (by rw [hsW]; exact hBW) HCUT.out hs1 hs2 hs3 (by have := HOL.out; omega)
              have hx1 : w1.cell? ⟨b, off + m, none⟩ = some (.string x) := (b1.cell (p := ⟨b, off + m, none⟩) (by show b < _; rw [hsW]; have := HBL.out; omega)).trans ((hbW.cell (p := ⟨b, off + m, none⟩) (by show b < _; have := HBL.out; omega)).trans HXW.out)
              rw [HOL.out] at r3 s3
              have H3 : Hid (Strs w.heap.size w3 (.slice a3 (m + 1) c3) (srtS (rs.take (m + 1)))) := Lib.hid (by rw [HNX.out]; exact s3)
              have HB3 : Hid (Below w.heap.size w w3) := Lib.hid (HB.out.trans ((hbW.trans (b3.mono (by rw [hsW]; exact Nat.le_refl _))).mono hBW))
              clear s3 b1 b3 hs1 hs2 hs3 hbW hsW hW
              go_wp2_with (first | (at_builtin; refine Lib.wpList_append_run _ rfl (.tmp 30) (.tmp 33) 22 22 rfl _ _ rfl rfl _ _ r1 ?_) | (at_builtin; refine Lib.wpList_append_run _ rfl (.tmp 35) (.tmp 40) 22 22 rfl _ _ rfl rfl _ _ r2 ?_) | (at_builtin; refine Lib.wpList_append_run _ rfl (.tmp 42) (.tmp 45) 22 22 rfl _ _ rfl rfl _ _ r3 ?_))
              clear r1 r2 r3
              go_roundw
              case rel => exact ⟨m + 1, a3, c3, by omega, by go_num, rfl, H3, HB3⟩
              case measure => simp [intOf]; omega
            · go_wp2_with fail
              go_quiet (fail)
              obtain ⟨W, hW⟩ : ∃ W, W = (wo.drewN q).drewN nq := ⟨_, rfl⟩
              rw [← hW]
              have hbW : Below wo.heap.size wo W := by rw [hW, World.drewN_drewN]; exact below_drewN wo _
              have hsW : W.heap.size = wo.heap.size := by rw [hW]; rfl
              have hBW := HB.out.size
              have hsW' : Strs w.heap.size W (.slice (some ⟨g, 0, none⟩) m co) os := HO.out.below hbW
              obtain ⟨hmc, -, -, hgl, hs1, hs2⟩ := hsW'.tl (m := m) (by omega)
              have htv : tlV g m co m = Value.slice (some ⟨g, m, none⟩) 0 (co - m) := by unfold tlV; rw [if_neg hmco, Nat.sub_self]
              rw [htv] at hs2
              have hs3 : ∀ a n c, Value.slice (some ⟨g, m, none⟩) 0 (co - m) = .slice (some a) n c → a.block < W.heap.size := fun a n c e => by injection e with e _ _; injection e with e; rw [← e]; exact hgl
              clear hsW'
              obtain ⟨a1, c1, w1, a2, c2, w2, a3, c3, w3, r1, r2, r3, s3, b1, b3⟩ := place w.heap.size W (.slice (some ⟨g, 0, none⟩) m co) (.slice (some ⟨g, m, none⟩) 0 (co - m)) os x m (by rw [hsW]; exact hBW) HCUT.out hs1 hs2 hs3 (by have := HOL.out; omega)
              have hx1 : w1.cell? ⟨b, off + m, none⟩ = some (.string x) := (b1.cell (p := ⟨b, off + m, none⟩) (by show b < _; rw [hsW]; have := HBL.out; omega)).trans ((hbW.cell (p := ⟨b, off + m, none⟩) (by show b < _; have := HBL.out; omega)).trans HXW.out)
              rw [HOL.out] at r3 s3
              have H3 : Hid (Strs w.heap.size w3 (.slice a3 (m + 1) c3) (srtS (rs.take (m + 1)))) := Lib.hid (by rw [HNX.out]; exact s3)
              have HB3 : Hid (Below w.heap.size w w3) := Lib.hid (HB.out.trans ((hbW.trans (b3.mono (by rw [hsW]; exact Nat.le_refl _))).mono hBW))
              clear s3 b1 b3 hs1 hs2 hs3 hbW hsW hW
              go_wp2_with (first | (at_builtin; refine Lib.wpList_append_run _ rfl (.tmp 30) (.tmp 33) 22 22 rfl _ _ rfl rfl _ _ r1 ?_) | (at_builtin; refine Lib.wpList_append_run _ rfl (.tmp 35) (.tmp 40) 22 22 rfl _ _ rfl rfl _ _ r2 ?_) | (at_builtin; refine Lib.wpList_append_run _ rfl (.tmp 42) (.tmp 45) 22 22 rfl _ _ rfl rfl _ _ r3 ?_))
              clear r1 r2 r3
              go_roundw
              case rel => exact ⟨m + 1, a3, c3, by omega, by go_num, rfl, H3, HB3⟩
              case measure => simp [intOf]; omega
    · obtain rfl : k = N := by omega
      go_wp2
      go_ret
      exact ⟨_, rfl, by rw [HR.out]; have := HO.out; rwa [show rs.take k = rs by rw [HN.out, List.take_length]] at this, HB.out⟩
end Go.Proofs.Ytgegljbocacdnaa
