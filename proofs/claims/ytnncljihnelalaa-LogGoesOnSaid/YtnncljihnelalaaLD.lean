/- The contract of a log's recordsOf: for the bytes of any records. -/
import Derived.Test.YtnncljihnelalaaLC
import Derived.Laws.OwnMore
set_option maxRecDepth 100000
namespace Go.Proofs.Ytnncljihnelalaa
open Go.RowKit

theorem infoStr : (Try.prog.info? 9).map (fun i => (i.zero, i.size, i.bytes)) = some (some (.string ⟨#[]⟩), 1, 16) := by kernel_rfl

/-- Texts that lie in a row of their own, from block B on. -/
def Strs (B : Nat) (w : World) (v : Value) (rs : List ByteArray) : Prop := w.ownsRow B 9 1 v rs.length (rs.map Value.string)

theorem ownsRow_below {w w' : World} {base : Nat} {e : TypeId} {size : Nat} {v : Value} {n : Nat} {xs : List Value} (h : w.ownsRow base e size v n xs) (hb : Below w.heap.size w w') : w'.ownsRow base e size v n xs :=
  ownsRow_of_block h fun k hk => hb.block k (h.lt k hk).2
theorem Strs.below {B : Nat} {w w' : World} {v : Value} {rs : List ByteArray} (h : Strs B w v rs) (hb : Below w.heap.size w w') : Strs B w' v rs := ownsRow_below h hb
theorem Strs.mono {B B' : Nat} {w : World} {v : Value} {rs : List ByteArray} (h : Strs B w v rs) (hB : B' ≤ B) : Strs B' w v rs :=
  ⟨h.1, h.2.imp id fun ⟨g, cap, cur, h1, h2, h3⟩ => ⟨g, cap, cur, h1, Nat.le_trans hB h2, h3⟩⟩
theorem Strs.shape {B : Nat} {w : World} {v : Value} {rs : List ByteArray} (h : Strs B w v rs) : ∃ a c, v = .slice a rs.length c := by
  rcases h.2 with ⟨rfl, h0⟩ | ⟨g, cap, cur, rfl, _⟩
  · exact ⟨none, 0, by rw [h0]⟩
  · exact ⟨_, cap, rfl⟩
theorem below_drewN (w : World) (n : Nat) : Below w.heap.size w (w.drewN n) := ⟨rfl, rfl, rfl, Nat.le_refl _, fun _ _ => rfl⟩

theorem convert_reads (w : World) (a : Option Addr) (s : ByteArray) (c : Nat) (h : ReadsB w a s.data.toList) (h0 : 0 < s.size) :
    (convert 42 9 (.slice a s.size c)).run Try.prog w = .ok (.string s) w := by
  obtain ⟨b, off, rfl, _, hc⟩ := h.at h0
  have := run_convert_bytes_back (P := Try.prog) w 42 9 5 ⟨b, off, none⟩ c s.data.toList Try.underlying42 Try.underlying5 Try.underlying9 (fun j hj => by rw [Addr.add_lit]; exact hc j hj)
  exact this

/-- What is left of the bytes behind i records. -/
def restB (rs : List ByteArray) (i : Nat) : List UInt8 := logG (i + 1) (rs.drop i)
theorem restB_end (rs : List ByteArray) : restB rs rs.length = [] := by simp [restB, logG]
theorem restB_next {rs : List ByteArray} {i : Nat} (h : i < rs.length) : restB rs i = frm rs[i] (i + 1) ++ restB rs (i + 1) := by
  unfold restB
  rw [List.drop_eq_getElem_cons h, logG]
theorem restB_le (rs : List ByteArray) : ∀ i, i ≤ rs.length → (restB rs i).length ≤ (logB rs).length := by
  intro i
  induction i with
  | zero => intro _; simp [restB, logB]
  | succ i ih =>
    intro h
    have := ih (by omega)
    rw [restB_next (by omega : i < rs.length), List.length_append] at this
    omega

theorem lcut_end (a : Option Addr) (n c : Nat) (l : List UInt8) (w : World) (hn : l.length = n) (hl : l = []) :
    Calls Try.prog 26 #[.slice a n c] w fun e w' => e = .returned (.tuple #[.slice none 0 0, .slice none 0 0, .bool false]) ∧ w = w' := by
  subst hl; subst hn
  exact (lcut_no a [] c w (by simp) (by simp) (.inl rfl) rfl).mono fun _ _ h => ⟨h.1, h.2.symm⟩
theorem lcut_next (a : Option Addr) (n c : Nat) (l : List UInt8) (s : ByteArray) (rest : List UInt8) (w : World) (hn : l.length = n) (hc : n ≤ c) (hl : n ≤ 4194304) (hR : ReadsB w a l) (h : cutF l = some (s.data.toList, rest)) (hs : 1 ≤ s.size) :
    Calls Try.prog 26 #[.slice a n c] w fun e w' => ∃ a1 c1 a2 c2 m k, e = .returned (.tuple #[.slice a1 s.size c1, .slice a2 m c2, .bool true]) ∧ w' = w.drewN k ∧ (∀ W, ReadsB W a l → ReadsB W a1 s.data.toList ∧ ReadsB W a2 rest) ∧ rest.length = m ∧ m ≤ c2 := by
  subst hn
  refine (lcut_yes a l s.data.toList rest c w hc hl hR h (by intro e; have : s.data.toList.length = s.size := rfl; rw [e] at this; simp at this; omega)).mono ?_
  rintro e w' ⟨a1, c1, a2, c2, h1, h2, h4, k, h5⟩
  exact ⟨a1, c1, a2, c2, rest.length, k, h1, h5, h2, rfl, h4⟩

/-- The measure of recordsOf's loop. -/
def sliceLen : Value → Nat
  | .slice _ n _ => n
  | _ => 0

set_option maxHeartbeats 1600000 in
theorem recordsOf_any (rs : List ByteArray) (a : Option Addr) (c n : Nat) (w : World) (hn : (logB rs).length = n) (hl : n ≤ 4194304) (hrs : Recs rs) (hc : n ≤ c) (hR : ReadsB w a (logB rs)) :
    Calls Try.prog 17 #[.slice a n c] w fun e w' => ∃ v, e = .returned v ∧ Strs w.heap.size w' v rs ∧ Below w.heap.size w w' := by
  obtain ⟨i0, hi, q0, q1, q2⟩ := info_parts infoStr
  have hn9 := logB_length hrs
  have HRS := Lib.hid hrs; have HR := Lib.hid hR; clear hrs hR
  obtain ⟨N, hN⟩ : ∃ N, N = rs.length := ⟨_, rfl⟩
  rw [hn, ← hN] at hn9
  have HL := Lib.hid hn; have HN := Lib.hid hN; clear hn hN
  have HLE : Hid (∀ i, i ≤ N → (restB rs i).length ≤ n) := Lib.hid (fun i hi => by rw [← HL.out]; exact restB_le rs i (by rw [← HN.out]; exact hi))
  go_enter Try.func17, Try.ntmps17
  go_wp2
  go_loopw [0, 3] (fun b v wr => ∃ (i : Nat) (a' : Option Addr) (c' m : Nat) (av : Option Addr) (cv : Nat), i ≤ N ∧ b = .slice a' m c' ∧ v = .slice av i cv ∧ m ≤ c' ∧ m ≤ 4194304 ∧ Hid ((restB rs i).length = m) ∧ Hid (ReadsB w a' (restB rs i)) ∧ Hid (Strs w.heap.size wr v (rs.take i)) ∧ Hid (Below w.heap.size w wr)) (fun b _ _ => sliceLen b)
  case atStart => exact ⟨0, a, c, n, none, 0, by omega, rfl, rfl, hc, hl, Lib.hid (by rw [← HL.out]; rfl), HR, Lib.hid (World.ownsRow_nil _ _ _ _), Lib.hid (Below.refl _ _)⟩
  case round =>
    obtain ⟨i, a', c', m, av, cv, hiN, rfl, rfl, hmc, hm4, HM, HRR, HO, HB⟩ := hrel
    by_cases hlt : i < N
    · have hlt' : i < rs.length := by rw [← HN.out]; exact hlt
      have hok := HRS.out _ (List.getElem_mem hlt')
      have HNX := Lib.hid (restB_next hlt')
      have HCF : Hid (cutF (restB rs i) = some (rs[i].data.toList, restB rs (i + 1))) := Lib.hid (by rw [HNX.out]; exact cutF_frm hok.2)
      go_wp2_with fail
      refine (lcut_next _ _ _ _ _ _ _ HM.out hmc hm4 (HRR.out.below HB.out) HCF.out hok.1).mono ?_
      rintro e w1 ⟨a1, c1, a2, c2, m2, k, rfl, rfl, hr, hm2, hc2⟩
      have hr1 := (hr wr (HRR.out.below HB.out)).1
      have HRN : Hid (ReadsB w a2 (restB rs (i + 1))) := Lib.hid (hr w HRR.out).2
      have hwd : (wr.drewN k).heap.size = wr.heap.size := rfl
      have hcv := fun o => convert_reads ((wr.drewN k).alloc o) a1 rs[i] c1 ((hr1.below (below_drewN wr k)).below ((Below.refl _ _).alloc (Nat.le_refl _) o)) hok.1
      have hcv0 := convert_reads (wr.drewN k) a1 rs[i] c1 (hr1.below (below_drewN wr k)) hok.1
      have HM2 := Lib.hid hm2
      clear hr1 hr hm2
      have HO1 : Hid ((wr.drewN k).ownsRow w.heap.size 9 1 (.slice av i cv) i ((rs.take i).map Value.string)) := Lib.hid (by
        have := HO.out.below (below_drewN wr k)
        rw [Strs, List.length_take, Nat.min_eq_left (by omega)] at this
        exact this)
      have hBw : w.heap.size ≤ wr.heap.size := HB.out.size
      go_wp2_with (at_builtin; refine wpList_append_own _ rfl _ _ 22 rfl w.heap.size 9 i0 (.string ⟨#[]⟩) 1 16 Try.underlying22 hi q0 q1 q2 rfl (by decide) _ _ _ rfl (HO1.out.alloc _) ⟨wr.heap.size, 0, none⟩ 1 1 [.string rs[i]] rfl rfl ?c1 ?c2 ?c3 ?c4 ?c5 ?_)
      case c1 =>
        intro q u hu
        have hq : q = 0 := by
          have := (List.getElem?_eq_some_iff.1 hu).1
          simp at this
          omega
        subst hq
        simp at hu
        subst hu
        exact Lib.cell_of_heap (w := (wr.drewN k).alloc (.cells #[.string rs[i]] 9)) (b := wr.heap.size) (heap_alloc_new (wr.drewN k) _) 0
      case c2 => intro u hu; simp at hu; subst hu; rfl
      case c3 => unfold maxLen; omega
      case c4 => omega
      case c5 => simp; omega
      intro v' w2 hown' hgrow _
      obtain ⟨av', cv', rfl⟩ : ∃ a c, v' = .slice a (i + 1) c := by
        rcases hown'.2 with ⟨_, h0⟩ | ⟨g', cap', cur, hv, _⟩
        · omega
        · exact ⟨_, cap', hv⟩
      have HB2 : Hid (Below w.heap.size w w2) := Lib.hid (((HB.out.trans ((below_drewN wr k).mono hBw)).alloc hBw _).grown hgrow (by rw [World.size_alloc]; exact Nat.le_succ_of_le hBw) (fun q hq => (HO1.out.lt q hq).1))
      have HO2 : Hid (Strs w.heap.size w2 (.slice av' (i + 1) cv') (rs.take (i + 1))) := Lib.hid (by
        rw [Strs, List.take_succ_eq_append_getElem hlt', List.length_append, List.length_take, Nat.min_eq_left (by omega), List.map_append, List.map_take]
        exact hown')
      have hlen : m2 < m := by
        have := HM.out
        rw [HNX.out, List.length_append, frm_length, HM2.out] at this
        omega
      clear hown' hgrow hcv hcv0
      go_wp2
      go_roundw
      case rel => exact ⟨i + 1, a2, c2, m2, av', cv', by omega, rfl, rfl, hc2, by omega, HM2, HRN, HO2, HB2⟩
      case measure => simp [sliceLen]; omega
    · obtain rfl : i = N := by omega
      have HE : Hid (restB rs i = []) := Lib.hid (by rw [HN.out]; exact restB_end rs)
      go_wp2_with fail
      refine (lcut_end _ _ _ _ _ HM.out HE.out).mono ?_
      rintro e w1 ⟨rfl, rfl⟩
      go_wp2
      go_ret
      refine ⟨_, rfl, ?_, HB.out⟩
      have h : Strs w.heap.size wr (.slice av i cv) rs := by
        have := HO.out
        rwa [show rs.take i = rs by rw [HN.out, List.take_length]] at this
      exact h
end Go.Proofs.Ytnncljihnelalaa
