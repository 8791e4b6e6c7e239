/- The walk of MethodAbilities. -/
import Derived.Test.YtnghhhmhinailaaRX
import Derived.Test.YtnghhhmhinailaaRU
import Derived.Deep.CutRange
import Derived.Deep.DeepCutAuto
set_option maxRecDepth 100000
namespace Go.Proofs.Ytnghhhmhinailaa.Dm
open Go Go.RowKit

theorem tmod_in5 (x : Int) : x.tmod 5 ≤ 4 ∧ -4 ≤ x.tmod 5 := by
  have h : (x.tmod 5).natAbs < 5 := by
    rw [Int.natAbs_tmod]
    exact Nat.mod_lt _ (by decide)
  omega

/-- The names, each with a blank behind it. -/
def jn (l : List ByteArray) : ByteArray := l.foldl (fun s x => s ++ x ++ ⟨#[32]⟩) ⟨#[]⟩
theorem jn_snoc (l : List ByteArray) (x : ByteArray) : jn (l ++ [x]) = jn l ++ x ++ ⟨#[32]⟩ := by unfold jn; rw [List.foldl_append]; rfl

def wLoad : ByteArray := ⟨#[108, 111, 97, 100, 101, 100, 32]⟩
def wBoth : ByteArray := ⟨#[105, 116, 101, 109, 115, 32, 99, 111, 117, 110, 116, 101, 100, 32]⟩
def wOrd : ByteArray := ⟨#[111, 114, 100, 101, 114, 101, 100, 32]⟩
theorem jn0 : jn [] = ⟨#[]⟩ := rfl
theorem jn2 : jn [sLoad] = wLoad := by rw [← List.nil_append [sLoad], jn_snoc]; apply ByteArray.ext; simp [jn, sLoad, wLoad]
theorem jn3 : jn [sItems, sCount] = wBoth := by
  rw [show [sItems, sCount] = ([] ++ [sItems]) ++ [sCount] from rfl, jn_snoc, jn_snoc]; apply ByteArray.ext; simp [jn, sItems, sCount, wBoth]
theorem jn4 : jn [sOrd] = wOrd := by rw [← List.nil_append [sOrd], jn_snoc]; apply ByteArray.ext; simp [jn, sOrd, wOrd]

theorem fold_size (l : List ByteArray) : ∀ s : ByteArray, (∀ x ∈ l, x.size ≤ 7) → (l.foldl (fun s x => s ++ x ++ (⟨#[32]⟩ : ByteArray)) s).size ≤ s.size + 8 * l.length := by
  induction l with
  | nil => exact fun s _ => Nat.le_refl _
  | cons x l ih =>
    intro s h
    rw [List.foldl_cons]
    refine Nat.le_trans (ih _ (fun y hy => h y (by simp [hy]))) ?_
    rw [ByteArray.size_append, ByteArray.size_append, List.length_cons]
    have h2 := h x (by simp)
    have h3 : (⟨#[32]⟩ : ByteArray).size = 1 := rfl
    omega
theorem jn_size {l : List ByteArray} (h : ∀ x ∈ l, x.size ≤ 7) : (jn l).size ≤ 8 * l.length := by
  have := fold_size l ⟨#[]⟩ h
  have h0 : (⟨#[]⟩ : ByteArray).size = 0 := rfl
  unfold jn
  omega

/-- The law's two lists. -/
theorem ab_rows {w1 W2 : World} {P : Value} (hW2 : W2 = (w1.alloc (.cells #[.nilIface, .iface 47 (.agg #[]), .iface 49 (.agg #[]), .iface 50 (.agg #[]), .iface 23 P] 55)).alloc (.cells #[.string ⟨#[]⟩, .string ⟨#[]⟩, .string wLoad, .string wBoth, .string wOrd] 9)) :
    ∀ k, k < 5 → ∃ m l, (∀ W, Below W2.heap.size W2 W → W.cell? ⟨w1.heap.size, k, none⟩ = some m ∧ W.cell? ⟨w1.heap.size + 1, k, none⟩ = some (.string (jn l))) ∧ (∀ W, Calls Try.prog 35 #[m] W (AbP W l)) ∧ l.length ≤ 2 ∧ ∀ x ∈ l, x.size ≤ 7 := by
  intro k hk
  have hz : W2.heap.size = w1.heap.size + 2 := by rw [hW2]; simp
  have h0 : W2.heap[w1.heap.size]? = some (.cells #[.nilIface, .iface 47 (.agg #[]), .iface 49 (.agg #[]), .iface 50 (.agg #[]), .iface 23 P] 55) := by
    rw [hW2, heap_alloc_old _ _ _ (by simp), heap_alloc_new]
  have h1 : W2.heap[w1.heap.size + 1]? = some (.cells #[.string ⟨#[]⟩, .string ⟨#[]⟩, .string wLoad, .string wBoth, .string wOrd] 9) := by
    have := heap_alloc_new (w1.alloc (.cells #[.nilIface, .iface 47 (.agg #[]), .iface 49 (.agg #[]), .iface 50 (.agg #[]), .iface 23 P] 55)) (.cells #[.string ⟨#[]⟩, .string ⟨#[]⟩, .string wLoad, .string wBoth, .string wOrd] 9)
    rw [← hW2] at this
    simpa using this
  have hc : ∀ (m s : Value), (#[Value.nilIface, .iface 47 (.agg #[]), .iface 49 (.agg #[]), .iface 50 (.agg #[]), .iface 23 P])[k]? = some m → (#[Value.string ⟨#[]⟩, .string ⟨#[]⟩, .string wLoad, .string wBoth, .string wOrd])[k]? = some s →
      ∀ W, Below W2.heap.size W2 W → W.cell? ⟨w1.heap.size, k, none⟩ = some m ∧ W.cell? ⟨w1.heap.size + 1, k, none⟩ = some s := fun m s hm hs W hb =>
    ⟨(hb.cell (p := ⟨w1.heap.size, k, none⟩) (show w1.heap.size < W2.heap.size by omega)).trans (by rw [Lib.cell_of_heap h0]; exact hm), (hb.cell (p := ⟨w1.heap.size + 1, k, none⟩) (show w1.heap.size + 1 < W2.heap.size by omega)).trans (by rw [Lib.cell_of_heap h1]; exact hs)⟩
  rcases (by omega : k = 0 ∨ k = 1 ∨ k = 2 ∨ k = 3 ∨ k = 4) with rfl | rfl | rfl | rfl | rfl
  · exact ⟨_, [], hc _ _ rfl rfl, fun W => abil_none _ asn_nil W, by decide, fun x hx => by cases hx⟩
  · exact ⟨_, [], hc _ _ rfl rfl, fun W => abil_none _ (asn_bare _) W, by decide, fun x hx => by cases hx⟩
  · exact ⟨_, [sLoad], by rw [jn2]; exact hc _ _ rfl rfl, fun W => abil_load _ (asn_load _) W, by decide, fun x hx => by rw [List.mem_singleton] at hx; subst hx; decide⟩
  · exact ⟨_, [sItems, sCount], by rw [jn3]; exact hc _ _ rfl rfl, fun W => abil_both _ (asn_both _) W, by decide, fun x hx => by
      simp only [List.mem_cons, List.not_mem_nil, or_false] at hx
      rcases hx with rfl | rfl <;> decide⟩
  · exact ⟨_, [sOrd], by rw [jn4]; exact hc _ _ rfl rfl, fun W => abil_ord _ (asn_plain _) W, by decide, fun x hx => by rw [List.mem_singleton] at hx; subst hx; decide⟩

set_option maxHeartbeats 6400000 in
theorem methodAbilities_walk (n : Int) (w : World) :
    Calls Try.prog 5 #[.int .i64 n] w fun e w' => e = .returned (.bool true) ∧ Below w.heap.size w w' := by
  have hX := tmod_in5 n
  obtain ⟨X, hXe⟩ : ∃ X, n.tmod 5 = X := ⟨_, rfl⟩
  rw [hXe] at hX
  go_enter Try.func5, Try.ntmps5
  go_wp2_with fail
  refine (newPlain_any w).mono ?_
  rintro r w1 ⟨rfl, -, hb⟩
  have HB := Lib.hid hb
  clear hb
  obtain ⟨P, hP⟩ : ∃ P, P = Value.pointer (some ⟨w.heap.size, 0, none⟩) := ⟨_, rfl⟩
  obtain ⟨W2, hW2⟩ : ∃ W2, W2 = (w1.alloc (.cells #[.nilIface, .iface 47 (.agg #[]), .iface 49 (.agg #[]), .iface 50 (.agg #[]), .iface 23 P] 55)).alloc (.cells #[.string ⟨#[]⟩, .string ⟨#[]⟩, .string wLoad, .string wBoth, .string wOrd] 9) := ⟨_, rfl⟩
  obtain ⟨L, hL⟩ : ∃ L, L = w1.heap.size := ⟨_, rfl⟩
  have hrow := ab_rows hW2
  rw [← hL] at hrow
  have HROW := Lib.hid hrow
  have HB2 : Hid (Below w.heap.size w W2) := Lib.hid (by rw [hW2]; exact (HB.out.alloc HB.out.size _).alloc (by simp; have := HB.out.size; omega) _)
  clear hrow HB
  unfold wLoad wBoth wOrd at hW2
  subst hP
  go_upto_if 24 with fail
  rw [← hW2, ← hL]
  clear hW2 hL
  go_cut [5] (fun x wx => (∃ m : Nat, m < 5 ∧ x = .int .i64 m) ∧ W2 = wx)
  case first =>
    go_wp2_with fail
    all_goals go_meet
    all_goals first
      | exact ⟨⟨X.toNat, by omega, by congr 1; omega⟩, rfl⟩
      | exact ⟨⟨(-X).toNat, by omega, by congr 1; omega⟩, rfl⟩
  case rest =>
    obtain ⟨⟨kk, hkk, rfl⟩, rfl⟩ := hcut
    clear hX hXe
    obtain ⟨m, l, hcell, hcall, hl2, hl7⟩ := HROW.out kk hkk
    have HCALL := Lib.hid (abils_any m l W2 (hcall W2))
    have HCELL := Lib.hid hcell
    have HSZ := Lib.hid hl7
    obtain ⟨c0, -⟩ := hcell W2 (Below.refl _ _)
    clear HROW hcell hcall hl7
    have f0 : (0 : Int) ≤ (kk : Int) := by omega
    have f1 : (kk : Int) < 5 := by omega
    go_wp2_with fail
    refine HCALL.out.mono ?_
    rintro r w3 ⟨v, rfl, ho, hb⟩
    obtain ⟨a, c, rfl⟩ := ho.shape
    obtain ⟨-, c1⟩ := HCELL.out w3 hb
    have HO := Lib.hid ho
    have HB3 := Lib.hid (HB2.out.trans (hb.mono HB2.out.size))
    obtain ⟨ll, hll⟩ : ∃ ll, ll = l.length := ⟨_, rfl⟩
    have HLL := Lib.hid hll
    rw [← hll] at hl2 ⊢
    obtain ⟨sw, hsw⟩ : ∃ sw, sw = jn l := ⟨_, rfl⟩
    rw [← hsw] at c1
    have HSW := Lib.hid hsw
    clear HCALL HCELL c0 ho hb hll hsw
    go_wp2
    go_loopw [6, 8] (fun sv iv wr => ∃ (j : Nat) (s : ByteArray), j ≤ ll ∧ sv = .string s ∧ iv = .int .i64 j ∧ w3 = wr ∧ Hid (s = jn (l.take j))) (fun _ iv _ => ll - (intOf iv).toNat)
    case atStart => exact ⟨0, _, Nat.zero_le _, rfl, rfl, rfl, Lib.hid rfl⟩
    case round =>
      obtain ⟨j, s, hj, rfl, rfl, rfl, HS⟩ := hrel
      by_cases hlt : j < ll
      · have hlt' : j < l.length := by rw [← HLL.out]; exact hlt
        obtain ⟨g, rfl, hg, hc⟩ := (HLL.out ▸ HO.out : SRow _ _ (.slice a ll c) l).at hlt'
        have hx7 : (l[j]'hlt').size ≤ 7 := HSZ.out _ (List.getElem_mem _)
        have hs8 : s.size ≤ 8 * j := by
          rw [HS.out]
          refine Nat.le_trans (jn_size (fun x hx => HSZ.out x (List.mem_of_mem_take hx))) ?_
          rw [List.length_take]
          omega
        have HN : Hid (s ++ l[j]'hlt' ++ ⟨#[32]⟩ = jn (l.take (j + 1))) := Lib.hid (by rw [List.take_succ_eq_append_getElem hlt', jn_snoc, HS.out])
        obtain ⟨x, hx⟩ : ∃ x, x = l[j]'hlt' := ⟨_, rfl⟩
        rw [← hx] at hc hx7 HN
        have z1 : ¬ 9223372036854775807 < s.size + x.size := by omega
        have z2 : ¬ 9223372036854775807 < s.size + x.size + 1 := by omega
        have z3 : ¬ 9223372036854775807 < s.size + x.size + (⟨#[32]⟩ : ByteArray).size := z2
        have hji : (j : Int) < (ll : Int) := by omega
        clear hx
        go_wp2
        go_roundw
        case rel => exact ⟨j + 1, _, by omega, by first | rfl | trivial, by go_num, by first | rfl | trivial, HN⟩
        case measure => simp [intOf]; omega
      · have hjl : j = ll := by omega
        have hse : s = sw := by rw [HS.out, HSW.out, hjl, HLL.out, List.take_length]
        subst hse
        have hji : ¬ (j : Int) < (ll : Int) := by omega
        have HAW := Lib.hid (awake_any w3)
        clear HS hjl
        go_wp2_with fail
        refine HAW.out.mono ?_
        rintro e w4 ⟨rfl, hb4⟩
        have HE := Lib.hid (HB3.out.trans (hb4.mono HB3.out.size))
        clear hb4 HAW
        go_wp2
        go_ret
        exact ⟨rfl, HE.out⟩
end Go.Proofs.Ytnghhhmhinailaa.Dm
