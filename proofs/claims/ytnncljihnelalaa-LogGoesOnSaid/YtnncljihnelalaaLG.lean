/- Append at whatever text; the law's same and awake. -/
import Derived.Test.YtnncljihnelalaaLF
set_option maxRecDepth 100000
namespace Go.Proofs.Ytnncljihnelalaa
open Go.RowKit

theorem append_any (B l d : Nat) (S : Nat → Prop) (ops : List RawOp) (rs : List ByteArray) (s : ByteArray) (w : World) (h : DiskLog B d S ops rs w) (hl : LogOn l d w) (ho : ¬ S l) :
    Calls Try.prog 8 #[.pointer (some ⟨l, 0, none⟩), .string s] w (AppPost B d S rs s w) := by
  by_cases hs : s.size = 0 ∨ 1048576 < s.size
  · exact append_bad B l d S ops rs s w h hl hs
  · exact append_good B l d S ops rs s w h hl ho hs

/-- Texts that can be read from a slice. -/
def Texts (w : World) (v : Value) (rs : List ByteArray) : Prop :=
  ∃ a c, v = .slice a rs.length c ∧ (rs = [] ∨ ∃ b off, a = some ⟨b, off, none⟩ ∧ b < w.heap.size ∧ ∀ j (h : j < rs.length), w.cell? ⟨b, off + j, none⟩ = some (.string rs[j]))
theorem Strs.texts {B : Nat} {w : World} {v : Value} {rs : List ByteArray} (h : Strs B w v rs) : Texts w v rs := by
  obtain ⟨a, c, rfl⟩ := h.shape
  refine ⟨a, c, rfl, ?_⟩
  rcases h.2 with ⟨_, h0⟩ | ⟨g, cap, cur, hv, hB, hg, _⟩
  · exact .inl (List.eq_nil_of_length_eq_zero h0)
  · injection hv with hv _ _
    subst hv
    refine .inr ⟨g, 0, rfl, (Array.getElem?_eq_some_iff.1 hg).1, fun j hj => ?_⟩
    have := h.cells (g := g) rfl j (.string rs[j]) (by simp [hj])
    rw [Addr.add_lit] at this
    exact this
theorem Texts.below {w w' : World} {v : Value} {rs : List ByteArray} (h : Texts w v rs) (hb : Below w.heap.size w w') : Texts w' v rs := by
  obtain ⟨a, c, rfl, h⟩ := h
  refine ⟨a, c, rfl, h.imp id ?_⟩
  rintro ⟨b, off, h1, h2, h3⟩
  exact ⟨b, off, h1, Nat.lt_of_lt_of_le h2 hb.size, fun j hj => (hb.cell (p := ⟨b, off + j, none⟩) h2).trans (h3 j hj)⟩

set_option maxHeartbeats 1600000 in
theorem same_yes (v1 v2 : Value) (rs : List ByteArray) (w : World) (h1 : Texts w v1 rs) (h2 : Texts w v2 rs) (hn : rs.length ≤ 9223372036854775807) :
    Calls Try.prog 11 #[v1, v2] w fun e w' => e = .returned (.bool true) ∧ ∃ n, w' = w.drewN n := by
  obtain ⟨a1, c1, rfl, h1⟩ := h1
  obtain ⟨a2, c2, rfl, h2⟩ := h2
  obtain ⟨n, hn'⟩ : ∃ n, n = rs.length := ⟨_, rfl⟩
  have HC : Hid (∀ k, k < n → ∃ b1 o1 b2 o2 s, a1 = some ⟨b1, o1, none⟩ ∧ a2 = some ⟨b2, o2, none⟩ ∧ w.cell? ⟨b1, o1 + k, none⟩ = some (.string s) ∧ w.cell? ⟨b2, o2 + k, none⟩ = some (.string s)) := Lib.hid (fun k hk => by
    rw [hn'] at hk
    rcases h1 with rfl | ⟨b1, o1, e1, _, g1⟩
    · simp at hk
    · rcases h2 with rfl | ⟨b2, o2, e2, _, g2⟩
      · simp at hk
      · exact ⟨b1, o1, b2, o2, rs[k], e1, e2, g1 k hk, g2 k hk⟩)
  rw [← hn'] at hn ⊢
  clear h1 h2 hn'
  have hnn : ((n : Int) != n) = false := by simp
  go_enter Try.func11, Try.ntmps11
  go_wp2
  go_loopw [5] (fun i wr => ∃ k q : Nat, k ≤ n ∧ i = .int .i64 k ∧ wr = w.drewN q) (fun i _ => n - (intOf i).toNat)
  case atStart => exact ⟨0, 0, by omega, rfl, rfl⟩
  case round =>
    obtain ⟨k, q, hk, rfl, rfl⟩ := hrel
    by_cases hlt : k < n
    · obtain ⟨b1, o1, b2, o2, s, rfl, rfl, g1, g2⟩ := HC.out k hlt
      have hkn : (k : Int) < n := by omega
      go_wp2_with fail
      go_quiet (fail)
      go_wp2
      go_roundw
      case rel => exact ⟨k + 1, _, by omega, by go_num, rfl⟩
      case measure => simp [intOf]; omega
    · go_wp2
      go_ret
      exact ⟨rfl, _, rfl⟩
end Go.Proofs.Ytnncljihnelalaa
