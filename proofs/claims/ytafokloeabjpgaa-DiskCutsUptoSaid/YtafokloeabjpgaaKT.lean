/- The documents' disks of all times, in a slice. No program's function is met here. -/
import Derived.Test.YtafokloeabjpgaaKM
set_option maxRecDepth 100000
namespace Go.Proofs.Ytafokloeabjpgaa
open Go.RowKit

/-- An append of cells to a row that the call owns: where the new row lies. -/
theorem append_own2 (w : World) (t ty e : TypeId) (i : TypeInfo) (z : Value) (size bytes : Nat) (ht : Try.prog.underlying t = some (.slice e)) (hi : Try.prog.info? e = some i) (hz : i.zero = some z)
    (hs : i.size = size) (hby : i.bytes = bytes) (hzs : z.cells.size = size) (hsz : 0 < size)
    (v : Value) (n : Nat) (xs : List Value) (h : w.ownsRow 0 e size v n xs) (ad : Addr) (m c : Nat) (news : List Value) (hl : news.length = m * size) (hnews : ∀ j u, news[j]? = some u → w.cell? (ad.add j) = some u)
    (h1 : ∀ u ∈ news, u.oneCell' = true) (h63 : n + m ≤ maxLen) (hbytes : (n + m) * bytes ≤ 140737488355328) (hm : 0 < m) (h64 : n + m ≤ 9223372036854775807) :
    ∃ v' w', (Builtin.append_ #[t, t] ty #[v, .slice (some ad) m c]).run Try.prog w = .ok v' w' ∧ w'.ownsRow 0 e size v' (n + m) (xs ++ news) ∧ Grew w w' v v' := by
  obtain ⟨v', w', hr, h2, h3, _⟩ := run_append_own (P := Try.prog) w 0 t ty e i z size bytes ht hi hz hs hby hzs hsz v n xs h ad m c news hl hnews h1 h63 hbytes (Nat.zero_le _)
  refine ⟨v', w', hr, h2, h3, ?_⟩
  intro k hk
  rcases h.2 with ⟨rfl, h0⟩ | ⟨g, cap, cur, rfl, _, hg, hnc, hcm, hcs, htk⟩
  · subst h0
    obtain rfl : xs = [] := List.eq_nil_of_length_eq_zero (by simpa using h.1)
    obtain ⟨v2, w2, hr2, ho2, _⟩ := run_append_own (P := Try.prog) w w.heap.size t ty e i z size bytes ht hi hz hs hby hzs hsz (.slice none 0 0) 0 [] (World.ownsRow_nil _ _ _ _) ad m c news hl hnews h1 h63 hbytes (Nat.le_refl _)
    rw [hr] at hr2
    cases hr2
    exact .inr (ho2.lt k hk).1
  · by_cases hroom : n + m ≤ cap
    · have hr2 := run_append_room (P := Try.prog) w t ty e i ht hi g n cap cur hg ad m c news (by rw [hs]; exact hl) hnews h1 hroom (by rw [hs, hl, hcs, ← Nat.add_mul]; exact Nat.mul_le_mul_right _ hroom)
      rw [hr] at hr2
      cases hr2
      exact .inl hk
    · have hr2 := run_append_grow (P := Try.prog) w t ty e i z ht hi hz ⟨g, 0, none⟩ n cap xs (by rw [hs]; exact h.1) (World.ownsRow.cells (w := w) h (g := g) rfl) ad m c news (by rw [hs]; exact hl) hnews (by omega) (by omega) (growslice_fits (by omega) (by rw [hby]; exact hbytes))
      rw [hr] at hr2
      cases hr2
      simp [Value.ownBlock] at hk
      right; omega

theorem info28 : (Try.prog.info? 28).map (fun i => (i.zero, i.size, i.bytes)) = some (some (.agg #[.slice none 0 0, .slice none 0 0, .slice none 0 0, .slice none 0 0, .int .i64 0]), 5, 104) := by kernel_rfl

/-- The cells of the document's disk. -/
abbrev rc (A : Nat → Option Addr) (Ln C : Nat → Nat) (N : Nat) : List Value :=
  [.slice (A 0) (Ln 0) (C 0), .slice (A 1) (Ln 1) (C 1), .slice (A 2) (Ln 2) (C 2), .slice (A 3) (Ln 3) (C 3), .int .i64 N]

def times (AA : Nat → Nat → Option Addr) (LL CC : Nat → Nat → Nat) (n : Nat) : List Value := (List.range n).flatMap (fun k => rc (AA k) (LL k) (CC k) k)

theorem times_snoc (AA : Nat → Nat → Option Addr) (LL CC : Nat → Nat → Nat) (n : Nat) (A : Nat → Option Addr) (Ln C : Nat → Nat) : times (upd AA n A) (upd LL n Ln) (upd CC n C) (n + 1) = times AA LL CC n ++ rc A Ln C n := by
  unfold times
  rw [List.range_succ, List.flatMap_append]
  congr 1
  · rw [List.flatMap_def, List.flatMap_def]
    congr 1
    apply List.map_congr_left
    intro k hk
    have : k ≠ n := by have := List.mem_range.1 hk; omega
    simp only [upd_other _ _ this]
  · simp [upd_same]

theorem times_length (AA : Nat → Nat → Option Addr) (LL CC : Nat → Nat → Nat) (n : Nat) : (times AA LL CC n).length = n * 5 := by
  induction n with
  | zero => simp [times]
  | succ n ih =>
    have := times_snoc AA LL CC n (AA n) (LL n) (CC n)
    have e1 : upd AA n (AA n) = AA := by funext i; unfold upd; split <;> simp_all
    have e2 : upd LL n (LL n) = LL := by funext i; unfold upd; split <;> simp_all
    have e3 : upd CC n (CC n) = CC := by funext i; unfold upd; split <;> simp_all
    rw [e1, e2, e3] at this
    rw [this, List.length_append, ih]
    simp
    omega

theorem times_at (AA : Nat → Nat → Option Addr) (LL CC : Nat → Nat → Nat) (n k : Nat) (hk : k < n) (i : Nat) (hi : i < 5) : (times AA LL CC n)[k * 5 + i]? = (rc (AA k) (LL k) (CC k) k)[i]? := by
  induction n with
  | zero => omega
  | succ n ih =>
    have := times_snoc AA LL CC n (AA n) (LL n) (CC n)
    have e1 : upd AA n (AA n) = AA := by funext i; unfold upd; split <;> simp_all
    have e2 : upd LL n (LL n) = LL := by funext i; unfold upd; split <;> simp_all
    have e3 : upd CC n (CC n) = CC := by funext i; unfold upd; split <;> simp_all
    rw [e1, e2, e3] at this
    rw [this, List.getElem?_append]
    by_cases h : k < n
    · rw [if_pos (by rw [times_length]; omega)]
      exact ih h
    · have : k = n := by omega
      subst this
      rw [if_neg (by rw [times_length]; omega), times_length]
      congr 1
      omega
end Go.Proofs.Ytafokloeabjpgaa
