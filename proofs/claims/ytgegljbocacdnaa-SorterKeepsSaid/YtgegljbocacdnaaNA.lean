/- slices.Sort over texts that a sorter owns. -/
import Derived.Test.YtgegljbocacdnaaOT
import Derived.Test.YtgegljbocacdnaaPShelf
import Derived.Sort.OwnSorted
set_option maxRecDepth 100000
namespace Go.Proofs.Ytgegljbocacdnaa
open Go.RowKit

theorem lt_list : ∀ (a b : List UInt8), lt a b ↔ a < b
  | a, [] => ⟨fun h => absurd h (lt_nil a), fun h => absurd h (List.not_lt_nil a)⟩
  | [], b :: l => ⟨fun _ => List.nil_lt_cons b l, fun _ => nil_lt (by simp)⟩
  | a :: k, b :: l => by
    rw [lt_cons, List.cons_lt_cons_iff, lt_list k l, UInt8.lt_iff_toNat_lt]
def toB (l : List UInt8) : ByteArray := ⟨l.toArray⟩
theorem leS_toB (a b : List UInt8) : leS (toB a) (toB b) ↔ a ≤ b := by
  unfold leS le toB
  rw [lt_list]
  exact List.not_lt
theorem sort_is (rs : List ByteArray) : ((rs.map fun s => s.data.toList).mergeSort fun x y => decide (x ≤ y)).map toB = srtS rs := by
  refine srtS_one ?_ ?_
  · unfold Rise
    rw [List.pairwise_map]
    refine (List.pairwise_mergeSort (fun a b c h1 h2 => ?_) (fun a b => ?_) _).imp fun h => (leS_toB _ _).2 (of_decide_eq_true h)
    · exact decide_eq_true (List.le_trans (of_decide_eq_true h1) (of_decide_eq_true h2))
    · simp only [Bool.or_eq_true, decide_eq_true_eq]; exact List.le_total a b
  · have h := (List.mergeSort_perm (rs.map fun s => s.data.toList) (fun x y => decide (x ≤ y))).map toB
    rw [List.map_map] at h
    have e : (toB ∘ fun s : ByteArray => s.data.toList) = id := by funext s; rfl
    rw [e, List.map_id] at h
    exact h
theorem map_str (l : List (List UInt8)) : l.map Go.Proofs.encStr = (l.map toB).map Value.string := by rw [List.map_map]; rfl

theorem sort_strs (B : Nat) (v : Value) (rs : List ByteArray) (w : World) (h : Strs B w v rs) (hl : rs.length ≤ 4194304) :
    Calls Try.prog 25 #[v] w fun e w' => e = .returned (.tuple #[]) ∧ Strs B w' v (srtS rs) ∧ w.grownBy w' v.ownBlock := by
  rcases h.2 with ⟨rfl, h0⟩ | ⟨g, cap, cur, rfl, hbase, hb, h1, h2, h3, h4⟩
  · obtain rfl : rs = [] := List.eq_nil_of_length_eq_zero h0
    refine (Try.slices_Sort_string_none none 0 w).mono fun e w' ⟨h1, h2⟩ => ⟨h1, ?_, ?_⟩
    · rw [h2]; exact h
    · rw [h2]; exact ⟨rfl, rfl, rfl, Nat.le_refl _, fun _ _ _ => rfl⟩
  · obtain ⟨ss, hss⟩ : ∃ ss, ss = rs.map fun s => s.data.toList := ⟨_, rfl⟩
    have hlen : ss.length = rs.length := by rw [hss]; simp
    have hmap : ss.map Go.Proofs.encStr = rs.map Value.string := by
      rw [map_str, hss, List.map_map (f := fun s : ByteArray => s.data.toList)]
      have e : (toB ∘ fun s : ByteArray => s.data.toList) = id := by funext s; rfl
      rw [e, List.map_id]
    have hh := holds_of_block (ss := ss) hb (by rw [hlen, hmap]; simpa using h4)
    have hs := Try.slices_Sort_string g 0 cap ss w hh (Array.getElem?_eq_some_iff.1 hb).1 (by omega)
    rw [hlen] at hs
    refine hs.mono fun e w' ⟨h5, n, os, h6⟩ => ⟨h5, ?_, ?_⟩
    · subst h6
      have := ownsRow_sorted (os := os) (n := n) (ss := ss) (ts := ss.mergeSort fun x y => decide (x ≤ y)) (by simp) hbase hb (by omega) h2 h3
      rw [map_str, hss, sort_is, ← hss, hlen] at this
      unfold Strs
      rw [srtS_len]
      exact this
    · subst h6
      exact grownBy_sorted _
end Go.Proofs.Ytgegljbocacdnaa
