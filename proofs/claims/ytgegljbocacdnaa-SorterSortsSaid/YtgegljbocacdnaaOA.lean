/- Texts in order, in plain words: the document's sorting by putting each text in its place; a rising list of given texts is one. -/
import Derived.Test.YtgegljbocacdnaaOO
set_option maxRecDepth 100000
namespace Go.Proofs.Ytgegljbocacdnaa
open Go.RowKit

def leS (a b : ByteArray) : Prop := le a.data.toList b.data.toList
instance (a b : ByteArray) : Decidable (leS a b) := inferInstanceAs (Decidable (¬ lt b.data.toList a.data.toList))
theorem bytes_ext {a b : ByteArray} (h : a.data.toList = b.data.toList) : a = b := by
  obtain ⟨⟨x⟩⟩ := a
  obtain ⟨⟨y⟩⟩ := b
  simp only at h
  subst h; rfl
theorem leS_refl (a : ByteArray) : leS a a := lt_irrefl _
theorem leS_trans {a b c : ByteArray} (h1 : leS a b) (h2 : leS b c) : leS a c := fun h => by
  rcases lt_tri a.data.toList b.data.toList with h3 | h3 | h3
  · exact h2 (lt_trans h h3)
  · exact h2 (h3 ▸ h)
  · exact h1 h3
theorem leS_anti {a b : ByteArray} (h1 : leS a b) (h2 : leS b a) : a = b := by
  rcases lt_tri a.data.toList b.data.toList with h | h | h
  · exact absurd h h2
  · exact bytes_ext h
  · exact absurd h h1
theorem leS_total (a b : ByteArray) : leS a b ∨ leS b a := by
  by_cases h : leS a b
  · exact .inl h
  · exact .inr fun h2 => h fun h3 => lt_asymm h2 h3
/-- A list that rises. -/
def Rise (l : List ByteArray) : Prop := l.Pairwise leS
theorem rise_one {a b : List ByteArray} (ha : Rise a) (hb : Rise b) (h : a.Perm b) : a = b :=
  List.Perm.eq_of_pairwise (le := leS) (fun _ _ _ _ h1 h2 => leS_anti h1 h2) ha hb h
/-- How many stand in front that are not above a text; the list with it. -/
def cutS (x : ByteArray) : List ByteArray → Nat
  | [] => 0
  | a :: l => if leS a x then cutS x l + 1 else 0
def insS (x : ByteArray) (l : List ByteArray) : List ByteArray := l.take (cutS x l) ++ x :: l.drop (cutS x l)
theorem cutS_le (x : ByteArray) : ∀ l : List ByteArray, cutS x l ≤ l.length
  | [] => Nat.le_refl _
  | a :: l => by
    have := cutS_le x l
    unfold cutS; rw [List.length_cons]; split <;> omega
theorem cutS_below (x : ByteArray) : ∀ (l : List ByteArray) (j : Nat) (h : j < l.length), j < cutS x l → leS l[j] x
  | a :: l, j, h, hj => by
    unfold cutS at hj
    by_cases ha : leS a x
    · rw [if_pos ha] at hj
      cases j with
      | zero => exact ha
      | succ j => exact cutS_below x l j (by simpa using h) (by omega)
    · rw [if_neg ha] at hj; omega
theorem cutS_stop (x : ByteArray) : ∀ (l : List ByteArray) (h : cutS x l < l.length), ¬ leS l[cutS x l] x
  | a :: l, h => by
    by_cases ha : leS a x
    · have e : cutS x (a :: l) = cutS x l + 1 := by conv => lhs; unfold cutS; rw [if_pos ha]
      simp only [e, List.getElem_cons_succ]
      exact cutS_stop x l (by rw [e] at h; simpa using h)
    · have e : cutS x (a :: l) = 0 := by conv => lhs; unfold cutS; rw [if_neg ha]
      simp only [e, List.getElem_cons_zero]
      exact ha
theorem insS_cons (x a : ByteArray) (l : List ByteArray) : insS x (a :: l) = if leS a x then a :: insS x l else x :: a :: l := by
  unfold insS
  conv => lhs; unfold cutS
  split <;> simp
theorem insS_perm (x : ByteArray) (l : List ByteArray) : (insS x l).Perm (x :: l) := by
  unfold insS
  refine List.perm_middle.trans ?_
  rw [List.take_append_drop]
theorem insS_len (x : ByteArray) (l : List ByteArray) : (insS x l).length = l.length + 1 := (insS_perm x l).length_eq
theorem insS_rise (x : ByteArray) : ∀ l : List ByteArray, Rise l → Rise (insS x l)
  | [], _ => List.pairwise_singleton _ _
  | a :: l, h => by
    obtain ⟨h1, h2⟩ := List.pairwise_cons.1 h
    rw [insS_cons]
    split
    · rename_i ha
      refine List.pairwise_cons.2 ⟨fun y hy => ?_, insS_rise x l h2⟩
      rcases List.mem_cons.1 ((insS_perm x l).mem_iff.1 hy) with rfl | hy
      · exact ha
      · exact h1 y hy
    · rename_i ha
      have hxa := (leS_total a x).resolve_left ha
      refine List.pairwise_cons.2 ⟨fun y hy => ?_, h⟩
      rcases List.mem_cons.1 hy with rfl | hy
      · exact hxa
      · exact leS_trans hxa (h1 y hy)
/-- The document's sorting. -/
def srtS (l : List ByteArray) : List ByteArray := l.foldl (fun o x => insS x o) []
theorem srtS_snoc (l : List ByteArray) (x : ByteArray) : srtS (l ++ [x]) = insS x (srtS l) := by unfold srtS; rw [List.foldl_append]; rfl
theorem fold_srt : ∀ (l o : List ByteArray), Rise o → Rise (l.foldl (fun o x => insS x o) o) ∧ (l.foldl (fun o x => insS x o) o).Perm (l ++ o)
  | [], o, h => ⟨h, List.Perm.refl _⟩
  | x :: l, o, h => by
    obtain ⟨h1, h2⟩ := fold_srt l (insS x o) (insS_rise x o h)
    refine ⟨h1, h2.trans (((insS_perm x o).append_left l).trans ?_)⟩
    exact List.perm_middle
theorem srtS_rise (l : List ByteArray) : Rise (srtS l) := (fold_srt l [] List.Pairwise.nil).1
theorem srtS_perm (l : List ByteArray) : (srtS l).Perm l := by simpa [srtS] using (fold_srt l [] List.Pairwise.nil).2
theorem srtS_len (l : List ByteArray) : (srtS l).length = l.length := (srtS_perm l).length_eq
/-- Whatever rises and has the same texts is it. -/
theorem srtS_one {l a : List ByteArray} (h : Rise a) (hp : a.Perm l) : a = srtS l := rise_one h (srtS_rise l) (hp.trans (srtS_perm l).symm)
theorem srtS_congr {l m : List ByteArray} (hp : l.Perm m) : srtS l = srtS m := srtS_one (srtS_rise l) ((srtS_perm l).trans hp)
/-- Beside one another is enough. -/
theorem rise_iff : ∀ l : List ByteArray, Rise l ↔ ∀ j (h : j + 1 < l.length), leS l[j] l[j + 1]
  | [] => ⟨fun _ j h => by simp at h, fun _ => List.Pairwise.nil⟩
  | [a] => ⟨fun _ j h => by simp at h, fun _ => List.pairwise_singleton _ _⟩
  | a :: b :: l => by
    have ih := rise_iff (b :: l)
    constructor
    · intro h j hj
      obtain ⟨h1, h2⟩ := List.pairwise_cons.1 h
      cases j with
      | zero => exact h1 b (by simp)
      | succ j => exact ih.1 h2 j (by simpa using hj)
    · intro h
      have h2 : Rise (b :: l) := ih.2 fun j hj => h (j + 1) (by simpa using hj)
      have hab : leS a b := h 0 (by simp)
      refine List.pairwise_cons.2 ⟨fun y hy => ?_, h2⟩
      rcases List.mem_cons.1 hy with rfl | hy
      · exact hab
      · exact leS_trans hab ((List.pairwise_cons.1 h2).1 y hy)
end Go.Proofs.Ytgegljbocacdnaa
