/- The law's awake is true. -/
import Derived.Test.YtnncljihnelalaaLG
set_option maxRecDepth 100000
namespace Go.Proofs.Ytnncljihnelalaa
open Go.RowKit

/-- A disk with a log on it: Open's log lies at block l. -/
structure Two (B l d : Nat) (S : Nat → Prop) (ops : List RawOp) (rs : List ByteArray) (w : World) : Prop where
  dl : DiskLog B d S ops rs w
  on : LogOn l d w
  out : ¬ S l
  ge : B ≤ l

theorem new_log (w : World) :
    Calls Try.prog 6 #[] w fun e w' => e = .returned (.pointer (some ⟨w.heap.size, 0, none⟩)) ∧ DiskLog w.heap.size w.heap.size (fun k => From w.heap.size k ∧ k < w'.heap.size) [] [] w' ∧ Below w.heap.size w w' := by
  refine (new_disk w).mono ?_
  rintro e w' ⟨rfl, h, hb⟩
  exact ⟨rfl, ⟨h.bound, fun k hk => hk, IsLog.nil, Recs.nil⟩, hb⟩

theorem open_log (B d : Nat) (S : Nat → Prop) (ops : List RawOp) (rs : List ByteArray) (w : World) (h : DiskLog B d S ops rs w) :
    Calls Try.prog 7 #[.pointer (some ⟨d, 0, none⟩)] w fun e w' => ∃ v, e = .returned (.tuple #[.pointer (some ⟨w.heap.size, 0, none⟩), v, .int .i64 0]) ∧ Two B w.heap.size d S ops rs w' ∧ Strs w.heap.size w' v rs ∧ Below w.heap.size w w' := by
  refine (open_ok S d ops rs w h.disk h.hist.now h.recs).mono ?_
  rintro e w' ⟨v, rfl, h1, h2, h3⟩
  refine ⟨v, rfl, ⟨h.below h3, h1, fun hS => Nat.lt_irrefl _ (h.low _ hS).2, ?_⟩, h2, h3⟩
  have := h.low d h.disk.at
  omega

/-- What Append leaves of a log and its disk. -/
def TwoPost (B l d : Nat) (rs : List ByteArray) (s : ByteArray) (S : Nat → Prop) (w : World) (e : Ending) (w' : World) : Prop :=
  e = .returned (.int .i64 (appCode rs s)) ∧ ∃ S' ops', Two B l d S' ops' (appRecs rs s) w' ∧ Kept S w w' ∧ ∀ k, k < w.heap.size → S' k → S k
theorem append_log (B l d : Nat) (S : Nat → Prop) (ops : List RawOp) (rs : List ByteArray) (s : ByteArray) (w : World) (h : Two B l d S ops rs w) :
    Calls Try.prog 8 #[.pointer (some ⟨l, 0, none⟩), .string s] w (TwoPost B l d rs s S w) := by
  refine (append_any B l d S ops rs s w h.dl h.on h.out).mono ?_
  rintro e w' ⟨h1, S', ops', h2, h3, h4⟩
  exact ⟨h1, S', ops', ⟨h2, h.on.kept h3 h.out, fun hS => h.out (h4 l h.on.lt hS), h.ge⟩, h3, h4⟩
theorem Two.toBelow {B l d : Nat} {S : Nat → Prop} {ops : List RawOp} {rs : List ByteArray} {w w' : World} (h : Two B l d S ops rs w) (hk : Kept S w w') : Below B w w' :=
  hk.toBelow (by have := h.dl.low d h.dl.disk.at; omega) (fun k hk => (h.dl.low k hk).1)

def sA : ByteArray := ⟨#[97]⟩
def sB : ByteArray := ⟨#[98]⟩
theorem app1 : appCode [] sA = 0 ∧ appRecs [] sA = [sA] := by
  have h : appCode [] sA = 0 := by rfl
  exact ⟨h, by rw [appRecs, if_pos h]; rfl⟩
theorem app2 : appCode [sA] sB = 0 ∧ appRecs [sA] sB = [sA, sB] := by
  have h : appCode [sA] sB = 0 := by rfl
  exact ⟨h, by rw [appRecs, if_pos h]; rfl⟩

theorem texts_ab (w : World) : Texts (w.alloc (.cells #[.string sA, .string sB] 9)) (.slice (some ⟨w.heap.size, 0, none⟩) 2 2) [sA, sB] := by
  refine ⟨_, 2, rfl, .inr ⟨w.heap.size, 0, rfl, by simp, fun j hj => ?_⟩⟩
  have hj' : j < 2 := hj
  rw [Nat.zero_add, Lib.cell_of_heap (heap_alloc_new w _)]
  have : j = 0 ∨ j = 1 := by omega
  rcases this with rfl | rfl <;> rfl

set_option maxHeartbeats 1600000 in
theorem awake_any (w : World) : Calls Try.prog 13 #[] w fun e w' => e = .returned (.bool true) ∧ Below w.heap.size w w' := by
  go_enter Try.func13, Try.ntmps13
  go_wp2_with fail
  refine (new_log _).mono ?_
  rintro e w1 ⟨rfl, h1, hb1⟩
  have H1 := Lib.hid h1; have HB1 := Lib.hid hb1; clear h1 hb1
  go_wp2_with fail
  refine (open_log _ _ _ _ _ _ H1.out).mono ?_
  rintro e w2 ⟨v, rfl, h2, hs2, hb2⟩
  obtain ⟨a, c, rfl⟩ := hs2.shape
  have H2 := Lib.hid h2; have HB2 := Lib.hid (HB1.out.trans (hb2.mono HB1.out.size)); clear h2 hb2 hs2
  go_wp2_with fail
  refine (append_log _ _ _ _ _ _ sA _ H2.out).mono ?_
  rintro e w3 ⟨he, S3, ops3, h3, hk3, _⟩
  rw [app1.1] at he; rw [app1.2] at h3
  subst he
  have H3 := Lib.hid h3; have HB3 := Lib.hid (HB2.out.trans (H2.out.toBelow hk3)); clear h3 hk3
  go_wp2_with fail
  refine (append_log _ _ _ _ _ _ sB _ H3.out).mono ?_
  rintro e w4 ⟨he, S4, ops4, h4, hk4, _⟩
  rw [app2.1] at he; rw [app2.2] at h4
  subst he
  have H4 := Lib.hid h4; have HB4 := Lib.hid (HB3.out.trans (H3.out.toBelow hk4)); clear h4 hk4
  go_wp2_with fail
  refine (open_log _ _ _ _ _ _ H4.out.dl).mono ?_
  rintro e w5 ⟨v, rfl, h5, hs5, hb5⟩
  obtain ⟨a5, c5, rfl⟩ := hs5.shape
  have HS5 := Lib.hid hs5.texts
  have hz4 := HB4.out.size
  have HB5 := Lib.hid (HB4.out.trans (hb5.mono hz4)); clear h5 hb5 hs5
  have hz5 := HB5.out.size
  go_wp2_with fail
  refine (same_yes _ _ [sA, sB] _ (HS5.out.below ((Below.refl _ _).alloc (Nat.le_refl _) _)) (texts_ab _) (by decide)).mono ?_
  rintro e w6 ⟨rfl, n, rfl⟩
  go_wp2
  go_ret
  exact ⟨rfl, (HB5.out.alloc hz5 _).trans ((below_drewN _ n).mono (by simp; omega))⟩
end Go.Proofs.Ytnncljihnelalaa
