/- The contract of seek: which shelf, where in it, whether it is there. -/
import Derived.Test.YtnnmigglcpkomaaRI
import Derived.Test.YtnnmigglcpkomaaRJ
set_option maxRecDepth 100000
namespace Go.Proofs.Ytnnmigglcpkomaa.Dm
open Go Go.RowKit

def Sh.lists (ss : List Sh) : List (List Hd) := ss.map Sh.hs

theorem flat_get_le (L : List (List Hd)) (l : List Hd) (h : l ∈ L) : l.length ≤ L.flatten.length := by
  obtain ⟨a, b, rfl⟩ := List.append_of_mem h
  simp
  omega
theorem flat_many : ∀ (L : List (List Hd)), (∀ l, l ∈ L → l ≠ []) → L.length ≤ L.flatten.length
  | [], _ => Nat.le_refl _
  | l :: L, h => by
    have h1 := flat_many L (fun m hm => h m (List.mem_cons_of_mem _ hm))
    have h2 : 0 < l.length := List.length_pos_iff.2 (h l (by simp))
    simp only [List.length_cons, List.flatten_cons, List.length_append]
    omega

theorem succ_not0 (j : Nat) : ((j : Int) + 1 == 0) = false := by rw [beq_eq_false_iff_ne]; omega
theorem wrap64_small (j : Nat) (h : j < 2199023255552) : wrap64 (j : Int) = (j : Int) := IntWalk.wrap64_in _ ⟨by omega, by omega⟩

/-- What seek leaves. -/
def SeekPost (L : List (List Hd)) (x : Hd) (w : World) (e : Ending) (w' : World) : Prop :=
  ∃ (i at' : Nat) (th : Bool), e = .returned (.tuple #[.int .i64 i, .int .i64 at', .bool th]) ∧ Seek L x i at' th ∧ Below w.heap.size w w'

set_option maxHeartbeats 3200000 in
theorem seek_all (P : Nat) (v : Value) (ss : List Sh) (x : Hd) (w0 : World) (hR : RackAt w0 P v ss) (hs : SrtH (Sh.lists ss).flatten) (hn : (Sh.lists ss).flatten.length < 2199023255552) :
    ∃ (i at' : Nat) (th : Bool), Seek (Sh.lists ss) x i at' th ∧ ∀ w, RackAt w P v ss → Calls Try.prog 48 #[.pointer (some ⟨P, 1, none⟩), hdV x] w fun e w' => e = .returned (.tuple #[.int .i64 i, .int .i64 at', .bool th]) ∧ Below w.heap.size w w' := by
  have hne : ∀ l, l ∈ Sh.lists ss → l ≠ [] := by
    intro l hl
    obtain ⟨s, hss, rfl⟩ := List.mem_map.1 hl
    exact hR.ne s hss
  have hmany := flat_many _ hne
  have hlen : (Sh.lists ss).length = ss.length := by simp [Sh.lists]
  have hget : ∀ j (h : j < ss.length), (Sh.lists ss)[j]'(by rw [hlen]; exact h) = ss[j].hs := fun j h => by simp [Sh.lists]
  obtain ⟨a, c, rfl⟩ := hR.form
  obtain ⟨k, hk, hk1, hk2⟩ := cut_at x _ (firsts_rise _ hne hs)
  rw [List.length_map, hlen] at hk
  have hfst : ∀ j (h : j < ss.length), ((Sh.lists ss).map firstH)[j]'(by rw [List.length_map, hlen]; exact h) = firstH ss[j].hs := fun j h => by rw [List.getElem_map, hget j h]
  have hsg1 : ∀ i (h : i < ss.length), i < k → cmpH (firstH ss[i].hs) x < 0 := fun i h hi => by rw [← hfst i h]; exact hk1 i (by rw [List.length_map, hlen]; exact h) hi
  have hsg2 : ∀ i (h : i < ss.length), k ≤ i → ¬ cmpH (firstH ss[i].hs) x < 0 := fun i h hi => by rw [← hfst i h]; exact hk2 i (by rw [List.length_map, hlen]; exact h) hi
  obtain ⟨t0, ht0⟩ : ∃ t0 : Bool, t0 = true ↔ ∃ h : k < ss.length, cmpH (firstH ss[k].hs) x = 0 := ⟨decide (∃ h : k < ss.length, cmpH (firstH ss[k].hs) x = 0), decide_eq_true_iff⟩
  have HB1 : Hid (∀ w, RackAt w P (.slice a ss.length c) ss → ∀ W, Below w.heap.size w W → Calls Try.prog 58 #[.slice a ss.length c, hdV x, .func (.func 59) #[] #[]] W fun e w' => e = .returned (.tuple #[.int .i64 k, .bool t0]) ∧ Below W.heap.size W w') := Lib.hid (fun w hR W hW => by
    have hRW := hR.below hW
    have h := bsShelves_any a c (ss.map Sh.v) x W (fun j hj => by
        obtain ⟨b, h1, h2, h3⟩ := hRW.at j (by simpa using hj)
        exact ⟨b, h1, h2, by rw [h3]; simp⟩) (by rw [List.length_map]; omega) k t0 (by rw [List.length_map]; exact hk)
      (fun j => if h : j < ss.length then cmpH (firstH ss[j].hs) x else 0)
      (fun j hj W' hW' => by
        have hj' : j < ss.length := by simpa using hj
        have hRW' := hRW.below hW'
        obtain ⟨f, r, hf⟩ : ∃ f r, ss[j].hs = f :: r := by
          cases hl : ss[j].hs with
          | nil => exact absurd hl (hR.ne _ (List.getElem_mem hj'))
          | cons f r => exact ⟨f, r, rfl⟩
        have := seek1_any ss[j] f r x W' (hRW'.shelf _ (List.getElem_mem hj')) hf
        simp only [List.getElem_map, dif_pos hj']
        rw [show firstH ss[j].hs = f by rw [hf]; rfl]
        exact this)
      (fun i hi h1 => by
        have hi' : i < ss.length := by simpa using hi
        simp only [dif_pos hi']
        exact hsg1 i hi' h1)
      (fun i hi h1 => by
        have hi' : i < ss.length := by simpa using hi
        simp only [dif_pos hi']
        exact hsg2 i hi' h1)
      (by
        rw [ht0, List.length_map]
        exact ⟨fun ⟨h, h1⟩ => ⟨h, by simp only [dif_pos h]; exact h1⟩, fun ⟨h, h1⟩ => ⟨h, by simp only [dif_pos h] at h1; exact h1⟩⟩)
    rw [List.length_map] at h
    exact h)
  cases t0 with
  | true =>
    obtain ⟨hkl, hk0⟩ := ht0.1 rfl
    refine ⟨k, 0, true, seek_first hs (by rw [hlen]; exact hkl) (by rw [hget k hkl]; exact hk0) hne, fun w hR => ?_⟩
    have HB1 := Lib.hid (HB1.out w hR)
    have hc := hR.cell
    have hPl := hR.lt
    obtain ⟨n, hnn⟩ : ∃ n, n = ss.length := ⟨_, rfl⟩
    rw [← hnn] at HB1 hc
    obtain ⟨xk, xt⟩ := x
    unfold hdV at HB1 ⊢
    simp only [] at HB1 ⊢
    obtain ⟨W0, hW0⟩ : ∃ W0, W0 = w.alloc (.cells #[.string xk, .int .i64 xt] 80) := ⟨_, rfl⟩
    have c0 : W0.cell? ⟨w.heap.size, 0, none⟩ = some (.string xk) := by rw [hW0]; simp
    have c1 : W0.cell? ⟨w.heap.size, 1, none⟩ = some (.int .i64 xt) := by rw [hW0]; simp
    have hB0 : Below w.heap.size w W0 := by rw [hW0]; exact (Below.refl _ _).alloc (Nat.le_refl _) _
    have c2 : W0.cell? ⟨P, 1, none⟩ = some (.slice a n c) := (hB0.cell (p := ⟨P, 1, none⟩) hPl).trans hc
    have hq1 : w.heap.size + 1 ≤ W0.heap.size := by rw [hW0]; simp
    have B0 : Below (w.heap.size + 1) W0 W0 := Below.refl _ _
    have HWW : Hid (∀ W, Below (w.heap.size + 1) W0 W → Below w.heap.size w W) := Lib.hid (fun W hw => hB0.trans (hw.mono (by omega)))
    have KEEP : Hid (∀ W1 W2, (W1.cell? ⟨P, 1, none⟩ = some (.slice a n c) ∧ W1.cell? ⟨w.heap.size, 0, none⟩ = some (.string xk) ∧ W1.cell? ⟨w.heap.size, 1, none⟩ = some (.int .i64 xt) ∧ Below (w.heap.size + 1) W0 W1 ∧ w.heap.size + 1 ≤ W1.heap.size) → Below W1.heap.size W1 W2 → (W2.cell? ⟨P, 1, none⟩ = some (.slice a n c) ∧ W2.cell? ⟨w.heap.size, 0, none⟩ = some (.string xk) ∧ W2.cell? ⟨w.heap.size, 1, none⟩ = some (.int .i64 xt) ∧ Below (w.heap.size + 1) W0 W2 ∧ w.heap.size + 1 ≤ W2.heap.size)) := Lib.hid (fun W1 W2 h hb2 =>
      ⟨(hb2.cell (p := ⟨P, _, none⟩) (by show P < _; omega)).trans h.1, (hb2.cell (p := ⟨w.heap.size, _, none⟩) (by show w.heap.size < _; omega)).trans h.2.1, (hb2.cell (p := ⟨w.heap.size, _, none⟩) (by show w.heap.size < _; omega)).trans h.2.2.1, h.2.2.2.1.trans (hb2.mono (by omega)), Nat.le_trans h.2.2.2.2 hb2.size⟩)
    clear hR hs hn hne hmany hlen hget hk1 hk2 hfst hsg1 hsg2 ht0 hk0 hkl hnn
    go_enter Try.func48, Try.ntmps48
    go_wp2
    rw [← hW0]
    clear hW0 hB0
    go_region_held3 (fun w' => w'.cell? ⟨P, 1, none⟩ = some (.slice a n c) ∧ w'.cell? ⟨w.heap.size, 0, none⟩ = some (.string xk) ∧ w'.cell? ⟨w.heap.size, 1, none⟩ = some (.int .i64 xt) ∧ Below (w.heap.size + 1) W0 w' ∧ w.heap.size + 1 ≤ w'.heap.size)
      (first | exact KEEP.out _ _ ⟨c2, c0, c1, B0, hq1⟩ (Below.refl _ _).drew | exact KEEP.out _ _ ‹_ ∧ _› ‹Below _ _ _›)
      (first | (go_at_call 58; refine (HB1.out _ (HWW.out _ (by go_split_ands; assumption))).mono ?_; rintro e w' ⟨rfl, hb'⟩))
    clear c0 c1 c2 hq1 B0 hc HB1
    rename World => wx
    have HX : Hid (wx.cell? ⟨P, 1, none⟩ = some (.slice a n c) ∧ wx.cell? ⟨w.heap.size, 0, none⟩ = some (.string xk) ∧ wx.cell? ⟨w.heap.size, 1, none⟩ = some (.int .i64 xt) ∧ Below (w.heap.size + 1) W0 wx ∧ w.heap.size + 1 ≤ wx.heap.size) := Lib.hid (by assumption)
    go_wp2
    exact bodyPost_ret (v := .tuple #[.int .i64 k, .int .i64 0, .bool true]) (by simp [results, Try.results48, go_sem]) rfl ⟨rfl, HWW.out _ HX.out.2.2.2.1⟩
  | false =>
    have hno : ∀ h : k < ss.length, 0 < cmpH (firstH ss[k].hs) x := fun h => by
      have h1 := hsg2 k h (Nat.le_refl _)
      have h2 : ¬ cmpH (firstH ss[k].hs) x = 0 := fun h3 => by have := ht0.2 ⟨h, h3⟩; cases this
      omega
    by_cases hk0 : k = 0
    · subst hk0
      refine ⟨0, 0, false, seek_zero hs hne (fun h => by rw [hget 0 (by omega)]; exact hno (by omega)), fun w hR => ?_⟩
      have HB1 := Lib.hid (HB1.out w hR)
      have hc := hR.cell
      have hPl := hR.lt
      obtain ⟨n, hnn⟩ : ∃ n, n = ss.length := ⟨_, rfl⟩
      rw [← hnn] at HB1 hc
      obtain ⟨xk, xt⟩ := x
      unfold hdV at HB1 ⊢
      simp only [] at HB1 ⊢
      obtain ⟨W0, hW0⟩ : ∃ W0, W0 = w.alloc (.cells #[.string xk, .int .i64 xt] 80) := ⟨_, rfl⟩
      have c0 : W0.cell? ⟨w.heap.size, 0, none⟩ = some (.string xk) := by rw [hW0]; simp
      have c1 : W0.cell? ⟨w.heap.size, 1, none⟩ = some (.int .i64 xt) := by rw [hW0]; simp
      have hB0 : Below w.heap.size w W0 := by rw [hW0]; exact (Below.refl _ _).alloc (Nat.le_refl _) _
      have c2 : W0.cell? ⟨P, 1, none⟩ = some (.slice a n c) := (hB0.cell (p := ⟨P, 1, none⟩) hPl).trans hc
      have hq1 : w.heap.size + 1 ≤ W0.heap.size := by rw [hW0]; simp
      have B0 : Below (w.heap.size + 1) W0 W0 := Below.refl _ _
      have HWW : Hid (∀ W, Below (w.heap.size + 1) W0 W → Below w.heap.size w W) := Lib.hid (fun W hw => hB0.trans (hw.mono (by omega)))
      have KEEP : Hid (∀ W1 W2, (W1.cell? ⟨P, 1, none⟩ = some (.slice a n c) ∧ W1.cell? ⟨w.heap.size, 0, none⟩ = some (.string xk) ∧ W1.cell? ⟨w.heap.size, 1, none⟩ = some (.int .i64 xt) ∧ Below (w.heap.size + 1) W0 W1 ∧ w.heap.size + 1 ≤ W1.heap.size) → Below W1.heap.size W1 W2 → (W2.cell? ⟨P, 1, none⟩ = some (.slice a n c) ∧ W2.cell? ⟨w.heap.size, 0, none⟩ = some (.string xk) ∧ W2.cell? ⟨w.heap.size, 1, none⟩ = some (.int .i64 xt) ∧ Below (w.heap.size + 1) W0 W2 ∧ w.heap.size + 1 ≤ W2.heap.size)) := Lib.hid (fun W1 W2 h hb2 =>
        ⟨(hb2.cell (p := ⟨P, _, none⟩) (by show P < _; omega)).trans h.1, (hb2.cell (p := ⟨w.heap.size, _, none⟩) (by show w.heap.size < _; omega)).trans h.2.1, (hb2.cell (p := ⟨w.heap.size, _, none⟩) (by show w.heap.size < _; omega)).trans h.2.2.1, h.2.2.2.1.trans (hb2.mono (by omega)), Nat.le_trans h.2.2.2.2 hb2.size⟩)
      clear hR hs hn hne hmany hlen hget hk1 hk2 hfst hsg1 hsg2 ht0 hno hnn
      go_enter Try.func48, Try.ntmps48
      go_wp2
      rw [← hW0]
      clear hW0 hB0
      go_region_held3 (fun w' => w'.cell? ⟨P, 1, none⟩ = some (.slice a n c) ∧ w'.cell? ⟨w.heap.size, 0, none⟩ = some (.string xk) ∧ w'.cell? ⟨w.heap.size, 1, none⟩ = some (.int .i64 xt) ∧ Below (w.heap.size + 1) W0 w' ∧ w.heap.size + 1 ≤ w'.heap.size)
        (first | exact KEEP.out _ _ ⟨c2, c0, c1, B0, hq1⟩ (Below.refl _ _).drew | exact KEEP.out _ _ ‹_ ∧ _› ‹Below _ _ _›)
        (first | (go_at_call 58; refine (HB1.out _ (HWW.out _ (by go_split_ands; assumption))).mono ?_; rintro e w' ⟨rfl, hb'⟩))
      clear c0 c1 c2 hq1 B0 hc HB1
      rename World => wx
      have HX : Hid (wx.cell? ⟨P, 1, none⟩ = some (.slice a n c) ∧ wx.cell? ⟨w.heap.size, 0, none⟩ = some (.string xk) ∧ wx.cell? ⟨w.heap.size, 1, none⟩ = some (.int .i64 xt) ∧ Below (w.heap.size + 1) W0 wx ∧ w.heap.size + 1 ≤ wx.heap.size) := Lib.hid (by assumption)
      go_wp2
      exact bodyPost_ret (v := .tuple #[.int .i64 0, .int .i64 0, .bool false]) (by simp [results, Try.results48, go_sem]) rfl ⟨rfl, HWW.out _ HX.out.2.2.2.1⟩
    · obtain ⟨j, rfl⟩ : ∃ j, k = j + 1 := ⟨k - 1, by omega⟩
      have hj : j < ss.length := by omega
      have hsrt : SrtH ss[j].hs := by
        have := hs
        rw [flat_split _ j 0 (by rw [hlen]; exact hj)] at this
        have h2 := (List.pairwise_append.1 (List.pairwise_append.1 this).2.1).1
        rw [List.drop_zero, show (Sh.lists ss).getD j [] = ss[j].hs by rw [← hget j hj]; simp [hlen, hj]] at h2
        exact h2
      obtain ⟨m, hm, hm1, hm2⟩ := cut_at x _ hsrt
      obtain ⟨t1, ht1⟩ : ∃ t1 : Bool, t1 = true ↔ ∃ h : m < ss[j].hs.length, cmpH (ss[j].hs[m]) x = 0 := ⟨decide (∃ h : m < ss[j].hs.length, cmpH (ss[j].hs[m]) x = 0), decide_eq_true_iff⟩
      have HS : Seek (Sh.lists ss) x j m t1 := by
        have hj' : j < (Sh.lists ss).length := by rw [hlen]; exact hj
        refine seek_in hs hne hj' (by rw [hget j hj]; exact hsg1 j hj (by omega)) (fun h => by rw [hget (j + 1) (by omega)]; exact hno (by omega)) (by rw [hget j hj]; exact hm) ?_ ?_ ?_
        · simp only [hget j hj]; exact hm1
        · simp only [hget j hj]; exact hm2
        · simp only [hget j hj]; exact ht1
      refine ⟨j, m, t1, HS, fun w hR => ?_⟩
      have HB1 := Lib.hid (HB1.out w hR)
      have hc := hR.cell
      have hPl := hR.lt
      clear HS
      have HB2 : Hid (∀ W, Below w.heap.size w W → Calls Try.prog 61 #[.slice (some ⟨ss[j].g, 0, none⟩) ss[j].hs.length ss[j].c, hdV x, .func (.func 60) #[] #[]] W fun e w' => e = .returned (.tuple #[.int .i64 m, .bool t1]) ∧ Below W.heap.size W w') := Lib.hid (fun W hW => by
        have hSW := (hR.below hW).shelf _ (List.getElem_mem hj)
        exact bsShelf_any ss[j].g ss[j].c ss[j].hs x W hSW.lt hSW.row (by have := flat_get_le (Sh.lists ss) ss[j].hs (List.mem_map.2 ⟨_, List.getElem_mem hj, rfl⟩); omega) m t1 hm hm1 hm2 ht1)
      obtain ⟨sb, hsb, hsbl, hsc⟩ := hR.at j hj
      obtain ⟨g2, n2, c2', hvv⟩ : ∃ g2 n2 c2', ss[j].v = .slice (some ⟨g2, 0, none⟩) n2 c2' := ⟨_, _, _, rfl⟩
      have hvv2 : ss[j].g = g2 ∧ ss[j].hs.length = n2 ∧ ss[j].c = c2' := by
        unfold Sh.v at hvv
        simp only [Value.slice.injEq, Option.some.injEq, Addr.mk.injEq] at hvv
        exact ⟨hvv.1.1, hvv.2.1, hvv.2.2⟩
      rw [hvv2.1, hvv2.2.1, hvv2.2.2] at HB2
      rw [hvv] at hsc
      subst hsb
      obtain ⟨n, hnn⟩ : ∃ n, n = ss.length := ⟨_, rfl⟩
      rw [← hnn] at HB1 hc
      obtain ⟨xk, xt⟩ := x
      unfold hdV at HB1 HB2 ⊢
      simp only [] at HB1 HB2 ⊢
      obtain ⟨W0, hW0⟩ : ∃ W0, W0 = w.alloc (.cells #[.string xk, .int .i64 xt] 80) := ⟨_, rfl⟩
      have c0 : W0.cell? ⟨w.heap.size, 0, none⟩ = some (.string xk) := by rw [hW0]; simp
      have c1 : W0.cell? ⟨w.heap.size, 1, none⟩ = some (.int .i64 xt) := by rw [hW0]; simp
      have hB0 : Below w.heap.size w W0 := by rw [hW0]; exact (Below.refl _ _).alloc (Nat.le_refl _) _
      have c2 : W0.cell? ⟨P, 1, none⟩ = some (.slice (some ⟨sb, 0, none⟩) n c) := (hB0.cell (p := ⟨P, 1, none⟩) hPl).trans hc
      have hq1 : w.heap.size + 1 ≤ W0.heap.size := by rw [hW0]; simp
      have B0 : Below (w.heap.size + 1) W0 W0 := Below.refl _ _
      have HWW : Hid (∀ W, Below (w.heap.size + 1) W0 W → Below w.heap.size w W) := Lib.hid (fun W hw => hB0.trans (hw.mono (by omega)))
      have KEEP : Hid (∀ W1 W2, (W1.cell? ⟨P, 1, none⟩ = some (.slice (some ⟨sb, 0, none⟩) n c) ∧ W1.cell? ⟨w.heap.size, 0, none⟩ = some (.string xk) ∧ W1.cell? ⟨w.heap.size, 1, none⟩ = some (.int .i64 xt) ∧ Below (w.heap.size + 1) W0 W1 ∧ w.heap.size + 1 ≤ W1.heap.size) → Below W1.heap.size W1 W2 → (W2.cell? ⟨P, 1, none⟩ = some (.slice (some ⟨sb, 0, none⟩) n c) ∧ W2.cell? ⟨w.heap.size, 0, none⟩ = some (.string xk) ∧ W2.cell? ⟨w.heap.size, 1, none⟩ = some (.int .i64 xt) ∧ Below (w.heap.size + 1) W0 W2 ∧ w.heap.size + 1 ≤ W2.heap.size)) := Lib.hid (fun W1 W2 h hb2 =>
        ⟨(hb2.cell (p := ⟨P, _, none⟩) (by show P < _; omega)).trans h.1, (hb2.cell (p := ⟨w.heap.size, _, none⟩) (by show w.heap.size < _; omega)).trans h.2.1, (hb2.cell (p := ⟨w.heap.size, _, none⟩) (by show w.heap.size < _; omega)).trans h.2.2.1, h.2.2.2.1.trans (hb2.mono (by omega)), Nat.le_trans h.2.2.2.2 hb2.size⟩)
      have hjn : j < n := by omega
      have hw0 := wrap64_small j (by omega)
      have hkk := succ_not0 j
      have HSC : Hid (∀ W, Below (w.heap.size + 1) W0 W → W.cell? ⟨sb, j, none⟩ = some (.slice (some ⟨g2, 0, none⟩) n2 c2')) := Lib.hid (fun W hw => ((HWW.out W hw).cell (p := ⟨sb, j, none⟩) hsbl).trans hsc)
      clear hR hs hn hne hmany hlen hget hk1 hk2 hfst hsg1 hsg2 ht0 hno hnn hm1 hm2 ht1 hsrt hvv hvv2 hsc hm
      go_enter Try.func48, Try.ntmps48
      go_wp2
      rw [← hW0]
      clear hW0 hB0
      go_region_held3 (fun w' => w'.cell? ⟨P, 1, none⟩ = some (.slice (some ⟨sb, 0, none⟩) n c) ∧ w'.cell? ⟨w.heap.size, 0, none⟩ = some (.string xk) ∧ w'.cell? ⟨w.heap.size, 1, none⟩ = some (.int .i64 xt) ∧ Below (w.heap.size + 1) W0 w' ∧ w.heap.size + 1 ≤ w'.heap.size)
        (first | exact KEEP.out _ _ ⟨c2, c0, c1, B0, hq1⟩ (Below.refl _ _).drew | exact KEEP.out _ _ ‹_ ∧ _› ‹Below _ _ _›)
        (first | (go_at_call 58; refine (HB1.out _ (HWW.out _ (by go_split_ands; assumption))).mono ?_; rintro e w' ⟨rfl, hb'⟩))
      clear c0 c1 c2 hq1 B0 hc HB1
      rename World => wx
      have HX : Hid (wx.cell? ⟨P, 1, none⟩ = some (.slice (some ⟨sb, 0, none⟩) n c) ∧ wx.cell? ⟨w.heap.size, 0, none⟩ = some (.string xk) ∧ wx.cell? ⟨w.heap.size, 1, none⟩ = some (.int .i64 xt) ∧ Below (w.heap.size + 1) W0 wx ∧ w.heap.size + 1 ≤ wx.heap.size) := Lib.hid (by assumption)
      have e3 := HSC.out _ HX.out.2.2.2.1
      have BX := HX.out.2.2.2.1
      obtain ⟨e2, e0, e1, -, hq1⟩ := HX.out
      go_wp2
      go_region_held3 (fun w' => w'.cell? ⟨sb, j, none⟩ = some (.slice (some ⟨g2, 0, none⟩) n2 c2') ∧ w'.cell? ⟨P, 1, none⟩ = some (.slice (some ⟨sb, 0, none⟩) n c) ∧ w'.cell? ⟨w.heap.size, 0, none⟩ = some (.string xk) ∧ w'.cell? ⟨w.heap.size, 1, none⟩ = some (.int .i64 xt) ∧ Below (w.heap.size + 1) W0 w' ∧ w.heap.size + 1 ≤ w'.heap.size)
        (first | exact ⟨HSC.out _ BX.drew, KEEP.out _ _ ⟨e2, e0, e1, BX, hq1⟩ (Below.refl _ _).drew⟩ | exact ⟨HSC.out _ (KEEP.out _ _ (And.right ‹_ ∧ _›) ‹Below _ _ _›).2.2.2.1, KEEP.out _ _ (And.right ‹_ ∧ _›) ‹Below _ _ _›⟩)
        (first | (go_at_call 61; refine (HB2.out _ (HWW.out _ (by go_split_ands; assumption))).mono ?_; rintro e w' ⟨rfl, hb'⟩))
      clear e0 e1 e2 e3 hq1 BX HX
      rename World => wz
      have HX : Hid (Below (w.heap.size + 1) W0 wz) := Lib.hid (by go_split_ands; assumption)
      go_wp2
      exact bodyPost_ret (v := .tuple #[.int .i64 j, .int .i64 m, .bool t1]) (by simp [results, Try.results48, go_sem]) rfl ⟨rfl, HWW.out _ HX.out⟩

theorem seek_any (P : Nat) (v : Value) (ss : List Sh) (x : Hd) (w : World) (hR : RackAt w P v ss) (hs : SrtH (Sh.lists ss).flatten) (hn : (Sh.lists ss).flatten.length < 2199023255552) :
    Calls Try.prog 48 #[.pointer (some ⟨P, 1, none⟩), hdV x] w (SeekPost (Sh.lists ss) x w) := by
  obtain ⟨i, at', th, h1, h2⟩ := seek_all P v ss x w hR hs hn
  exact (h2 w hR).mono fun e w' h => ⟨i, at', th, h.1, h1, h.2⟩
end Go.Proofs.Ytnnmigglcpkomaa.Dm
