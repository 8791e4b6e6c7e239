/- The contract of a log's Append: for every text, on whatever log. -/
import Derived.Test.YtnncljihnelalaaLE
set_option maxRecDepth 100000
namespace Go.Proofs.Ytnncljihnelalaa
open Go.RowKit

theorem DiskAt.bound {S : Nat → Prop} {d : Nat} {ops : List RawOp} {w : World} (h : DiskAt S d ops w) : DiskAt (fun k => S k ∧ k < w.heap.size) d ops w := by
  obtain ⟨hok, vs, h⟩ := h
  exact ⟨hok, vs, ⟨⟨h.own, h.lt⟩, h.blk, h.file, h.done, fun i k hi hk => ⟨⟨(h.foot i k hi hk).1, h.ltV i k hi hk⟩, (h.foot i k hi hk).2⟩, h.inj⟩⟩
theorem new_disk (w : World) :
    Calls Try.prog 6 #[] w fun e w' => e = .returned (.pointer (some ⟨w.heap.size, 0, none⟩)) ∧ DiskAt (From w.heap.size) w.heap.size [] w' ∧ Below w.heap.size w w' := by
  refine (new_any w).mono ?_
  rintro e w' ⟨rfl, rfl⟩
  exact ⟨rfl, ⟨okAll_nil, _, disk_new _ w (Nat.le_refl _)⟩, (Below.refl _ _).alloc (Nat.le_refl _) _⟩

/-- Behind each of these raw writes file 0 holds as many records. -/
def IsLog (ops : List RawOp) (rs : List ByteArray) : Prop := ops.length = rs.length ∧ ∀ n, n ≤ rs.length → play (ops.take n) 0 = logB (rs.take n)
theorem IsLog.nil : IsLog [] [] := ⟨rfl, fun n hn => by
  have : n = 0 := by simpa using hn
  subst this
  rfl⟩
theorem IsLog.now {ops : List RawOp} {rs : List ByteArray} (h : IsLog ops rs) : play ops 0 = logB rs := by
  have := h.2 rs.length (Nat.le_refl _)
  rwa [List.take_length, ← h.1, List.take_length] at this
theorem IsLog.take {ops : List RawOp} {rs : List ByteArray} (h : IsLog ops rs) {n : Nat} (hn : n ≤ rs.length) : IsLog (ops.take n) (rs.take n) := by
  refine ⟨by rw [List.length_take, List.length_take, h.1], fun m hm => ?_⟩
  rw [List.length_take, Nat.min_eq_left hn] at hm
  rw [List.take_take, List.take_take, Nat.min_eq_left hm]
  exact h.2 m (by omega)
theorem IsLog.snoc {ops : List RawOp} {rs : List ByteArray} (h : IsLog ops rs) (s : ByteArray) : IsLog (ops ++ [.put 0 (logB rs).length ⟨(frm s (rs.length + 1)).toArray⟩]) (rs ++ [s]) := by
  refine ⟨by simp [h.1], fun n hn => ?_⟩
  rw [List.length_append, List.length_singleton] at hn
  by_cases hlt : n ≤ rs.length
  · rw [List.take_append_of_le_length (by rw [h.1]; exact hlt), List.take_append_of_le_length hlt]
    exact h.2 n hlt
  · obtain rfl : n = rs.length + 1 := by omega
    rw [List.take_of_length_le (by simp [h.1]), List.take_of_length_le (by simp), play_snoc, logB_snoc]
    simp only [RawOp.run, upd_same, h.now, putL_end]

/-- What Append answers. -/
def appCode (rs : List ByteArray) (s : ByteArray) : Int := if s.size = 0 ∨ 1048576 < s.size then 30 else if 4194304 < (logB rs).length + s.size + 8 then 2 else 0
/-- The records behind Append. -/
def appRecs (rs : List ByteArray) (s : ByteArray) : List ByteArray := if appCode rs s = 0 then rs ++ [s] else rs

/-- A disk on whose file 0 a log's records stand; all its blocks are of S. -/
structure DiskLog (B d : Nat) (S : Nat → Prop) (ops : List RawOp) (rs : List ByteArray) (w : World) : Prop where
  disk : DiskAt S d ops w
  low : ∀ k, S k → B ≤ k ∧ k < w.heap.size
  hist : IsLog ops rs
  recs : Recs rs
theorem DiskLog.len {B d : Nat} {S : Nat → Prop} {ops : List RawOp} {rs : List ByteArray} {w : World} (h : DiskLog B d S ops rs w) : (logB rs).length ≤ 4194304 ∧ 9 * rs.length ≤ 4194304 := by
  have h1 := play_length h.disk.1 0
  rw [h.hist.now] at h1
  have := logB_length h.recs
  omega
theorem DiskLog.below {B d : Nat} {S : Nat → Prop} {ops : List RawOp} {rs : List ByteArray} {w w' : World} (h : DiskLog B d S ops rs w) (hb : Below w.heap.size w w') : DiskLog B d S ops rs w' :=
  ⟨h.disk.below hb, fun k hk => ⟨(h.low k hk).1, Nat.lt_of_lt_of_le (h.low k hk).2 hb.size⟩, h.hist, h.recs⟩
theorem DiskLog.kept {B d : Nat} {S T : Nat → Prop} {ops : List RawOp} {rs : List ByteArray} {w w' : World} (h : DiskLog B d S ops rs w) (hk : Kept T w w') (hd : ∀ k, k < w.heap.size → S k → ¬ T k) : DiskLog B d S ops rs w' :=
  ⟨h.disk.kept hk hd, fun k hk' => ⟨(h.low k hk').1, Nat.lt_of_lt_of_le (h.low k hk').2 hk.size⟩, h.hist, h.recs⟩

/-- What Append leaves. -/
def AppPost (B d : Nat) (S : Nat → Prop) (rs : List ByteArray) (s : ByteArray) (w : World) (e : Ending) (w' : World) : Prop :=
  e = .returned (.int .i64 (appCode rs s)) ∧ ∃ S' ops', DiskLog B d S' ops' (appRecs rs s) w' ∧ Kept S w w' ∧ ∀ k, k < w.heap.size → S' k → S k

theorem app_same {B d : Nat} {S : Nat → Prop} {ops : List RawOp} {rs : List ByteArray} {s : ByteArray} {w w' : World} (h : DiskLog B d S ops rs w) (hb : Below w.heap.size w w') (hc : appCode rs s ≠ 0) :
    ∃ S' ops', DiskLog B d S' ops' (appRecs rs s) w' ∧ Kept S w w' ∧ ∀ k, k < w.heap.size → S' k → S k :=
  ⟨S, ops, by rw [appRecs, if_neg hc]; exact h.below hb, Kept.ofBelow hb, fun _ _ hk => hk⟩

set_option maxHeartbeats 400000 in
theorem append_bad (B l d : Nat) (S : Nat → Prop) (ops : List RawOp) (rs : List ByteArray) (s : ByteArray) (w : World) (h : DiskLog B d S ops rs w) (hl : LogOn l d w) (hs : s.size = 0 ∨ 1048576 < s.size) :
    Calls Try.prog 8 #[.pointer (some ⟨l, 0, none⟩), .string s] w (AppPost B d S rs s w) := by
  have HG := Lib.hid (lgiven_self l w hl.self)
  have hc : appCode rs s = 30 := by rw [appCode, if_pos hs]
  have HP := Lib.hid (show AppPost B d S rs s w (.returned (.int .i64 30)) w from ⟨by rw [hc], app_same h (Below.refl _ _) (by rw [hc]; decide)⟩)
  have hcase : s.toList.isEmpty = true ∨ s.toList.isEmpty = false ∧ (1048576 : Int) < s.size := by
    cases he : s.toList.isEmpty
    · refine .inr ⟨rfl, ?_⟩
      rcases hs with h0 | h0
      · exfalso
        have : s.data.toList = [] := List.eq_nil_of_length_eq_zero (show s.size = 0 from h0)
        rw [ByteArray.toList_eq, this] at he
        cases he
      · omega
    · exact .inl rfl
  clear h hl hs hc
  rcases hcase with he | ⟨he, hgt⟩
  all_goals
    go_enter Try.func8, Try.ntmps8
    go_wp2_with fail
    refine HG.out.mono ?_
    rintro e w' ⟨rfl, hw⟩
    subst w'
    go_wp2
    go_ret
    exact HP.out

set_option maxHeartbeats 3200000 in
theorem append_good (B l d : Nat) (S : Nat → Prop) (ops : List RawOp) (rs : List ByteArray) (s : ByteArray) (w : World) (h : DiskLog B d S ops rs w) (hl : LogOn l d w) (ho : ¬ S l) (hs : ¬ (s.size = 0 ∨ 1048576 < s.size)) :
    Calls Try.prog 8 #[.pointer (some ⟨l, 0, none⟩), .string s] w (AppPost B d S rs s w) := by
  have HG := Lib.hid (lgiven_self l w hl.self)
  have hdisk := hl.disk
  have hlw := hl.lt
  obtain ⟨hlen, hn9⟩ := h.len
  have hll := h.hist.1
  obtain ⟨L, hL⟩ : ∃ L, L = (logB rs).length := ⟨_, rfl⟩
  obtain ⟨n, hn⟩ : ∃ n, n = rs.length := ⟨_, rfl⟩
  obtain ⟨F, hF⟩ : ∃ F : ByteArray, F = ⟨(frm s (n + 1)).toArray⟩ := ⟨_, rfl⟩
  have hFs : F.size = s.size + 8 := by rw [hF, str_size, frm_length]
  have he : s.toList.isEmpty = false := by
    rw [ByteArray.toList_eq]
    cases e : s.data.toList with
    | nil => exact absurd (Or.inl (show s.size = 0 from by have : s.data.toList.length = s.size := rfl; rw [e] at this; exact this.symm)) hs
    | cons c r => rfl
  have hgt : ¬ (1048576 : Int) < s.size := by omega
  have HH := Lib.hid h
  rw [← hn] at hn9
  rw [← hL] at hlen
  have hn1 : ((n : Int) + 1) = ((n + 1 : Nat) : Int) := by omega
  obtain ⟨c, hc⟩ : ∃ c, c = appCode rs s := ⟨_, rfl⟩
  have HSZ : Hid (∀ W, Below w.heap.size w W → Calls Try.prog 16 #[.pointer (some ⟨d, 0, none⟩), .int .i64 0] W fun e w' => e = .returned (.int .i64 L) ∧ W = w') := Lib.hid (fun W hb => (size_ok 0 S d ops W (HH.out.disk.below hb) (by omega)).mono fun e w' ⟨h1, h2⟩ => ⟨by rw [h1, HH.out.hist.now, hL], h2.symm⟩)
  have HLN : Hid (∀ W, Below w.heap.size w W → Calls Try.prog 12 #[.pointer (some ⟨l, 0, none⟩)] W fun e w' => e = .returned (.int .i64 n) ∧ Below w.heap.size w w') := Lib.hid (fun W hb => (len_ok S l d ops rs W (HH.out.disk.below hb) (hl.below hb) HH.out.hist.now HH.out.recs).mono fun e w' ⟨h1, h2⟩ => ⟨by rw [h1, hn], hb.trans (h2.mono hb.size)⟩)
  have HFR : Hid (∀ W, Below w.heap.size w W → Calls Try.prog 20 #[.string s, .int .i64 ((n : Int) + 1)] W fun e w' => e = .returned (.string F) ∧ Below w.heap.size w w') := Lib.hid (fun W hb => by
    rw [hn1]
    exact (framed_any s (n + 1) W (by omega) (by omega)).mono fun e w' ⟨h1, h2⟩ => ⟨by rw [h1, hF], hb.trans (h2.mono hb.size)⟩)
  have HK : Hid (∀ W, Below w.heap.size w W → W.cell? ⟨l, 1, none⟩ = some (.pointer (some ⟨d, 0, none⟩))) := Lib.hid (fun W hb => (hl.below hb).disk)
  have hb0 := (Below.refl w.heap.size w).drew
  have HWR : Hid (∀ W, Below w.heap.size w W → Calls Try.prog 19 #[.pointer (some ⟨d, 0, none⟩), .int .i64 0, .int .i64 L, .string F] W fun e w' => e = .returned (.int .i64 (if c = 0 then 0 else 1)) ∧ w'.cell? ⟨l, 1, none⟩ = some (.pointer (some ⟨d, 0, none⟩)) ∧ Hid (AppPost B d S rs s w (.returned (.int .i64 c)) w')) := Lib.hid (fun W hb => by
    by_cases hfit : L + F.size ≤ 4194304
    · have hc0 : c = 0 := by rw [hc, appCode, if_neg hs, if_neg (by omega)]
      refine (write_ok 0 L F S d ops W (HH.out.disk.below hb) (by omega) (by omega) (by omega) hfit).mono ?_
      rintro e w' ⟨h1, h2, h3⟩
      refine ⟨by rw [h1, hc0]; rfl, ((hl.below hb).kept h3 ho).disk, Lib.hid ⟨by rw [hc], ?_⟩⟩
      have hW := hb.size
      refine ⟨fun k => More S W.heap.size k ∧ k < w'.heap.size, ops ++ [.put 0 L F], ⟨h2.bound, ?_, ?_, ?_⟩, (Kept.ofBelow hb).trans h3 (fun _ hi => .inl hi), ?_⟩
      · rintro k ⟨hk, hk2⟩
        refine ⟨?_, hk2⟩
        rcases hk with hk | hk
        · exact (HH.out.low k hk).1
        · have := HH.out.low d HH.out.disk.at
          omega
      · rw [appRecs, if_pos (by rw [← hc, hc0]), hL, hF, hn]
        exact HH.out.hist.snoc s
      · rw [appRecs, if_pos (by rw [← hc, hc0])]
        exact HH.out.recs.snoc (by omega) (by omega)
      · rintro k hk ⟨h4, _⟩
        exact h4.elim id (fun h => by omega)
    · have hc2 : c = 2 := by rw [hc, appCode, if_neg hs, if_pos (by omega)]
      refine (write_no 0 L F S d ops W (HH.out.disk.below hb) (by omega) (by omega)).mono ?_
      rintro e w' ⟨h1, h2⟩
      subst h2
      exact ⟨by rw [h1, hc2]; rfl, (hl.below hb).disk, Lib.hid ⟨by rw [hc], app_same HH.out hb (by rw [← hc, hc2]; decide)⟩⟩)
  have hc3 : c = 0 ∨ c = 2 := by
    rw [hc, appCode, if_neg hs]
    split <;> simp
  have hw1 : IntKind.i64.wrap ((n : Int) + 1) = (n : Int) + 1 := IntWalk.i64_in _ (by omega)
  clear h hl hs hL hn hF hc hll hn1 hFs
  obtain ⟨k, hk, HW⟩ : ∃ k : Int, (k = 0 ∧ c = 0 ∨ k = 1 ∧ c = 2) ∧ Hid (∀ W, Below w.heap.size w W → Calls Try.prog 19 #[.pointer (some ⟨d, 0, none⟩), .int .i64 0, .int .i64 L, .string F] W fun e w' => e = .returned (.int .i64 k) ∧ w'.cell? ⟨l, 1, none⟩ = some (.pointer (some ⟨d, 0, none⟩)) ∧ Hid (AppPost B d S rs s w (.returned (.int .i64 c)) w')) := by
    rcases hc3 with rfl | rfl
    · exact ⟨0, .inl ⟨rfl, rfl⟩, HWR⟩
    · exact ⟨1, .inr ⟨rfl, rfl⟩, HWR⟩
  clear HWR hc3
  rcases hk with ⟨rfl, rfl⟩ | ⟨rfl, rfl⟩
  all_goals
    go_enter Try.func8, Try.ntmps8
    go_wp2_with fail
    refine HG.out.mono ?_
    rintro e w' ⟨rfl, hw⟩
    subst w'
    go_wp2_with fail
    go_region_held3 (fun w' => w'.cell? ⟨l, 1, none⟩ = some (.pointer (some ⟨d, 0, none⟩))) (first | assumption | exact HK.out _ (by assumption))
      (first
        | (go_at_call 16; refine (HSZ.out _ (by assumption)).mono ?_; rintro e w' ⟨rfl, rfl⟩)
        | (go_at_call 12; refine (HLN.out _ (by assumption)).mono ?_; rintro e w' ⟨rfl, hb'⟩)
        | (go_at_call 20; refine (HFR.out _ (by assumption)).mono ?_; rintro e w' ⟨rfl, hb'⟩)
        | (go_at_call 19; refine (HW.out _ (by assumption)).mono ?_; rintro e w' ⟨rfl, hcl, hpost⟩))
    all_goals go_wp2
    all_goals go_ret
    all_goals exact Hid.out (by assumption)
end Go.Proofs.Ytnncljihnelalaa
