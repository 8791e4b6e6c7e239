/- The contracts of a log's given, Open, Len, Reset. -/
import Derived.Test.YtnncljihnelalaaLD
import Derived.Deep.RegionHeld3
set_option maxRecDepth 100000
namespace Go.Proofs.Ytnncljihnelalaa
open Go.RowKit

theorem sizeL : (Try.prog.info? 37).map (·.size) = some 2 := by kernel_rfl

set_option maxHeartbeats 400000 in
theorem lgiven_nil (w : World) : Calls Try.prog 18 #[.pointer none] w fun e w' => e = .returned (.bool false) ∧ w' = w := by
  go_enter Try.func18, Try.ntmps18
  go_wp2
  go_ret
  exact ⟨rfl, rfl⟩

set_option maxHeartbeats 400000 in
theorem lgiven_self (l : Nat) (w : World) (h : w.cell? ⟨l, 0, none⟩ = some (.pointer (some ⟨l, 0, none⟩))) :
    Calls Try.prog 18 #[.pointer (some ⟨l, 0, none⟩)] w fun e w' => e = .returned (.bool true) ∧ w' = w := by
  obtain ⟨j, hj, _⟩ := Option.map_eq_some_iff.1 sizeL
  have hq := run_eql_ptr_same (P := Try.prog) w (tp := 25) (te := 37) ⟨l, 0, none⟩ Try.underlying25 hj
  go_enter Try.func18, Try.ntmps18
  go_wp2
  go_ret
  exact ⟨rfl, rfl⟩

theorem eql_nil_log (w : World) (a : Addr) : (binOp .eql 25 (.pointer none) (.pointer (some a))).run Try.prog w = .ok (.bool false) w := by
  have h : ∀ d : Nat, (Op.equalIn (d + 1) 25 (.pointer none) (.pointer (some a))).run Try.prog w = .ok false w := fun d => by
    simp [Op.equalIn, run_underlying Try.underlying25, sizeOf, typeInfo]
  simp only [binOp]
  simp [Op.equal, Op.maxDepth, h 9999]

set_option maxHeartbeats 400000 in
theorem lgiven_zero (l : Nat) (w : World) (h : w.cell? ⟨l, 0, none⟩ = some (.pointer none)) :
    Calls Try.prog 18 #[.pointer (some ⟨l, 0, none⟩)] w fun e w' => e = .returned (.bool false) ∧ w' = w := by
  have hq := eql_nil_log w ⟨l, 0, none⟩
  go_enter Try.func18, Try.ntmps18
  go_wp2
  go_ret
  exact ⟨rfl, rfl⟩

/-- A log that Open gave lies at block l, on the disk at block d. -/
def LogOn (l d : Nat) (w : World) : Prop := w.heap[l]? = some (.cells #[.pointer (some ⟨l, 0, none⟩), .pointer (some ⟨d, 0, none⟩)] 37 (0, 0))
theorem LogOn.lt {l d : Nat} {w : World} (h : LogOn l d w) : l < w.heap.size := (Array.getElem?_eq_some_iff.1 h).1
theorem LogOn.self {l d : Nat} {w : World} (h : LogOn l d w) : w.cell? ⟨l, 0, none⟩ = some (.pointer (some ⟨l, 0, none⟩)) := by rw [Lib.cell_of_heap h]; rfl
theorem LogOn.disk {l d : Nat} {w : World} (h : LogOn l d w) : w.cell? ⟨l, 1, none⟩ = some (.pointer (some ⟨d, 0, none⟩)) := by rw [Lib.cell_of_heap h]; rfl
theorem LogOn.below {l d : Nat} {w w' : World} (h : LogOn l d w) (hb : Below w.heap.size w w') : LogOn l d w' := by
  unfold LogOn
  rw [hb.block l h.lt]; exact h
theorem LogOn.kept {S : Nat → Prop} {l d : Nat} {w w' : World} (h : LogOn l d w) (hk : Kept S w w') (hl : ¬ S l) : LogOn l d w' := by
  unfold LogOn
  rw [hk.block l h.lt hl]; exact h

theorem str_toArray (l : List UInt8) : (⟨l.toArray⟩ : ByteArray).data.toList = l := by simp
theorem str_size (l : List UInt8) : (⟨l.toArray⟩ : ByteArray).size = l.length := by simp [ByteArray.size]

/-- What '[]byte(s)' lays, read as bytes. -/
theorem bytesOf_reads (w : World) (s : ByteArray) :
    ∃ c W, (convert 9 42 (.string s)).run Try.prog w = .ok (.slice (some ⟨w.heap.size, 0, none⟩) s.size c) W ∧ s.size ≤ c ∧ ReadsB W (some ⟨w.heap.size, 0, none⟩) s.data.toList ∧ Below w.heap.size w W := by
  have h := run_bytes_of_string (P := Try.prog) w 9 42 5 s Try.underlying9 Try.underlying42 Try.underlying5
  refine ⟨_, _, h, grownCap_ge _ _ _ _, .inr ⟨w.heap.size, 0, rfl, by simp, ?_⟩, (Below.refl _ w).drew.alloc (Nat.le_refl _) _⟩
  intro j hj
  have hj' : j < s.data.size := by simpa using hj
  rw [Nat.zero_add]
  have e := World.cell?_alloc_mark w.drew (bytesRow s (grownCap w s.size 0 5)) 5 ((bytesRow s (grownCap w s.size 0 5)).size, (bytesRow s (grownCap w s.size 0 5)).size + 1) j
  rw [bytesRow_at s _ j hj'] at e
  rw [show w.drew.heap.size = w.heap.size from rfl] at e
  rw [e]
  simp

set_option maxHeartbeats 1600000 in
theorem open_ok (S : Nat → Prop) (d : Nat) (ops : List RawOp) (rs : List ByteArray) (w : World) (h : DiskAt S d ops w) (hp : play ops 0 = logB rs) (hrs : Recs rs) :
    Calls Try.prog 7 #[.pointer (some ⟨d, 0, none⟩)] w fun e w' => ∃ v, e = .returned (.tuple #[.pointer (some ⟨w.heap.size, 0, none⟩), v, .int .i64 0]) ∧ LogOn w.heap.size d w' ∧ Strs w.heap.size w' v rs ∧ Below w.heap.size w w' := by
  have HD := Lib.hid h; clear h
  have hlen : (logB rs).length ≤ 4194304 := by rw [← hp]; exact play_length HD.out.1 0
  obtain ⟨s, hs⟩ : ∃ s : ByteArray, s = ⟨(logB rs).toArray⟩ := ⟨_, rfl⟩
  have hsl : s.data.toList = logB rs := by rw [hs]
  have hsz : (logB rs).length = s.size := by rw [← hsl]; rfl
  have HRD : Hid (Calls Try.prog 15 #[.pointer (some ⟨d, 0, none⟩), .int .i64 0, .int .i64 0, .int .i64 s.size] w fun e w' => e = .returned (.tuple #[.string s, .int .i64 0]) ∧ w = w') := Lib.hid ((read_ok 0 0 s.size S d ops w HD.out (by omega) (by rw [hp]; omega)).mono fun e w' ⟨h1, h2⟩ => ⟨by rw [h1, hp, List.drop_zero, List.take_of_length_le (by omega), ← hs], h2.symm⟩)
  have HSZ : Hid (Calls Try.prog 16 #[.pointer (some ⟨d, 0, none⟩), .int .i64 0] w fun e w' => e = .returned (.int .i64 s.size) ∧ w = w') := Lib.hid ((size_ok 0 S d ops w HD.out (by omega)).mono fun e w' ⟨h1, h2⟩ => ⟨by rw [h1, hp, hsz], h2.symm⟩)
  obtain ⟨c, W, hcv, hc, hR, hbW⟩ := bytesOf_reads (w.alloc (.cells #[.pointer (some ⟨w.heap.size, 0, none⟩), .pointer (some ⟨d, 0, none⟩)] 37)) s
  have HOF := Lib.hid (recordsOf_any rs (some ⟨w.heap.size + 1, 0, none⟩) c s.size W hsz (by omega) hrs hc (by rw [← hsl]; simpa using hR))
  have HON : Hid (LogOn w.heap.size d W) := Lib.hid (LogOn.below (w := w.alloc (.cells #[.pointer (some ⟨w.heap.size, 0, none⟩), .pointer (some ⟨d, 0, none⟩)] 37)) (heap_alloc_new w _) hbW)
  have HBW : Hid (Below w.heap.size w W) := Lib.hid (((Below.refl _ w).alloc (Nat.le_refl _) _).trans (hbW.mono (by simp)))
  clear hp hrs hs hsl hsz hlen hc hR hbW
  go_enter Try.func7, Try.ntmps7
  go_wp2_with fail
  refine HSZ.out.mono ?_
  rintro e w1 ⟨rfl, rfl⟩
  go_wp2_with fail
  refine HRD.out.mono ?_
  rintro e w2 ⟨rfl, rfl⟩
  go_wp2_with fail
  refine HOF.out.mono ?_
  rintro e w3 ⟨v, rfl, hS, hb⟩
  have hz := HBW.out.size
  have HS := Lib.hid hS; have HB := Lib.hid hb; clear hS hb
  go_wp2
  go_ret3
  exact ⟨v, rfl, HON.out.below HB.out, HS.out.mono hz, HBW.out.trans (HB.out.mono hz)⟩

set_option maxHeartbeats 1600000 in
theorem open_nobody (p : Value) (w : World) (hp : NoDisk p w) :
    Calls Try.prog 7 #[p] w fun e w' => e = .returned (.tuple #[.pointer none, .slice none 0 0, .int .i64 1]) ∧ w' = w := by
  have HS := Lib.hid (size_nobody p 0 w hp)
  have HR := Lib.hid (read_nobody p 0 0 0 w hp)
  clear hp
  go_enter Try.func7, Try.ntmps7
  go_wp2_with fail
  refine HS.out.mono ?_
  rintro e w1 ⟨rfl, rfl⟩
  go_wp2_with fail
  refine HR.out.mono ?_
  rintro e w2 ⟨rfl, rfl⟩
  go_wp2
  go_ret3
  exact ⟨rfl, rfl⟩

set_option maxHeartbeats 1600000 in
theorem len_ok (S : Nat → Prop) (l d : Nat) (ops : List RawOp) (rs : List ByteArray) (w : World) (h : DiskAt S d ops w) (hl : LogOn l d w) (hp : play ops 0 = logB rs) (hrs : Recs rs) :
    Calls Try.prog 12 #[.pointer (some ⟨l, 0, none⟩)] w fun e w' => e = .returned (.int .i64 rs.length) ∧ Below w.heap.size w w' := by
  have hself := hl.self
  have hdisk := hl.disk
  have HG := Lib.hid (fun W (hW : W.cell? ⟨l, 0, none⟩ = some (.pointer (some ⟨l, 0, none⟩))) => lgiven_self l W hW)
  have hlen : (logB rs).length ≤ 4194304 := by rw [← hp]; exact play_length h.1 0
  have HD : ∀ n, DiskAt S d ops (w.drewN n) := fun n => h.below (below_drewN w n)
  by_cases hrn : rs = []
  · subst hrn
    have HSZ : Hid (∀ n, Calls Try.prog 16 #[.pointer (some ⟨d, 0, none⟩), .int .i64 0] (w.drewN n) fun e w' => e = .returned (.int .i64 0) ∧ w' = w.drewN n) := Lib.hid (fun n => (size_ok 0 S d ops _ (HD n) (by omega)).mono fun e w' ⟨h1, h2⟩ => ⟨by rw [h1, hp]; rfl, h2⟩)
    have HRD : Hid (∀ n, Calls Try.prog 15 #[.pointer (some ⟨d, 0, none⟩), .int .i64 0, .int .i64 (-4), .int .i64 4] (w.drewN n) fun e w' => e = .returned (.tuple #[.string ⟨#[]⟩, .int .i64 1]) ∧ w' = w.drewN n) := Lib.hid (fun n => read_no 0 (-4) 4 S d ops _ (HD n) (by omega) (by omega))
    clear hp hrs hlen HD h hl
    go_enter Try.func12, Try.ntmps12
    go_wp2_with fail
    refine (HG.out _ hself).mono ?_
    rintro e w1 ⟨rfl, hw⟩
    subst w1
    go_wp2_with fail
    go_quiet ((first | (go_at_call 16; exact Calls.quiet_of_same (HSZ.out _)) | (go_at_call 15; exact Calls.quiet_of_same (HRD.out _))))
    go_wp2
    go_ret
    exact ⟨rfl, below_drewN _ _⟩
  · obtain ⟨h4, hv⟩ := logB_last hrn hlen hrs
    obtain ⟨L, hL⟩ : ∃ L, L = (logB rs).length := ⟨_, rfl⟩
    rw [← hL] at h4 hv hlen
    obtain ⟨s, hs⟩ : ∃ s : ByteArray, s = ⟨((logB rs).drop (L - 4)).toArray⟩ := ⟨_, rfl⟩
    have hsl : s.data.toList = (logB rs).drop (L - 4) := by rw [hs]
    have hs4 : s.size = 4 := by
      have : s.data.toList.length = s.size := rfl
      rw [← this, hsl, List.length_drop]; omega
    rw [← hsl] at hv
    have hi4 : ((L - 4 : Nat) : Int) = (L : Int) - 4 := by omega
    have HSZ : Hid (∀ n, Calls Try.prog 16 #[.pointer (some ⟨d, 0, none⟩), .int .i64 0] (w.drewN n) fun e w' => e = .returned (.int .i64 L) ∧ w' = w.drewN n) := Lib.hid (fun n => (size_ok 0 S d ops _ (HD n) (by omega)).mono fun e w' ⟨h1, h2⟩ => ⟨by rw [h1, hp, hL], h2⟩)
    have HRD : Hid (∀ n, Calls Try.prog 15 #[.pointer (some ⟨d, 0, none⟩), .int .i64 0, .int .i64 ((L : Int) - 4), .int .i64 4] (w.drewN n) fun e w' => e = .returned (.tuple #[.string s, .int .i64 0]) ∧ w' = w.drewN n) := Lib.hid (fun n => by
      rw [← hi4]
      refine (read_ok 0 (L - 4) 4 S d ops _ (HD n) (by omega) (by rw [hp]; omega)).mono fun e w' ⟨h1, h2⟩ => ⟨?_, h2⟩
      rw [h1, hp, hs, List.take_of_length_le (by rw [List.length_drop]; omega)])
    have HWO : Hid (∀ W c b, ReadsB W (some ⟨b, 0, none⟩) s.data.toList → Calls Try.prog 23 #[.slice (some ⟨b, 0, none⟩) s.size c] W fun e w' => e = .returned (.int .i64 rs.length) ∧ W = w') := Lib.hid (fun W c b hR => (wordOf_at _ s.data.toList s.size c W rfl (by omega) hR).mono fun e w' ⟨h1, h2⟩ => ⟨by rw [h1, hv], h2⟩)
    have hw1 : IntKind.i64.wrap ((L : Int) - 4) = (L : Int) - 4 := IntWalk.i64_in _ (by omega)
    have hs4' : s.size ≤ 4 := by omega
    have hL0 : ¬ ((L : Int) - 4 < 0) := by omega
    clear hp hrs HD h hl hL hs hsl hs4 hv hi4 hrn
    go_enter Try.func12, Try.ntmps12
    go_wp2_with fail
    refine (HG.out _ hself).mono ?_
    rintro e w1 ⟨rfl, hw⟩
    subst w1
    go_wp2_with fail
    go_quiet ((first | (go_at_call 16; exact Calls.quiet_of_same (HSZ.out _)) | (go_at_call 15; exact Calls.quiet_of_same (HRD.out _))))
    obtain ⟨c, W, hcv, hc, hR, hbW⟩ := bytesOf_reads (w.drewN nq) s
    have HR := Lib.hid hR; have HBW := Lib.hid ((below_drewN w nq).trans hbW); clear hc hR hbW
    go_wp2_with fail
    refine (HWO.out _ _ _ HR.out).mono ?_
    rintro e w3 ⟨rfl, rfl⟩
    go_wp2
    go_ret
    exact ⟨rfl, HBW.out⟩

set_option maxHeartbeats 400000 in
theorem len_nobody (p : Value) (w : World) (hp : Calls Try.prog 18 #[p] w fun e w' => e = .returned (.bool false) ∧ w' = w) :
    Calls Try.prog 12 #[p] w fun e w' => e = .returned (.int .i64 0) ∧ w' = w := by
  have HP := Lib.hid hp; clear hp
  go_enter Try.func12, Try.ntmps12
  go_wp2_with fail
  refine HP.out.mono ?_
  rintro e w' ⟨rfl, hw⟩
  subst w'
  go_wp2
  go_ret
  exact ⟨rfl, rfl⟩

set_option maxHeartbeats 400000 in
theorem reset_nobody (p : Value) (w : World) (hp : Calls Try.prog 18 #[p] w fun e w' => e = .returned (.bool false) ∧ w' = w) :
    Calls Try.prog 14 #[p] w fun e w' => e = .returned (.int .i64 1) ∧ w' = w := by
  have HP := Lib.hid hp; clear hp
  go_enter Try.func14, Try.ntmps14
  go_wp2_with fail
  refine HP.out.mono ?_
  rintro e w' ⟨rfl, hw⟩
  subst w'
  go_wp2
  go_ret
  exact ⟨rfl, rfl⟩

set_option maxHeartbeats 400000 in
theorem append_nobody (p : Value) (s : ByteArray) (w : World) (hp : Calls Try.prog 18 #[p] w fun e w' => e = .returned (.bool false) ∧ w' = w) :
    Calls Try.prog 8 #[p, .string s] w fun e w' => e = .returned (.int .i64 1) ∧ w' = w := by
  have HP := Lib.hid hp; clear hp
  go_enter Try.func8, Try.ntmps8
  go_wp2_with fail
  refine HP.out.mono ?_
  rintro e w' ⟨rfl, hw⟩
  subst w'
  go_wp2
  go_ret
  exact ⟨rfl, rfl⟩

set_option maxHeartbeats 800000 in
theorem reset_ok (S : Nat → Prop) (l d : Nat) (ops : List RawOp) (w : World) (h : DiskAt S d ops w) (hl : LogOn l d w) (hlen : ops.length ≤ 4398046511104) :
    Calls Try.prog 14 #[.pointer (some ⟨l, 0, none⟩)] w fun e w' => e = .returned (.int .i64 0) ∧ DiskAt (More S w.heap.size) d (ops ++ [.trim 0 0]) w' ∧ Kept S w w' := by
  have hdisk := hl.disk
  have HG := Lib.hid (lgiven_self l w hl.self)
  have HT := Lib.hid (trim_ok 0 0 S d ops w h hlen (by omega) (by omega))
  clear h hl hlen
  go_enter Try.func14, Try.ntmps14
  go_wp2_with fail
  refine HG.out.mono ?_
  rintro e w1 ⟨rfl, hw⟩
  subst w1
  go_wp2_with fail
  refine HT.out.mono ?_
  rintro e w2 ⟨rfl, h1, h2⟩
  have H1 := Lib.hid h1; have H2 := Lib.hid h2; clear h1 h2
  go_wp2
  go_ret
  exact ⟨rfl, H1.out, H2.out⟩
end Go.Proofs.Ytnncljihnelalaa
