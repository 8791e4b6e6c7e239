/- Texts of the same proof, one behind the other: LE, LF, LG, LH, SL, SD, SE. -/
import Derived.Test.YtefddiikdamnbaaGreatDoorMAF
import Derived.Deep.RegionHeld3
import Derived.Test.YtefddiikdamnbaaGreatDoorMAB
import Derived.Test.YtefddiikdamnbaaGreatDoorMAD
import Derived.Laws.Tables
/- The contracts of a log's given, Open, Len, Reset. -/
set_option maxRecDepth 100000
namespace Go.Proofs.YtefddiikdamnbaaGreatDoor
open Go.RowKit

/-- A log that Open gave lies at block l, on the disk at block d. -/
def LogOn (l d : Nat) (w : World) : Prop := w.heap[l]? = some (.cells #[.pointer (some ⟨l, 0, none⟩), .pointer (some ⟨d, 0, none⟩)] 167 (0, 0))
theorem LogOn.lt {l d : Nat} {w : World} (h : LogOn l d w) : l < w.heap.size := (Array.getElem?_eq_some_iff.1 h).1
theorem LogOn.below {l d : Nat} {w w' : World} (h : LogOn l d w) (hb : Below w.heap.size w w') : LogOn l d w' := by
  unfold LogOn
  rw [hb.block l h.lt]; exact h
theorem LogOn.kept {S : Nat → Prop} {l d : Nat} {w w' : World} (h : LogOn l d w) (hk : Kept S w w') (hl : ¬ S l) : LogOn l d w' := by
  unfold LogOn
  rw [hk.block l h.lt hl]; exact h

/-- What '[]byte(s)' lays, read as bytes. -/
theorem bytesOf_reads (w : World) (s : ByteArray) :
    ∃ c W, (convert 9 113 (.string s)).run Tryz.prog w = .ok (.slice (some ⟨w.heap.size, 0, none⟩) s.size c) W ∧ s.size ≤ c ∧ ReadsB W (some ⟨w.heap.size, 0, none⟩) s.data.toList ∧ Below w.heap.size w W := by
  have h := run_bytes_of_string (P := Tryz.prog) w 9 113 5 s Tryz.underlying9 Tryz.underlying113 Tryz.underlying5
  refine ⟨_, _, h, grownCap_ge _ _ _ _, .inr ⟨w.heap.size, 0, rfl, by simp, ?_⟩, (Below.refl _ w).drew.alloc (Nat.le_refl _) _⟩
  intro j hj
  have hj' : j < s.data.size := by simpa using hj
  rw [Nat.zero_add]
  have e := World.cell?_alloc_mark w.drew (bytesRow s (grownCap w s.size 0 5)) 5 ((bytesRow s (grownCap w s.size 0 5)).size, (bytesRow s (grownCap w s.size 0 5)).size + 1) j
  rw [bytesRow_at s _ j hj'] at e
  rw [show w.drew.heap.size = w.heap.size from rfl] at e
  rw [e]
  simp

set_option maxHeartbeats 1600000 in
theorem open_ok (S : Nat → Prop) (d : Nat) (ops : List RawOp) (rs : List ByteArray) (w : World) (h : DiskAt S d ops w) (hp : play ops 0 = logB rs) (hrs : Recs rs) :
    Calls Tryz.prog 48 #[.pointer (some ⟨d, 0, none⟩)] w fun e w' => ∃ v, e = .returned (.tuple #[.pointer (some ⟨w.heap.size, 0, none⟩), v, .int .i64 0]) ∧ LogOn w.heap.size d w' ∧ Strs w.heap.size w' v rs ∧ Below w.heap.size w w' := by
  have HD := Lib.hid h; clear h
  have hlen : (logB rs).length ≤ 4194304 := by rw [← hp]; exact play_length HD.out.1 0
  obtain ⟨s, hs⟩ : ∃ s : ByteArray, s = ⟨(logB rs).toArray⟩ := ⟨_, rfl⟩
  have hsl : s.data.toList = logB rs := by rw [hs]
  have hsz : (logB rs).length = s.size := by rw [← hsl]; rfl
  have HRD : Hid (Calls Tryz.prog 100 #[.pointer (some ⟨d, 0, none⟩), .int .i64 0, .int .i64 0, .int .i64 s.size] w fun e w' => e = .returned (.tuple #[.string s, .int .i64 0]) ∧ w = w') := Lib.hid ((read_ok 0 0 s.size S d ops w HD.out (by omega) (by rw [hp]; omega)).mono fun e w' ⟨h1, h2⟩ => ⟨by rw [h1, hp, List.drop_zero, List.take_of_length_le (by omega), ← hs], h2.symm⟩)
  have HSZ : Hid (Calls Tryz.prog 101 #[.pointer (some ⟨d, 0, none⟩), .int .i64 0] w fun e w' => e = .returned (.int .i64 s.size) ∧ w = w') := Lib.hid ((size_ok 0 S d ops w HD.out (by omega)).mono fun e w' ⟨h1, h2⟩ => ⟨by rw [h1, hp, hsz], h2.symm⟩)
  obtain ⟨c, W, hcv, hc, hR, hbW⟩ := bytesOf_reads (w.alloc (.cells #[.pointer (some ⟨w.heap.size, 0, none⟩), .pointer (some ⟨d, 0, none⟩)] 167)) s
  have HOF := Lib.hid (recordsOf_any rs (some ⟨w.heap.size + 1, 0, none⟩) c s.size W hsz (by omega) hrs hc (by rw [← hsl]; simpa using hR))
  have HON : Hid (LogOn w.heap.size d W) := Lib.hid (LogOn.below (w := w.alloc (.cells #[.pointer (some ⟨w.heap.size, 0, none⟩), .pointer (some ⟨d, 0, none⟩)] 167)) (heap_alloc_new w _) hbW)
  have HBW : Hid (Below w.heap.size w W) := Lib.hid (((Below.refl _ w).alloc (Nat.le_refl _) _).trans (hbW.mono (by simp)))
  clear hp hrs hs hsl hsz hlen hc hR hbW
  go_enter Tryz.func48, Tryz.ntmps48
  go_wp2_with fail
  refine HSZ.out.mono ?_
  rintro e w1 ⟨rfl, rfl⟩
  go_wp2_with fail
  refine HRD.out.mono ?_
  rintro e w2 ⟨rfl, rfl⟩
  go_wp2_with fail
  refine HOF.out.mono ?_
  rintro e w3 ⟨v, rfl, hS, hb⟩
  have hz := HBW.out.size
  have HS := Lib.hid hS; have HB := Lib.hid hb; clear hS hb
  go_wp2
  go_ret3
  exact ⟨v, rfl, HON.out.below HB.out, HS.out.mono hz, HBW.out.trans (HB.out.mono hz)⟩

end Go.Proofs.YtefddiikdamnbaaGreatDoor

/- The contract of a log's Append: for every text, on whatever log. -/
set_option maxRecDepth 100000
namespace Go.Proofs.YtefddiikdamnbaaGreatDoor
open Go.RowKit

/-- Behind each of these raw writes file 0 holds as many records. -/
def IsLog (ops : List RawOp) (rs : List ByteArray) : Prop := ops.length = rs.length ∧ ∀ n, n ≤ rs.length → play (ops.take n) 0 = logB (rs.take n)
theorem IsLog.take {ops : List RawOp} {rs : List ByteArray} (h : IsLog ops rs) {n : Nat} (hn : n ≤ rs.length) : IsLog (ops.take n) (rs.take n) := by
  refine ⟨by rw [List.length_take, List.length_take, h.1], fun m hm => ?_⟩
  rw [List.length_take, Nat.min_eq_left hn] at hm
  rw [List.take_take, List.take_take, Nat.min_eq_left hm]
  exact h.2 m (by omega)
/-- What Append answers. -/
def appCode (rs : List ByteArray) (s : ByteArray) : Int := if s.size = 0 ∨ 1048576 < s.size then 30 else if 4194304 < (logB rs).length + s.size + 8 then 2 else 0
/-- The records behind Append. -/
def appRecs (rs : List ByteArray) (s : ByteArray) : List ByteArray := if appCode rs s = 0 then rs ++ [s] else rs

/-- A disk on whose file 0 a log's records stand; all its blocks are of S. -/
structure DiskLog (B d : Nat) (S : Nat → Prop) (ops : List RawOp) (rs : List ByteArray) (w : World) : Prop where
  disk : DiskAt S d ops w
  low : ∀ k, S k → B ≤ k ∧ k < w.heap.size
  hist : IsLog ops rs
  recs : Recs rs
/-- What Append leaves. -/
def AppPost (B d : Nat) (S : Nat → Prop) (rs : List ByteArray) (s : ByteArray) (w : World) (e : Ending) (w' : World) : Prop :=
  e = .returned (.int .i64 (appCode rs s)) ∧ ∃ S' ops', DiskLog B d S' ops' (appRecs rs s) w' ∧ Kept S w w' ∧ ∀ k, k < w.heap.size → S' k → S k

end Go.Proofs.YtefddiikdamnbaaGreatDoor

/- Append at whatever text; the law's same and awake. -/
set_option maxRecDepth 100000
namespace Go.Proofs.YtefddiikdamnbaaGreatDoor
open Go.RowKit

end Go.Proofs.YtefddiikdamnbaaGreatDoor

/- The law's awake is true. -/
set_option maxRecDepth 100000
namespace Go.Proofs.YtefddiikdamnbaaGreatDoor
open Go.RowKit

/-- A disk with a log on it: Open's log lies at block l. -/
structure Two (B l d : Nat) (S : Nat → Prop) (ops : List RawOp) (rs : List ByteArray) (w : World) : Prop where
  dl : DiskLog B d S ops rs w
  on : LogOn l d w
  out : ¬ S l
  ge : B ≤ l

/-- What Append leaves of a log and its disk. -/
def TwoPost (B l d : Nat) (rs : List ByteArray) (s : ByteArray) (S : Nat → Prop) (w : World) (e : Ending) (w' : World) : Prop :=
  e = .returned (.int .i64 (appCode rs s)) ∧ ∃ S' ops', Two B l d S' ops' (appRecs rs s) w' ∧ Kept S w w' ∧ ∀ k, k < w.heap.size → S' k → S k
def sA : ByteArray := ⟨#[97]⟩
def sB : ByteArray := ⟨#[98]⟩
end Go.Proofs.YtefddiikdamnbaaGreatDoor

/- The log's Append on a disk of whatever history; the disk under a pool that is in use. -/
set_option maxRecDepth 100000
namespace Go.Proofs.YtefddiikdamnbaaGreatDoor
open Go.RowKit

/-- What Append leaves of a disk. -/
def LogPost (S : Nat → Prop) (d : Nat) (ops : List RawOp) (rs : List ByteArray) (s : ByteArray) (w : World) (e : Ending) (w' : World) : Prop :=
  e = .returned (.int .i64 (appCode rs s)) ∧ ∃ S' ops', DiskAt S' d ops' w' ∧ (ops' = if appCode rs s = 0 then ops ++ [.put 0 (logB rs).length ⟨(frm s (rs.length + 1)).toArray⟩] else ops) ∧ Kept S w w' ∧ ∀ k, S' k → S k ∨ w.heap.size ≤ k

/-- The disk under a pool, and the pool behind a raw write that leaves the pages' file alone. -/
theorem PoolJ.disk {J : List RawOp → Prop} {B p d n N : Nat} {S : Nat → Prop} {C : Nat → List UInt8} {P : Nat → Nat} {w : World} (h : PoolJ J B S p d n C P N w) :
    ∃ Sd ops, J ops ∧ DiskAt Sd d ops w ∧ (∀ k, Sd k → S k) ∧ ops.length ≤ N ∧
      ∀ (J' : List RawOp → Prop) (w' : World) (ops' : List RawOp) (S2 : Nat → Prop), DiskAt S2 d ops' w' → Kept Sd w w' → (∀ k, S2 k → Sd k ∨ w.heap.size ≤ k) → play ops' 1 = play ops 1 → ops'.length ≤ ops.length + 1 → J' ops' →
        ∃ S', Turn S w S' w' ∧ PoolJ J' B S' p d n C P (N + 1) w' := by
  obtain ⟨fb, mb, hand, m, fr, Sd, ops, hJ, hG, hF, hD, hV, hO, hS, hB⟩ := h
  refine ⟨Sd, ops, hJ, hD, fun k hk => hS k (.inl hk), by have := hV.cost; omega, fun J' w' ops' S2 hD2 hK hS2 hpl hlen hJ' => ?_⟩
  refine poolJ_mk (S := S) (B := B) (w := w) hJ' (hG.kept hK hO.1 hO.2.1 hO.2.2) hF hD2 ⟨fun i f hi => ?_, fun q hq => ?_, ?_, fun q => Nat.le_succ_of_le (hV.bnd q)⟩ ⟨fun hh => (hS2 p hh).elim hO.1 (by have := hG.lt; omega), fun hh => (hS2 fb hh).elim hO.2.1 (by have := hG.ltF; omega), fun hh => (hS2 mb hh).elim hO.2.2 (by have := hG.ltM; omega)⟩ (fun k hk => (hS2 k hk).imp (fun h => hS k (.inl h)) id) ⟨hS p (.inr (.inl rfl)), hS fb (.inr (.inr (.inl rfl))), hS mb (.inr (.inr (.inr rfl)))⟩ hB (hK.mono (fun k hk => hS k (.inl hk)))
  · rw [hpl]; exact hV.held i f hi
  · rw [hpl]; exact hV.free q hq
  · have := hV.cost; omega

/-- A new pool, so said. -/
theorem pnew_j (J : List RawOp → Prop) (B d n N : Nat) (S : Nat → Prop) (ops : List RawOp) (w : World) (h : DiskAt S d ops w) (hS : ∀ k, S k → B ≤ k ∧ k < w.heap.size) (h1 : 1 ≤ n) (h2 : n ≤ 1024) (hN : ops.length ≤ N) (hJ : J ops) :
    Calls Tryz.prog 49 #[.pointer (some ⟨d, 0, none⟩), .int .i64 n] w fun e w' => ∃ p S', e = .returned (.tuple #[.pointer (some ⟨p, 0, none⟩), .int .i64 0]) ∧ PoolJ J B S' p d n (fun q => pageOf (play ops 1) q) (fun _ => 0) N w' ∧ Below w.heap.size w w' ∧ S' p ∧ (∀ k, S k → S' k) ∧ ∀ k, k < w.heap.size → S' k → S k := by
  refine (pnew_ok d n S ops w h h1 h2).mono ?_
  rintro e w' ⟨p, fb, mb, rfl, hG, hp, hb⟩
  have hdB := hS d h.at
  refine ⟨p, fun k => (S k ∨ w.heap.size ≤ k) ∧ k < w'.heap.size, rfl, ⟨fb, mb, 0, 0, fun _ => none, S, ops, hJ, hG, ⟨by omega, fun i => ⟨fun hi => by omega, (fun ⟨f, hf⟩ => by cases hf)⟩⟩, h.below hb, ⟨(fun i f hf => by cases hf), fun q _ => ⟨rfl, rfl⟩, by rw [chg_none]; omega, fun q => by omega⟩, ⟨fun hs => ?_, fun hs => ?_, fun hs => ?_⟩, ?_, ?_⟩, hb, ⟨.inr hp.1, hG.lt⟩, fun k hk => ⟨.inl hk, Nat.lt_of_lt_of_le (hS k hk).2 hb.size⟩, fun k hk hs => hs.1.elim id (by omega)⟩
  · have := hS p hs; omega
  · have := hS fb hs; omega
  · have := hS mb hs; omega
  · rintro k (hk | rfl | rfl | rfl)
    · exact ⟨.inl hk, Nat.lt_of_lt_of_le (hS k hk).2 hb.size⟩
    · exact ⟨.inr hp.1, hG.lt⟩
    · exact ⟨.inr hp.2.1, hG.ltF⟩
    · exact ⟨.inr hp.2.2, hG.ltM⟩
  · rintro k ⟨hk, hlt⟩
    exact ⟨hk.elim (fun h => (hS k h).1) (fun h => by omega), hlt⟩
end Go.Proofs.YtefddiikdamnbaaGreatDoor

/- A space and an action as they lie in memory; the calls on what is none; what ends an action; Begin. -/
set_option maxRecDepth 100000
namespace Go.Proofs.YtefddiikdamnbaaGreatDoor
open Go.RowKit

/-- A space lies at block s. -/
structure SpaceAt (w : World) (s d l p : Nat) (h : Hd) (cur : Option Nat) : Prop where
  self : w.cell? ⟨s, 0, none⟩ = some (.pointer (some ⟨s, 0, none⟩))
  dk : w.cell? ⟨s, 1, none⟩ = some (.pointer (some ⟨d, 0, none⟩))
  lg : w.cell? ⟨s, 2, none⟩ = some (.pointer (some ⟨l, 0, none⟩))
  pl : w.cell? ⟨s, 3, none⟩ = some (.pointer (some ⟨p, 0, none⟩))
  hd : HdAt w s 4 h
  cur_ : w.cell? ⟨s, 85, none⟩ = some (.pointer (cur.map fun a => ⟨a, 0, none⟩))
  froz : ∀ j, w.frozen? ⟨s, j, none⟩ = false

/-- An action lies at block a, of the space at block s. -/
structure ActAt (w : World) (a s : Nat) (h : Hd) (dv : Value) : Prop where
  self : w.cell? ⟨a, 0, none⟩ = some (.pointer (some ⟨a, 0, none⟩))
  st : w.cell? ⟨a, 1, none⟩ = some (.pointer (some ⟨s, 1, none⟩))
  hd : HdAt w a 2 h
  dr : w.cell? ⟨a, 83, none⟩ = some dv
  froz : ∀ j, w.frozen? ⟨a, j, none⟩ = false

section
variable {w w' : World} {s d l p a : Nat} {h : Hd} {cur : Option Nat} {dv : Value}
theorem SpaceAt.lt (x : SpaceAt w s d l p h cur) : s < w.heap.size := World.block_lt_of_cell? w _ x.self
theorem ActAt.lt (x : ActAt w a s h dv) : a < w.heap.size := World.block_lt_of_cell? w _ x.self
theorem SpaceAt.block (x : SpaceAt w s d l p h cur) (hb : w'.heap[s]? = w.heap[s]?) : SpaceAt w' s d l p h cur :=
  ⟨(World.cell?_of_block hb).trans x.self, (World.cell?_of_block hb).trans x.dk, (World.cell?_of_block hb).trans x.lg, (World.cell?_of_block hb).trans x.pl, x.hd.block hb, (World.cell?_of_block hb).trans x.cur_, fun j => (World.frozen?_of_block hb).trans (x.froz j)⟩
theorem ActAt.block (x : ActAt w a s h dv) (hb : w'.heap[a]? = w.heap[a]?) : ActAt w' a s h dv :=
  ⟨(World.cell?_of_block hb).trans x.self, (World.cell?_of_block hb).trans x.st, x.hd.block hb, (World.cell?_of_block hb).trans x.dr, fun j => (World.frozen?_of_block hb).trans (x.froz j)⟩
theorem SpaceAt.kept {S : Nat → Prop} (x : SpaceAt w s d l p h cur) (hk : Kept S w w') (hs : ¬ S s) : SpaceAt w' s d l p h cur := x.block (hk.block s x.lt hs)
theorem ActAt.kept {S : Nat → Prop} (x : ActAt w a s h dv) (hk : Kept S w w') (hs : ¬ S a) : ActAt w' a s h dv := x.block (hk.block a x.lt hs)
theorem SpaceAt.below (x : SpaceAt w s d l p h cur) (hk : Below w.heap.size w w') : SpaceAt w' s d l p h cur := x.block (hk.block s x.lt)
theorem ActAt.below (x : ActAt w a s h dv) (hk : Below w.heap.size w w') : ActAt w' a s h dv := x.block (hk.block a x.lt)
/-- The action's head has turned, and nothing besides. -/
theorem ActAt.turnHd (x : ActAt w a s h dv) {h' : Hd} (hd : HdAt w' a 2 h') (ht : Touch a 2 81 w w') : ActAt w' a s h' dv :=
  ⟨(ht.out 0 (by omega)).trans x.self, (ht.out 1 (by omega)).trans x.st, hd, (ht.out 83 (by omega)).trans x.dr, fun j => (ht.froz j).trans (x.froz j)⟩
theorem SpaceAt.setCur (x : SpaceAt w s d l p h cur) (k : h.Ok) (c : Option Nat) : SpaceAt (w.setCell ⟨s, 85, none⟩ (.pointer (c.map fun a => ⟨a, 0, none⟩))) s d l p h c := by
  have ht : Touch s 85 1 w (w.setCell ⟨s, 85, none⟩ (.pointer (c.map fun a => ⟨a, 0, none⟩))) := Touch.setCell w _ (by omega) (by omega)
  refine ⟨(ht.out 0 (by omega)).trans x.self, (ht.out 1 (by omega)).trans x.dk, (ht.out 2 (by omega)).trans x.lg, (ht.out 3 (by omega)).trans x.pl, rangeAt_touch x.hd ht (by rw [Hd.cells_length k]; omega), World.cell?_setCell_same _ _ _ x.cur_, fun j => (ht.froz j).trans (x.froz j)⟩
end

theorem sizeSp : (Tryz.prog.info? 55).map (·.size) = some 86 := by kernel_rfl
theorem sizeAc : (Tryz.prog.info? 40).map (·.size) = some 84 := by kernel_rfl
theorem sizeHd : (Tryz.prog.info? 37).map (·.size) = some 81 := by kernel_rfl

/-! ### given, refuses -/
set_option maxHeartbeats 400000 in
theorem sgiven_self (l : Nat) (w : World) (h : w.cell? ⟨l, 0, none⟩ = some (.pointer (some ⟨l, 0, none⟩))) :
    Calls Tryz.prog 62 #[.pointer (some ⟨l, 0, none⟩)] w fun e w' => e = .returned (.bool true) ∧ w' = w := by
  obtain ⟨j, hj, _⟩ := Option.map_eq_some_iff.1 sizeSp
  have hq := run_eql_ptr_same (P := Tryz.prog) w (tp := 22) (te := 55) ⟨l, 0, none⟩ Tryz.underlying22 hj
  go_enter Tryz.func62, Tryz.ntmps62
  go_wp2
  go_ret
  exact ⟨rfl, rfl⟩
/-- What is no space. -/
def NoSpace (v : Value) (w : World) : Prop := Calls Tryz.prog 62 #[v] w fun e w' => e = .returned (.bool false) ∧ w' = w

set_option maxHeartbeats 400000 in
theorem srefuses_free (s d l p : Nat) (h : Hd) (w : World) (x : SpaceAt w s d l p h none) : Calls Tryz.prog 51 #[.pointer (some ⟨s, 0, none⟩)] w fun e w' => e = .returned (.int .i64 0) ∧ w' = w := by
  have HP := Lib.hid (sgiven_self s w x.self)
  have hc : w.cell? ⟨s, 85, none⟩ = some (.pointer none) := x.cur_
  clear x
  go_enter Tryz.func51, Tryz.ntmps51
  go_wp2_with fail
  refine HP.out.mono ?_
  rintro e w' ⟨rfl, hw⟩
  subst w'
  go_wp2
  go_ret
  exact ⟨rfl, rfl⟩
/-! ### Begin -/
theorem built_action (s m : Nat) (X : List Value) (hX : X.length = 81) :
    Tryz.prog.built 40 [(1, .pointer (some ⟨s, 1, none⟩)), (2, .agg X.toArray), (3, .map (some m))] = some (([Value.pointer none, .pointer (some ⟨s, 1, none⟩)] ++ X ++ [Value.map (some m)]).toArray) :=
  match X, hX with
  | c0 :: c1 :: c2 :: c3 :: c4 :: c5 :: c6 :: c7 :: c8 :: c9 :: c10 :: c11 :: c12 :: c13 :: c14 :: c15 :: c16 :: c17 :: c18 :: c19 :: c20 :: c21 :: c22 :: c23 :: c24 :: c25 :: c26 :: c27 :: c28 :: c29 :: c30 :: c31 :: c32 :: c33 :: c34 :: c35 :: c36 :: c37 :: c38 :: c39 :: c40 :: c41 :: c42 :: c43 :: c44 :: c45 :: c46 :: c47 :: c48 :: c49 :: c50 :: c51 :: c52 :: c53 :: c54 :: c55 :: c56 :: c57 :: c58 :: c59 :: c60 :: c61 :: c62 :: c63 :: c64 :: c65 :: c66 :: c67 :: c68 :: c69 :: c70 :: c71 :: c72 :: c73 :: c74 :: c75 :: c76 :: c77 :: c78 :: c79 :: c80 :: [], _ => by kernel_rfl
end Go.Proofs.YtefddiikdamnbaaGreatDoor

/- Begin of a space whose actions are over. -/
set_option maxRecDepth 100000
namespace Go.Proofs.YtefddiikdamnbaaGreatDoor
open Go.RowKit

theorem exec_build {P : Program} {a : Act} {o : Oper} {t : TypeId} {parts : Array (Nat × Operand)} (ho : o.op = .build t parts) (vals : List (Nat × Value)) (hv : (parts.map fun (i, x) => (i, a.eval x)) = vals.toArray) (cells : Array Value) (hb : P.built t vals = some cells) (W : World) :
    (execOp a.eval o).run P W = .ok (.value (.agg cells)) W := by
  have h := run_build (P := P) W t vals.toArray cells (by simpa using hb)
  unfold execOp
  simp only [ho, hv]
  simp [h]

def BeginPost (s d l p : Nat) (h : Hd) (w : World) (e : Ending) (w' : World) : Prop :=
  ∃ a db, e = .returned (.tuple #[.pointer (some ⟨a, 0, none⟩), .int .i64 0]) ∧ ActAt w' a s h (.map (some db)) ∧ PMap w' db 0 (fun _ => none) ∧ SpaceAt w' s d l p h (some a) ∧ w.heap.size ≤ a ∧ w.heap.size ≤ db ∧ a ≠ db ∧ Kept (fun k => k = s) w w'

set_option maxHeartbeats 1600000 in
theorem begin_ok (s d l p : Nat) (h : Hd) (w : World) (x : SpaceAt w s d l p h none) (k : h.Ok) :
    Calls Tryz.prog 12 #[.pointer (some ⟨s, 0, none⟩)] w (BeginPost s d l p h w) := by
  have HR := Lib.hid (srefuses_free s d l p h w x)
  have HX := Lib.hid x
  have HK := Lib.hid k
  have hlt := x.lt
  obtain ⟨X, hX⟩ : ∃ X : List Value, X = h.cells := ⟨_, rfl⟩
  have HXX : Hid (∀ W : World, W.heap[s]? = w.heap[s]? → W.rangeAt s 4 X) := Lib.hid (fun W hb => by rw [hX]; exact HX.out.hd.block hb)
  have HXL : Hid ((Tryz.prog.info? 37).map (·.size) = some X.length) := Lib.hid (by rw [hX, Hd.cells_length k]; exact sizeHd)
  have hmm := @run_makeMap Tryz.prog
  obtain ⟨Y, hY⟩ : ∃ Y : Array Value, Y = ([Value.pointer none, .pointer (some ⟨s, 1, none⟩)] ++ X ++ [Value.map (some w.heap.size)]).toArray := ⟨_, rfl⟩
  have HY := Lib.hid (built_action s w.heap.size X (by rw [hX, Hd.cells_length k]))
  rw [← hY] at HY
  have HYE := Lib.hid hY; have HXE := Lib.hid hX
  clear x k hY hX
  go_enter Tryz.func12, Tryz.ntmps12
  go_wp2_with fail
  refine HR.out.mono ?_
  rintro e w' ⟨rfl, hw⟩
  subst w'
  go_wp2
  refine wp_region_held_drew (S := fun W => Below w.heap.size w W) (by kernel_rfl) ((Below.refl _ _).drew) (fun hHeld => ?_)
  refine wpAnyH_take (i := 0) (v := .pointer (some ⟨s, 0, none⟩)) rfl (by kernel_rfl) (by kernel_rfl) (by kernel_rfl) (fun _ _ _ h => h) (Or.inl ⟨by rfl, fun W hW => by go_simp⟩) hHeld ?_
  refine wpAnyH_take (i := 1) (v := .pointer (some ⟨s, 0, none⟩)) rfl (by kernel_rfl) (by kernel_rfl) (by kernel_rfl) (fun _ _ _ h => h) (Or.inl ⟨by rfl, fun W hW => by go_simp⟩) hHeld ?_
  refine wpAnyH_take (i := 2) (v := .pointer (some ⟨s, 1, none⟩)) rfl (by kernel_rfl) (by kernel_rfl) (by kernel_rfl) (fun _ _ _ h => h) (Or.inl ⟨by rfl, fun W hW => by go_simp⟩) hHeld ?_
  refine wpAnyH_take (i := 3) (v := .pointer (some ⟨s, 0, none⟩)) rfl (by kernel_rfl) (by kernel_rfl) (by kernel_rfl) (fun _ _ _ h => h) (Or.inl ⟨by rfl, fun W hW => by go_simp⟩) hHeld ?_
  refine wpAnyH_take (i := 4) (v := .pointer (some ⟨s, 0, none⟩)) rfl (by kernel_rfl) (by kernel_rfl) (by kernel_rfl) (fun _ _ _ h => h) (Or.inl ⟨by rfl, fun W hW => by go_simp⟩) hHeld ?_
  refine wpAnyH_take (i := 5) (v := .pointer (some ⟨s, 1, none⟩)) rfl (by kernel_rfl) (by kernel_rfl) (by kernel_rfl) (fun _ _ _ h => h) (Or.inl ⟨by rfl, fun W hW => by go_simp⟩) hHeld ?_
  refine wpAnyH_take (i := 6) (v := .pointer (some ⟨s, 4, none⟩)) rfl (by kernel_rfl) (by kernel_rfl) (by kernel_rfl) (fun _ _ _ h => h) (Or.inl ⟨by rfl, fun W hW => by go_simp⟩) hHeld ?_
  refine wpAnyH_take (i := 7) (v := .agg X.toArray) rfl (by kernel_rfl) (by kernel_rfl) (by kernel_rfl) (fun _ _ _ h => h) (yieldsIf_load_mid (by rfl) 37 _ rfl s 4 rfl X _ (fun W hW => HXX.out W (hW.block s hlt)) Tryz.underlying37 rfl HXL.out) hHeld ?_
  refine wpAnyH_ready (rs := [8]) (by kernel_rfl) (by simp) ?_
  refine AllReadyH.cons rfl (fun K hK => ?_) AllReadyH.nil
  go_simp
  refine hK.out _ _ (((Below.refl _ w).alloc (Nat.le_refl _) _).drew) (fun hHeld2 => ?_)
  clear hK K
  refine wpAnyH_take (i := 9) (v := .agg Y) rfl (by kernel_rfl) (by kernel_rfl) (by kernel_rfl) (fun _ _ _ h => h) (Or.inl ⟨by rfl, fun W hW => exec_build rfl _ (by simp [go_sem]) Y HY.out W⟩) hHeld2 ?_
  refine wpAnyH_ready (rs := [10]) (by kernel_rfl) (by simp) ?_
  refine AllReadyH.cons rfl (fun K hK => ?_) AllReadyH.nil
  go_simp
  refine hK.out _ _ ((((Below.refl _ w).alloc (Nat.le_refl _) _).alloc (by simp) _).drew) (fun hHeld3 => ?_)
  clear hK K
  refine wpAnyH_take (i := 11) (v := .pointer (some ⟨w.heap.size + 1, 0, none⟩)) rfl (by kernel_rfl) (by kernel_rfl) (by kernel_rfl) (fun _ _ _ h => h) (Or.inl ⟨by rfl, fun W hW => by go_simp⟩) hHeld3 ?_
  refine wpAnyH_done (by kernel_rfl) ?_ _
  clear hHeld hHeld2 hHeld3
  generalize hWW : ((w.alloc (Obj.map #[] 0)).alloc (Obj.cells Y 40)).drew = W
  have hW : ∀ W, W = ((w.alloc (Obj.map #[] 0)).alloc (Obj.cells Y 40)).drew → W.heap[w.heap.size + 1]? = some (.cells Y 40 (0, 0)) ∧ PMap W w.heap.size 0 (fun _ => none) ∧ W.heap.size = w.heap.size + 2 ∧ Below w.heap.size w W := by
    rintro W rfl
    refine ⟨?_, ?_, by simp, (((Below.refl _ w).alloc (Nat.le_refl _) _).alloc (by simp) _).drew⟩
    · exact heap_alloc2_new w (Obj.map #[] 0) (Obj.cells Y 40)
    · exact (pmap_made w).block (Below.heap_alloc _ _ _ (by simp))
  obtain ⟨g1, g2, g3, g4⟩ := hW W hWW.symm
  clear hW
  have hY0 : ∀ i v, (([Value.pointer none, .pointer (some ⟨s, 1, none⟩)] ++ X ++ [Value.map (some w.heap.size)])[i]? = some v) → W.cell? ⟨w.heap.size + 1, i, none⟩ = some v := fun i v hi => by
    rw [Lib.cell_of_heap g1, HYE.out, List.getElem?_toArray]; exact hi
  have hXl : X.length = 81 := by rw [HXE.out, Hd.cells_length HK.out]
  have hA : ActAt (W.setCell ⟨w.heap.size + 1, 0, none⟩ (.pointer (some ⟨w.heap.size + 1, 0, none⟩))) (w.heap.size + 1) s h (.map (some w.heap.size)) := by
    have ht : Touch (w.heap.size + 1) 0 1 W (W.setCell ⟨w.heap.size + 1, 0, none⟩ (.pointer (some ⟨w.heap.size + 1, 0, none⟩))) := Touch.setCell W _ (by omega) (by omega)
    refine ⟨World.cell?_setCell_same _ _ _ (hY0 0 _ rfl), (ht.out 1 (by omega)).trans (hY0 1 _ rfl), fun j v hj => ?_, (ht.out 83 (by omega)).trans (hY0 83 _ ?_), fun j => (ht.froz j).trans (Lib.frozen_of_heap g1 _)⟩
    · rw [ht.out (2 + j) (by omega)]
      rw [← HXE.out] at hj
      have hjl := (List.getElem?_eq_some_iff.1 hj).1
      refine hY0 (2 + j) v ?_
      rw [List.append_assoc, List.getElem?_append_right (by simp), List.getElem?_append_left (by simp; omega)]
      simpa using hj
    · rw [List.getElem?_append_right (by simp [hXl])]; simp [hXl]
  have hS : SpaceAt (W.setCell ⟨w.heap.size + 1, 0, none⟩ (.pointer (some ⟨w.heap.size + 1, 0, none⟩))) s d l p h none := (HX.out.below g4).block (Below.heap_setCell _ _ _ _ (by simp; omega))
  have hE : BeginPost s d l p h w (.returned (.tuple #[.pointer (some ⟨w.heap.size + 1, 0, none⟩), .int .i64 0])) ((W.setCell ⟨w.heap.size + 1, 0, none⟩ (.pointer (some ⟨w.heap.size + 1, 0, none⟩))).setCell ⟨s, 85, none⟩ (.pointer (some ⟨w.heap.size + 1, 0, none⟩))) := by
    refine ⟨w.heap.size + 1, w.heap.size, rfl, hA.block (Below.heap_setCell _ _ _ _ (by simp; omega)), (g2.block (Below.heap_setCell _ _ _ _ (by simp))).block (Below.heap_setCell _ _ _ _ (by simp; omega)), hS.setCur HK.out (some (w.heap.size + 1)), by omega, by omega, by omega, ?_⟩
    refine ((Kept.ofBelow g4).trans (Kept.setCell (fun k => w.heap.size ≤ k) W (b := w.heap.size + 1) (by show w.heap.size ≤ w.heap.size + 1; omega) _) (fun i hi => .inr hi)).trans (Kept.setCell (fun k => k = s) _ (b := s) rfl _) (fun i hi => .inl hi)
  have HE := Lib.hid hE; clear hE
  have c0 := hY0 0 _ rfl
  have f0 : W.frozen? ⟨w.heap.size + 1, 0, none⟩ = false := Lib.frozen_of_heap g1 _
  have c1 : W.cell? ⟨s, 85, none⟩ = some (.pointer none) := (HX.out.below g4).cur_
  have f1 : W.frozen? ⟨s, 85, none⟩ = false := (HX.out.below g4).froz _
  have hsz : s < W.heap.size := by omega
  have hne : s ≠ w.heap.size + 1 := by omega
  clear hWW g1 g2 g3 g4 hY0 hXl hA hS hmm
  go_wp2
  go_ret2
  exact HE.out
end Go.Proofs.YtefddiikdamnbaaGreatDoor
