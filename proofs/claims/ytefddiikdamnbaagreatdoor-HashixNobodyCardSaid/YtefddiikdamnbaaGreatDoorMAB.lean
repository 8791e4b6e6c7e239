/- Texts of the same proof, one behind the other: KF, KG, KH, LA, LB, KI, PA, PB, FC. -/
import Derived.Test.YtefddiikdamnbaaGreatDoorMAA
import Derived.Laws.IdiomStrings
import Derived.Laws.BitsAllLaws
import Derived.Deep.QuietTactic
import Derived.BigQuiet
import Derived.IntWalk
import Derived.Maps.RangeWalk
import Derived.Maps.Views
import Derived.Deep.MidRow
import Derived.Lib.AppendStr
/- The contracts of a disk's Write, Trim, Size, Writes, Read: for every disk that New or Cut gave and every argument, and for what is no disk. -/
set_option maxRecDepth 100000
namespace Go.Proofs.YtefddiikdamnbaaGreatDoor
open Go.RowKit

def NoDisk (p : Value) (w : World) : Prop := Calls Tryz.prog 156 #[p] w fun e w' => e = .returned (.bool false) ∧ w' = w

set_option maxHeartbeats 1000000 in
theorem write_ok (f at' : Nat) (s : ByteArray) (S : Nat → Prop) (d : Nat) (ops : List RawOp) (w : World) (h : DiskAt S d ops w) (hlen : ops.length ≤ 4398046511104) (hs : s.size ≤ 9223372036854775807) (hf : f < 4) (hat : at' + s.size ≤ 4194304) :
    Calls Tryz.prog 118 #[.pointer (some ⟨d, 0, none⟩), .int .i64 f, .int .i64 at', .string s] w fun e w' => e = .returned (.int .i64 0) ∧ DiskAt (More S w.heap.size) d (ops ++ [.put f at' s]) w' ∧ Kept S w w' := by
  have hself := h.self
  have h1 : (f : Int) < 4 := by omega
  have h2 : ¬ ((at' : Int) < 0) := by omega
  have h3 : ¬ ((4194304 : Int) - s.size < at') := by omega
  have hD : decide (0 ≤ (f : Int) ∧ (f : Int) < 4) = true := by simp; omega
  have HH := Lib.hid h; clear h
  go_enter Tryz.func118, Tryz.ntmps118
  go_wp2_with (first
    | (go_at_call 156; refine (given_self d _ hself).mono ?_; rintro e w' ⟨rfl, hw⟩; subst w')
    | (go_at_call 157; refine (isFile_any _ _).mono ?_; rintro e w' ⟨rfl, hw⟩; subst w'; rw [hD])
    | (go_at_call 174; refine (clone_any s _ (by omega)).mono ?_))
  rintro e w1 ⟨rfl, hb1⟩
  have hd1 := HH.out.below hb1
  have HD1 := Lib.hid hd1; clear hd1
  go_wp2_with (go_at_call 173; refine (do_any (.put f at' s) S d ops _ HD1.out ⟨hf, hat⟩ hlen).mono ?_)
  rintro e w2 ⟨rfl, hd2, hk2⟩
  have HD2 := Lib.hid hd2; clear hd2
  have HK2 := Lib.hid hk2; clear hk2
  go_wp2
  go_ret
  have hsz := hb1.size
  exact ⟨rfl, HD2.out.mono (fun i hi => hi.imp id (fun h => by omega)), (Kept.ofBelow hb1).trans HK2.out (fun _ hi => .inl hi)⟩

end Go.Proofs.YtefddiikdamnbaaGreatDoor

/- More contracts of a disk: Trim that is refused, Size, Writes, Read; and all of what is no disk. -/
set_option maxRecDepth 100000
namespace Go.Proofs.YtefddiikdamnbaaGreatDoor
open Go.RowKit

set_option maxHeartbeats 1000000 in
theorem trim_no (f n : Int) (S : Nat → Prop) (d : Nat) (ops : List RawOp) (w : World) (h : DiskAt S d ops w) (hn : ¬ (0 ≤ f ∧ f < 4 ∧ 0 ≤ n ∧ n ≤ (play ops f.toNat).length)) :
    Calls Tryz.prog 176 #[.pointer (some ⟨d, 0, none⟩), .int .i64 f, .int .i64 n] w fun e w' => e = .returned (.int .i64 1) ∧ w' = w := by
  have hself := h.self
  by_cases hf : 0 ≤ f ∧ f < 4
  · obtain ⟨j, rfl⟩ : ∃ j : Nat, f = (j : Int) := ⟨f.toNat, by omega⟩
    obtain ⟨vs, hv⟩ := h.2
    obtain ⟨ao, ll, cap, hvs, hll, _, _, _⟩ := (hv.file j (by omega)).shape
    have hcf : w.cell? ⟨d, 1 + j, none⟩ = some (.slice ao ll cap) := by rw [← hvs]; exact hv.cellV (by omega)
    have hD : decide (0 ≤ (j : Int) ∧ (j : Int) < 4) = true := by simp; omega
    have h1 : (j : Int) < 4 := by omega
    simp only [Int.toNat_natCast, ← hll] at hn
    clear hvs hv h hll
    by_cases h0 : n < 0
    · clear hn
      go_enter Tryz.func176, Tryz.ntmps176
      go_wp2_with (first
        | (go_at_call 156; refine (given_self d _ hself).mono ?_; rintro e w' ⟨rfl, hw⟩; subst w')
        | (go_at_call 157; refine (isFile_any _ _).mono ?_; rintro e w' ⟨rfl, hw⟩; subst w'; rw [hD]))
      all_goals
        go_ret
        exact ⟨rfl, rfl⟩
    · have h2 : (ll : Int) < n := by omega
      clear hn
      go_enter Tryz.func176, Tryz.ntmps176
      go_wp2_with (first
        | (go_at_call 156; refine (given_self d _ hself).mono ?_; rintro e w' ⟨rfl, hw⟩; subst w')
        | (go_at_call 157; refine (isFile_any _ _).mono ?_; rintro e w' ⟨rfl, hw⟩; subst w'; rw [hD]))
      all_goals
        go_ret
        exact ⟨rfl, rfl⟩
  · have hD : decide (0 ≤ f ∧ f < 4) = false := decide_eq_false hf
    clear hn hf h
    go_enter Tryz.func176, Tryz.ntmps176
    go_wp2_with (first
      | (go_at_call 156; refine (given_self d _ hself).mono ?_; rintro e w' ⟨rfl, hw⟩; subst w')
      | (go_at_call 157; refine (isFile_any _ _).mono ?_; rintro e w' ⟨rfl, hw⟩; subst w'; rw [hD]))
    all_goals
      go_ret
      exact ⟨rfl, rfl⟩

set_option maxHeartbeats 400000 in
theorem read_nobody (p : Value) (f a n : Int) (w : World) (hp : NoDisk p w) :
    Calls Tryz.prog 100 #[p, .int .i64 f, .int .i64 a, .int .i64 n] w fun e w' => e = .returned (.tuple #[.string ⟨#[]⟩, .int .i64 1]) ∧ w' = w := by
  have HP := Lib.hid hp; clear hp
  go_enter Tryz.func100, Tryz.ntmps100
  go_wp2_with (go_at_call 156; refine Calls.mono (show Calls Tryz.prog 156 #[p] _ _ from HP.out) ?_; rintro e w' ⟨rfl, hw⟩; subst w')
  go_ret2
  exact ⟨rfl, rfl⟩

set_option maxHeartbeats 400000 in
theorem size_ok (f : Nat) (S : Nat → Prop) (d : Nat) (ops : List RawOp) (w : World) (h : DiskAt S d ops w) (hf : f < 4) :
    Calls Tryz.prog 101 #[.pointer (some ⟨d, 0, none⟩), .int .i64 f] w fun e w' => e = .returned (.int .i64 (play ops f).length) ∧ w' = w := by
  have hself := h.self
  obtain ⟨vs, hv⟩ := h.2
  obtain ⟨ao, ll, cap, hvs, hll, _, _, _⟩ := (hv.file f hf).shape
  have hcf : w.cell? ⟨d, 1 + f, none⟩ = some (.slice ao ll cap) := by rw [← hvs]; exact hv.cellV (by omega)
  have hD : decide (0 ≤ (f : Int) ∧ (f : Int) < 4) = true := by simp; omega
  have h1 : (f : Int) < 4 := by omega
  rw [← hll]
  clear hvs hv h hll
  go_enter Tryz.func101, Tryz.ntmps101
  go_wp2_with (first
    | (go_at_call 156; refine (given_self d _ hself).mono ?_; rintro e w' ⟨rfl, hw⟩; subst w')
    | (go_at_call 157; refine (isFile_any _ _).mono ?_; rintro e w' ⟨rfl, hw⟩; subst w'; rw [hD]))
  go_ret
  exact ⟨rfl, rfl⟩

theorem convert_bytes (w : World) (v : Value) (l : List UInt8) (hB : Bytes w v l) (at' n : Nat) (hfit : at' + n ≤ l.length) (ax : Option Addr) (c : Nat) (hax : 0 < n → ∃ g, v.ownBlock = some g ∧ ax = some ⟨g, at', none⟩) :
    (convert 113 9 (.slice ax n c)).run Tryz.prog w = .ok (.string ⟨((l.drop at').take n).toArray⟩) w := by
  by_cases h0 : n = 0
  · subst h0
    rw [List.take_zero]
    cases ax with
    | none =>
      rw [run_convert_bytes_string w 113 9 5 none 0 c Tryz.underlying113 Tryz.underlying5 Tryz.underlying9]
      simp [Conv.bytesToString]
      rfl
    | some a =>
      exact run_convert_bytes_back w 113 9 5 a c [] Tryz.underlying113 Tryz.underlying5 Tryz.underlying9 (fun j hj => by simp at hj)
  · obtain ⟨g, hg, rfl⟩ := hax (by omega)
    rcases hB.2 with ⟨rfl, _⟩ | ⟨g', cap, cur, rfl, _, hgb, hnc, hcm, hcs, ht⟩
    · simp [Value.ownBlock] at hg
    · obtain rfl : g' = g := by simpa [Value.ownBlock] using hg
      have hlen : ((l.drop at').take n).length = n := by rw [List.length_take, List.length_drop]; omega
      have := run_convert_bytes_back (P := Tryz.prog) w 113 9 5 ⟨g', at', none⟩ c ((l.drop at').take n) Tryz.underlying113 Tryz.underlying5 Tryz.underlying9 ?_
      · rw [hlen] at this; exact this
      · intro j hj
        rw [hlen] at hj
        have hx := World.ownsRow.cells (w := w) hB (g := g') rfl (at' + j) (.int .u8 ((l[at' + j]'(by omega)).toNat : Int)) (by simp only [Lib.byteCells, List.getElem?_map]; rw [List.getElem?_eq_getElem (by omega)]; rfl)
        have e1 : (⟨g', at', none⟩ : Addr).add j = (⟨g', 0, none⟩ : Addr).add (at' + j) := by
          simp only [Addr.add]
          split <;> split <;> simp_all
        rw [e1, hx]
        simp

set_option maxHeartbeats 1000000 in
theorem read_ok (f at' n : Nat) (S : Nat → Prop) (d : Nat) (ops : List RawOp) (w : World) (h : DiskAt S d ops w) (hf : f < 4) (hn : at' + n ≤ (play ops f).length) :
    Calls Tryz.prog 100 #[.pointer (some ⟨d, 0, none⟩), .int .i64 f, .int .i64 at', .int .i64 n] w fun e w' => e = .returned (.tuple #[.string ⟨(((play ops f).drop at').take n).toArray⟩, .int .i64 0]) ∧ w' = w := by
  have hself := h.self
  have hmax := play_length h.1 f
  obtain ⟨vs, hv⟩ := h.2
  have hB := hv.file f hf
  obtain ⟨ao, ll, cap, hvs, hll, hcap, hao, hno⟩ := hB.shape
  have hcf : w.cell? ⟨d, 1 + f, none⟩ = some (.slice ao ll cap) := by rw [← hvs]; exact hv.cellV (by omega)
  rw [hvs] at hao hB
  rw [← hll] at hmax
  have hn' : at' + n ≤ ll := by omega
  have hD : decide (0 ≤ (f : Int) ∧ (f : Int) < 4) = true := by simp; omega
  have h1 : (f : Int) < 4 := by omega
  have h2 : ¬ ((at' : Int) < 0) := by omega
  have h3 : ¬ ((n : Int) < 0) := by omega
  have h4 : ¬ ((ll : Int) - n < at') := by omega
  have h5 : at' ≤ at' + n := by omega
  have h6 : at' + n ≤ cap := by omega
  have h7 : at' + n - at' = n := by omega
  obtain ⟨ax, hax⟩ : ∃ ax, (if cap = at' then ao else Option.map (fun x => x.add at') ao) = ax := ⟨_, rfl⟩
  have hdp : 0 < n → ∃ g, (Value.slice ao ll cap).ownBlock = some g ∧ ax = some ⟨g, at', none⟩ := by
    intro h0
    rw [← hax]
    cases ao with
    | none => have := hno rfl; omega
    | some a =>
      obtain ⟨h1, h2, h3⟩ := hao a rfl
      refine ⟨_, h3, ?_⟩
      rw [if_neg (by omega)]
      cases a with
      | mk b o sp => simp at h1 h2; subst h1 h2; simp [Addr.add, eq_comm]
  have hcv := convert_bytes w (.slice ao ll cap) (play ops f) hB at' n hn ax (cap - at') hdp
  obtain ⟨T, hT⟩ : ∃ T, ((List.drop at' (play ops f)).take n).toArray = T := ⟨_, rfl⟩
  rw [hT] at hcv ⊢
  clear hdp hB hao hno hvs hv hll hn hT h
  go_enter Tryz.func100, Tryz.ntmps100
  go_wp2_with (first
    | (go_at_call 156; refine (given_self d _ hself).mono ?_; rintro e w' ⟨rfl, hw⟩; subst w')
    | (go_at_call 157; refine (isFile_any _ _).mono ?_; rintro e w' ⟨rfl, hw⟩; subst w'; rw [hD]))
  go_ret2
  exact ⟨rfl, rfl⟩

set_option maxHeartbeats 1000000 in
theorem read_no (f a n : Int) (S : Nat → Prop) (d : Nat) (ops : List RawOp) (w : World) (h : DiskAt S d ops w) (hn63 : n ≤ 9223372036854775807) (hn : ¬ (0 ≤ f ∧ f < 4 ∧ 0 ≤ a ∧ 0 ≤ n ∧ a + n ≤ (play ops f.toNat).length)) :
    Calls Tryz.prog 100 #[.pointer (some ⟨d, 0, none⟩), .int .i64 f, .int .i64 a, .int .i64 n] w fun e w' => e = .returned (.tuple #[.string ⟨#[]⟩, .int .i64 1]) ∧ w' = w := by
  have hself := h.self
  by_cases hf : 0 ≤ f ∧ f < 4
  · obtain ⟨j, rfl⟩ : ∃ j : Nat, f = (j : Int) := ⟨f.toNat, by omega⟩
    have hmax := play_length h.1 j
    obtain ⟨vs, hv⟩ := h.2
    obtain ⟨ao, ll, cap, hvs, hll, _, _, _⟩ := (hv.file j (by omega)).shape
    have hcf : w.cell? ⟨d, 1 + j, none⟩ = some (.slice ao ll cap) := by rw [← hvs]; exact hv.cellV (by omega)
    have hD : decide (0 ≤ (j : Int) ∧ (j : Int) < 4) = true := by simp; omega
    have h1 : (j : Int) < 4 := by omega
    simp only [Int.toNat_natCast, ← hll] at hn hmax
    clear hvs hv h hll
    by_cases ha : a < 0
    · clear hn
      go_enter Tryz.func100, Tryz.ntmps100
      go_wp2_with (first
        | (go_at_call 156; refine (given_self d _ hself).mono ?_; rintro e w' ⟨rfl, hw⟩; subst w')
        | (go_at_call 157; refine (isFile_any _ _).mono ?_; rintro e w' ⟨rfl, hw⟩; subst w'; rw [hD]))
      all_goals
        go_ret2
        exact ⟨rfl, rfl⟩
  
    by_cases h0 : n < 0
    · clear hn
      go_enter Tryz.func100, Tryz.ntmps100
      go_wp2_with (first
        | (go_at_call 156; refine (given_self d _ hself).mono ?_; rintro e w' ⟨rfl, hw⟩; subst w')
        | (go_at_call 157; refine (isFile_any _ _).mono ?_; rintro e w' ⟨rfl, hw⟩; subst w'; rw [hD]))
      all_goals
        go_ret2
        exact ⟨rfl, rfl⟩
  
    · have h2 : (ll : Int) - n < a := by omega
      have h3 : (0 : Int) ≤ n := by omega
      clear hn
      go_enter Tryz.func100, Tryz.ntmps100
      go_wp2_with (first
        | (go_at_call 156; refine (given_self d _ hself).mono ?_; rintro e w' ⟨rfl, hw⟩; subst w')
        | (go_at_call 157; refine (isFile_any _ _).mono ?_; rintro e w' ⟨rfl, hw⟩; subst w'; rw [hD]))
      all_goals
        go_ret2
        exact ⟨rfl, rfl⟩
  
  · have hD : decide (0 ≤ f ∧ f < 4) = false := decide_eq_false hf
    clear hn hf h
    go_enter Tryz.func100, Tryz.ntmps100
    go_wp2_with (first
      | (go_at_call 156; refine (given_self d _ hself).mono ?_; rintro e w' ⟨rfl, hw⟩; subst w')
      | (go_at_call 157; refine (isFile_any _ _).mono ?_; rintro e w' ⟨rfl, hw⟩; subst w'; rw [hD]))
    all_goals
      go_ret2
      exact ⟨rfl, rfl⟩

end Go.Proofs.YtefddiikdamnbaaGreatDoor

/- The contract of a disk's Cut: for every disk that New or Cut gave, every number. -/
set_option maxRecDepth 100000
namespace Go.Proofs.YtefddiikdamnbaaGreatDoor
open Go.RowKit

/-- All blocks from n on. -/
def From (n : Nat) : Nat → Prop := fun k => n ≤ k

end Go.Proofs.YtefddiikdamnbaaGreatDoor

/- Records as they stand in a log's file, in plain words. No program's function is met here. -/
set_option maxRecDepth 100000
namespace Go.Proofs.YtefddiikdamnbaaGreatDoor
open Go.RowKit

/-- A number as a word, the highest byte first. -/
def w4 (n : Nat) : List UInt8 := [UInt8.ofNat (n / 16777216), UInt8.ofNat (n / 65536), UInt8.ofNat (n / 256), UInt8.ofNat n]
/-- The number that bytes tell, the highest first. -/
def v4 (l : List UInt8) : Nat := l.foldl (fun u c => u * 256 + c.toNat) 0
theorem v4_snoc (l : List UInt8) (c : UInt8) : v4 (l ++ [c]) = v4 l * 256 + c.toNat := by simp [v4]
theorem w4_length (n : Nat) : (w4 n).length = 4 := rfl
theorem v4_w4 (n : Nat) (h : n < 4294967296) : v4 (w4 n) = n := by
  simp only [v4, w4, List.foldl_cons, List.foldl_nil, UInt8.toNat_ofNat']
  omega
theorem v4_lt (l : List UInt8) : ∀ k, l.length ≤ k → v4 l < 256 ^ k := by
  have H : ∀ (l : List UInt8) u k, u < 256 ^ k → l.foldl (fun u c => u * 256 + c.toNat) u < 256 ^ (k + l.length) := by
    intro l
    induction l with
    | nil => intro u k h; simpa using h
    | cons c l ih =>
      intro u k h
      have hc := c.toNat_lt
      have := ih (u * 256 + c.toNat) (k + 1) (by rw [Nat.pow_succ]; omega)
      rw [List.foldl_cons, List.length_cons, show k + (l.length + 1) = k + 1 + l.length by omega]
      exact this
  intro k hk
  have := H l 0 0 (by decide)
  rw [Nat.zero_add] at this
  exact Nat.lt_of_lt_of_le this (Nat.pow_le_pow_right (by decide) hk)

/-- A record as it stands in the file. -/
def frm (r : ByteArray) (k : Nat) : List UInt8 := w4 r.size ++ r.data.toList ++ w4 k
theorem frm_length (r : ByteArray) (k : Nat) : (frm r k).length = r.size + 8 := by
  have : r.data.toList.length = r.size := rfl
  simp only [frm, List.length_append, w4_length, this]
  omega
/-- Records, the first of them numbered k. -/
def logG : Nat → List ByteArray → List UInt8
  | _, [] => []
  | k, r :: rs => frm r k ++ logG (k + 1) rs
/-- What file 0 holds. -/
def logB (rs : List ByteArray) : List UInt8 := logG 1 rs
/-- Records that may be. -/
def Recs (rs : List ByteArray) : Prop := ∀ r ∈ rs, 1 ≤ r.size ∧ r.size ≤ 1048576
theorem Recs.take {rs : List ByteArray} (h : Recs rs) (n : Nat) : Recs (rs.take n) := fun r hr => h r (List.mem_of_mem_take hr)
theorem logG_length : ∀ (rs : List ByteArray) (k : Nat), Recs rs → 9 * rs.length ≤ (logG k rs).length
  | [], _, _ => by simp
  | r :: rs, k, h => by
    have h1 := logG_length rs (k + 1) (fun x hx => h x (by simp [hx]))
    have h2 := (h r (by simp)).1
    simp only [logG, List.length_append, frm_length, List.length_cons]
    omega
theorem logB_length {rs : List ByteArray} (h : Recs rs) : 9 * rs.length ≤ (logB rs).length := logG_length rs 1 h

/-- The first record of a file's bytes, and what stands behind it. -/
def cutF (l : List UInt8) : Option (List UInt8 × List UInt8) :=
  if l.length < 8 then none else if l.length - 8 < v4 (l.take 4) then none else some ((l.drop 4).take (v4 (l.take 4)), l.drop (v4 (l.take 4) + 8))
theorem cutF_frm {r : ByteArray} {k : Nat} {rest : List UInt8} (h : r.size ≤ 1048576) : cutF (frm r k ++ rest) = some (r.data.toList, rest) := by
  have hl : r.data.toList.length = r.size := rfl
  have e1 : (frm r k ++ rest).take 4 = w4 r.size := by
    simp only [frm, List.append_assoc]
    exact List.take_left' (w4_length _)
  have e2 : (frm r k ++ rest).drop 4 = r.data.toList ++ (w4 k ++ rest) := by
    simp only [frm, List.append_assoc]
    exact List.drop_left' (w4_length _)
  have e3 : (frm r k ++ rest).drop (r.size + 8) = rest := List.drop_left' (frm_length r k)
  have e4 : (frm r k ++ rest).length = r.size + 8 + rest.length := by rw [List.length_append, frm_length]
  unfold cutF
  rw [e1, e2, v4_w4 _ (by omega), e3, if_neg (by omega), if_neg (by omega), List.take_left' hl]
theorem cutF_length {l a b : List UInt8} (h : cutF l = some (a, b)) : b.length < l.length ∧ a.length = v4 (l.take 4) ∧ a.length + 8 ≤ l.length := by
  unfold cutF at h
  split at h
  · cases h
  · split at h
    · cases h
    · rename_i h1 h2
      injection h with h
      injection h with h3 h4
      subst h3; subst h4
      simp only [List.length_drop, List.length_take]
      omega

end Go.Proofs.YtefddiikdamnbaaGreatDoor

/- The contracts of a log's wordOf, word, framed: for every argument. -/
set_option maxRecDepth 100000
namespace Go.Proofs.YtefddiikdamnbaaGreatDoor
open Go.RowKit

/-- A slice's cells, read as bytes. -/
def ReadsB (w : World) (a : Option Addr) (l : List UInt8) : Prop :=
  l = [] ∨ ∃ b off, a = some ⟨b, off, none⟩ ∧ b < w.heap.size ∧ ∀ j (h : j < l.length), w.cell? ⟨b, off + j, none⟩ = some (.int .u8 (l[j].toNat : Int))

theorem ReadsB.at {w : World} {a : Option Addr} {l : List UInt8} (h : ReadsB w a l) (hl : 0 < l.length) : ∃ b off, a = some ⟨b, off, none⟩ ∧ b < w.heap.size ∧ ∀ j (h : j < l.length), w.cell? ⟨b, off + j, none⟩ = some (.int .u8 (l[j].toNat : Int)) := by
  rcases h with rfl | h
  · simp at hl
  · exact h
theorem ReadsB.below {w w' : World} {a : Option Addr} {l : List UInt8} (h : ReadsB w a l) (hb : Below w.heap.size w w') : ReadsB w' a l := by
  rcases h with h | ⟨b, off, h1, h2, h3⟩
  · exact .inl h
  · exact .inr ⟨b, off, h1, Nat.lt_of_lt_of_le h2 hb.size, fun j hj => (hb.cell (p := ⟨b, off + j, none⟩) h2).trans (h3 j hj)⟩

theorem or_i64 (N : Nat) (b : Nat) (hN : N < 36028797018963968) (hb : b < 256) : bits BinOp.or IntKind.i64 ((N : Int) * 256) (b : Int) = ((N * 256 + b : Nat) : Int) := by
  have h1 : (BitVec.ofInt 64 ((N : Int) * 256)).toNat = N * 256 := by rw [BitVec.toNat_ofInt]; omega
  have h2 : (BitVec.ofInt 64 (b : Int)).toNat = b := by rw [BitVec.toNat_ofInt]; omega
  show IntKind.i64.wrap ((BitVec.ofInt 64 ((N : Int) * 256) ||| BitVec.ofInt 64 (b : Int)).toNat : Int) = _
  rw [BitVec.toNat_or, h1, h2, nat_join 8 (N * 256) b (by omega) hb, IntKind.wrap_i64]
  omega

set_option maxHeartbeats 1600000 in
theorem wordOf_any (a : Option Addr) (l : List UInt8) (c : Nat) (w : World) (hl : l.length ≤ 6) (hR : ReadsB w a l) :
    Calls Tryz.prog 213 #[.slice a l.length c] w fun e w' => e = .returned (.int .i64 (v4 l)) ∧ w' = w := by
  have HR := Lib.hid hR; clear hR
  go_enter Tryz.func213, Tryz.ntmps213
  go_wp2
  go_loop [3, 5, 8] (fun n _ i => ∃ k : Nat, k ≤ l.length ∧ i = .int .i64 k ∧ n = .int .i64 (v4 (l.take k))) (fun _ _ i => l.length - (intOf i).toNat)
  case atStart => exact ⟨0, by omega, rfl, rfl⟩
  case round =>
    obtain ⟨k, hk, rfl, rfl⟩ := hrel
    by_cases hlt : k < l.length
    · obtain ⟨b, off, rfl, _, hc⟩ := HR.out.at (by omega)
      have hck := hc k hlt
      clear hc
      have hN : v4 (l.take k) < 36028797018963968 := by
        refine Nat.lt_of_lt_of_le (v4_lt _ 6 ?_) (by decide)
        have := List.length_take_le k l
        omega
      have hcb := l[k].toNat_lt
      have hor := or_i64 (v4 (l.take k)) l[k].toNat hN hcb
      have HS : Hid (v4 (l.take (k + 1)) = v4 (l.take k) * 256 + l[k].toNat) := Lib.hid (by rw [List.take_succ_eq_append_getElem hlt, v4_snoc])
      have HOR := Lib.hid hor; clear hor
      go_wp2_with fail
      go_round
      case rel => exact ⟨k + 1, by omega, by go_num, by rw [HS.out, HOR.out]⟩
      case measure => simp [intOf]; omega
    · obtain rfl : k = l.length := by omega
      go_wp2
      go_ret
      exact ⟨rfl, rfl⟩

end Go.Proofs.YtefddiikdamnbaaGreatDoor

/- A disk's blocks are bounded; a new disk; an append, and where the new row lies. -/
set_option maxRecDepth 100000
namespace Go.Proofs.YtefddiikdamnbaaGreatDoor
open Go.RowKit

theorem DiskAt.bound {S : Nat → Prop} {d : Nat} {ops : List RawOp} {w : World} (h : DiskAt S d ops w) : DiskAt (fun k => S k ∧ k < w.heap.size) d ops w := by
  obtain ⟨hok, vs, h⟩ := h
  exact ⟨hok, vs, ⟨⟨h.own, h.lt⟩, h.blk, h.file, h.done, fun i k hi hk => ⟨⟨(h.foot i k hi hk).1, h.ltV i k hi hk⟩, (h.foot i k hi hk).2⟩, h.inj⟩⟩
theorem new_disk (w : World) :
    Calls Tryz.prog 11 #[] w fun e w' => e = .returned (.pointer (some ⟨w.heap.size, 0, none⟩)) ∧ DiskAt (From w.heap.size) w.heap.size [] w' ∧ Below w.heap.size w w' := by
  refine (new_any w).mono ?_
  rintro e w' ⟨rfl, rfl⟩
  exact ⟨rfl, ⟨okAll_nil, _, disk_new _ w (Nat.le_refl _)⟩, (Below.refl _ _).alloc (Nat.le_refl _) _⟩

end Go.Proofs.YtefddiikdamnbaaGreatDoor

/- A map from ints to pointers (or whatever values), said by what it has at each int. No program's function is met here. -/
set_option maxRecDepth 100000
namespace Go.Proofs.YtefddiikdamnbaaGreatDoor
open Go.RowKit Go.Maps

/-- An element reads as itself. -/
def asIs : Value → Option (DataW Value × List MemPlace) := fun v => some (.held v, [])

theorem keyI : Keyed Tryz.prog 3 := int_keyed Tryz.underlying3
theorem isKeyI (q : Int) : WideAt.IsKeyLit (.int .i64 q) := trivial

def updI {α : Type} (F : Int → α) (q : Int) (x : α) : Int → α := fun i => if i = q then x else F i
theorem updI_same {α : Type} (F : Int → α) (q : Int) (x : α) : updI F q x q = x := by simp [updI]
theorem updI_other {α : Type} (F : Int → α) {q i : Int} (x : α) (h : i ≠ q) : updI F q x i = F i := by simp [updI, h]

/-- Block b is a map of m entries, that has at each int what F says. -/
def PMap (w : World) (b m : Nat) (F : Int → Option Value) : Prop :=
  ∃ D : DataW Value, w.ownsMap Tryz.prog 3 asIs b m D ∧ Maps.size D = m ∧ ∀ q : Int, (Lit.int .i64 q).wf = true →
    (F q = none ∧ Maps.has D (.int .i64 q) = false ∨ ∃ v, F q = some v ∧ Maps.has D (.int .i64 q) = true ∧ ∀ z, D.atKey (.int .i64 q) z = .held v)

theorem own_size {w : World} {b n : Nat} {D : DataW Value} (h : w.ownsMap Tryz.prog 3 asIs b n D) : w.ownsMap Tryz.prog 3 asIs b (Maps.size D) D := by
  obtain ⟨es, clock, hb, F, hs, rfl⟩ := h
  exact ⟨es, clock, hb, F, by simp [Maps.size, length_sorted], rfl⟩

theorem PMap.lt {w : World} {b m : Nat} {F : Int → Option Value} (h : PMap w b m F) : b < w.heap.size := h.elim fun _ h => h.1.lt
theorem PMap.block {w w' : World} {b m : Nat} {F : Int → Option Value} (h : PMap w b m F) (hb : w'.heap[b]? = w.heap[b]?) : PMap w' b m F := by
  obtain ⟨D, ⟨es, clock, h1, h2⟩, h3⟩ := h
  exact ⟨D, ⟨es, clock, hb.trans h1, h2⟩, h3⟩

theorem pmap_made (w : World) : PMap (w.alloc (.map #[] 0)) w.heap.size 0 (fun _ => none) :=
  ⟨.map [], World.ownsMap_made _ _ _ _, rfl, fun _ _ => .inl ⟨rfl, rfl⟩⟩

theorem PMap.look {w : World} {b m : Nat} {F : Int → Option Value} (h : PMap w b m F) {t e : TypeId} (ht : Tryz.prog.underlying t = some (.map 3 e)) (hz : (zeroValue e).run Tryz.prog w = .ok (.pointer none) w) (q : Int) (hq : (Lit.int .i64 q).wf = true) :
    (Instr.lookup t (.map (some b)) (.int .i64 q) false).run Tryz.prog w = .ok ((F q).getD (.pointer none)) w := by
  obtain ⟨D, h1, _, h3⟩ := h
  obtain ⟨v, ps, hr, hv⟩ := h1.lookup (zd := .held (.pointer none)) (zp := []) keyI ht hz rfl (keyOf_int_mk (P := Tryz.prog) Tryz.underlying3 hq)
  rw [hr]
  have hv' : DataW.held v = D.atKey (.int .i64 q) (.held (.pointer none)) := by
    simp only [asIs, Option.some.injEq, Prod.mk.injEq] at hv
    exact hv.1
  rcases h3 q hq with ⟨hF, hn⟩ | ⟨u, hF, _, hat⟩
  · rw [hF]
    rw [Maps.atKey_of_not_has hn] at hv'
    injection hv' with hv'
    rw [hv']; rfl
  · rw [hF]
    rw [hat] at hv'
    injection hv' with hv'
    rw [hv']; rfl

theorem PMap.len {w : World} {b m : Nat} {F : Int → Option Value} (h : PMap w b m F) {t e : TypeId} (ht : Tryz.prog.underlying t = some (.map 3 e)) (ty : TypeId) :
    (Builtin.len_ #[t] ty #[.map (some b)]).run Tryz.prog w = .ok (.int .i64 m) w := by
  obtain ⟨D, h1, h2, _⟩ := h
  rw [h1.len ht, h2]

theorem PMap.put {w : World} {b m : Nat} {F : Int → Option Value} (h : PMap w b m F) {t e : TypeId} (ht : Tryz.prog.underlying t = some (.map 3 e)) (hm : m < maxLen) (q : Int) (hq : (Lit.int .i64 q).wf = true) (hF : F q = none) (v : Value) :
    ∃ w', (Instr.mapUpdate t (.map (some b)) (.int .i64 q) v).run Tryz.prog w = .ok () w' ∧ PMap w' b (m + 1) (updI F q (some v)) ∧ w.mapTurned w' b := by
  obtain ⟨D, h1, h2, h3⟩ := h
  obtain ⟨w', hr, ho, ht'⟩ := h1.store (d := .held v) (ps := []) keyI ht hm (keyOf_int_mk (P := Tryz.prog) Tryz.underlying3 hq) rfl
  have hn : Maps.has D (.int .i64 q) = false := by
    rcases h3 q hq with ⟨_, hn⟩ | ⟨u, hu, _⟩
    · exact hn
    · rw [hF] at hu; cases hu
  refine ⟨w', hr, ⟨_, ho, ?_, fun i hi => ?_⟩, ht'⟩
  · rw [Maps.size_put (h1.tidy keyI), hn, h2]; simp
  · by_cases hiq : i = q
    · subst hiq
      exact .inr ⟨v, updI_same _ _ _, Maps.has_put_same h1.isMap (isKeyI i) _, fun z => Maps.atKey_put_same h1.isMap (isKeyI i) _ z⟩
    · have hne : (Lit.int .i64 i) ≠ .int .i64 q := fun e => hiq (by injection e)
      rw [updI_other _ _ hiq, Maps.has_put_other hne]
      exact (h3 i hi).imp id (fun ⟨u, hu, h4, h5⟩ => ⟨u, hu, h4, fun z => by rw [Maps.atKey_put_other hne]; exact h5 z⟩)

theorem PMap.del {w : World} {b m : Nat} {F : Int → Option Value} (h : PMap w b (m + 1) F) {t e : TypeId} (ht : Tryz.prog.underlying t = some (.map 3 e)) (q : Int) (hq : (Lit.int .i64 q).wf = true) {v : Value} (hF : F q = some v) (ty : TypeId) :
    ∃ w', (Builtin.delete_ #[t, 3] ty #[.map (some b), .int .i64 q]).run Tryz.prog w = .ok (.tuple #[]) w' ∧ PMap w' b m (updI F q none) ∧ w.mapTurned w' b := by
  obtain ⟨D, h1, h2, h3⟩ := h
  obtain ⟨w', hr, ho, ht'⟩ := h1.drop keyI ht (keyOf_int_mk (P := Tryz.prog) Tryz.underlying3 hq) ty
  have hn : Maps.has D (.int .i64 q) = true := by
    rcases h3 q hq with ⟨hn, _⟩ | ⟨u, _, hn, _⟩
    · rw [hF] at hn; cases hn
    · exact hn
  have hsz : Maps.size (D.del (.int .i64 q)) = m := by
    have := Maps.size_del (k := .int .i64 q) (h1.tidy keyI)
    rw [hn, h2] at this
    simpa using this
  refine ⟨w', hr, ⟨_, by rw [← hsz]; exact own_size ho, hsz, fun i hi => ?_⟩, ht'⟩
  by_cases hiq : i = q
  · subst hiq
    exact .inl ⟨updI_same _ _ _, Maps.has_del_same⟩
  · have hne : (Lit.int .i64 i) ≠ .int .i64 q := fun e => hiq (by injection e)
    rw [updI_other _ _ hiq, Maps.has_del_other hne]
    exact (h3 i hi).imp id (fun ⟨u, hu, h4, h5⟩ => ⟨u, hu, h4, fun z => by rw [Maps.atKey_del_other hne]; exact h5 z⟩)

theorem Kept.ofTurned {S : Nat → Prop} {a b : World} {r : Nat} (h : a.mapTurned b r) (hr : S r) : Kept S a b := Kept.ofGrown h.grown (fun k hk => by injection hk with hk; exact hk ▸ hr)
end Go.Proofs.YtefddiikdamnbaaGreatDoor

/- A frame's cells within the block of all frames; a string laid over some of them. No program's function is met here. -/
set_option maxRecDepth 100000
namespace Go.Proofs.YtefddiikdamnbaaGreatDoor
open Go.RowKit

/-- Of block fb just the cells from o on, n of them, may have turned. -/
structure Touch (fb o n : Nat) (w w' : World) : Prop where
  out : ∀ j, (j < o ∨ o + n ≤ j) → w'.cell? ⟨fb, j, none⟩ = w.cell? ⟨fb, j, none⟩
  some_ : ∀ j, (w.cell? ⟨fb, j, none⟩).isSome = true → (w'.cell? ⟨fb, j, none⟩).isSome = true
  froz : ∀ j, w'.frozen? ⟨fb, j, none⟩ = w.frozen? ⟨fb, j, none⟩

theorem Touch.ofBlock {fb o n : Nat} {w w' : World} (h : w'.heap[fb]? = w.heap[fb]?) : Touch fb o n w w' :=
  ⟨fun _ _ => World.cell?_of_block h, fun _ hj => by rw [World.cell?_of_block h]; exact hj, fun _ => World.frozen?_of_block h⟩
theorem Touch.refl (fb o n : Nat) (w : World) : Touch fb o n w w := Touch.ofBlock rfl
theorem Touch.trans {fb o n : Nat} {a b c : World} (h : Touch fb o n a b) (k : Touch fb o n b c) : Touch fb o n a c :=
  ⟨fun j hj => (k.out j hj).trans (h.out j hj), fun j hj => k.some_ j (h.some_ j hj), fun j => (k.froz j).trans (h.froz j)⟩
theorem Touch.mono {fb o n o' n' : Nat} {a b : World} (h : Touch fb o' n' a b) (h1 : o ≤ o') (h2 : o' + n' ≤ o + n) : Touch fb o n a b :=
  ⟨fun j hj => h.out j (by omega), h.some_, h.froz⟩
theorem Touch.setCell {fb o n i : Nat} (w : World) (v : Value) (h1 : o ≤ i) (h2 : i < o + n) : Touch fb o n w (w.setCell ⟨fb, i, none⟩ v) :=
  ⟨fun j hj => World.cell?_setCell_other _ _ _ _ (fun e => by injection e with _ e _; omega), fun j hj => by
    obtain ⟨u, hu⟩ := Option.isSome_iff_exists.1 hj
    obtain ⟨v', hv'⟩ := cell?_setCell_some (w := w) (p := ⟨fb, i, none⟩) (x := v) (q := ⟨fb, j, none⟩) (v := u) hu
    rw [hv']; rfl, fun j => World.frozen?_setCell _ _ _ _⟩
theorem Touch.setCells {fb o n : Nat} (w : World) (o' : Nat) (vs : List Value) (h1 : o ≤ o') (h2 : o' + vs.length ≤ o + n) : Touch fb o n w (w.setCells fb o' vs) :=
  ⟨fun j hj => World.cell?_setCells_out fb vs o' w _ (fun _ _ => by show j < o' ∨ o' + vs.length ≤ j; omega), fun j hj => World.isSome_setCells fb vs o' w _ hj, fun j => World.frozen?_setCells fb vs o' w _⟩
theorem rangeAt_touch {fb o n o' : Nat} {w w' : World} {cs : List Value} (h : w.rangeAt fb o' cs) (ht : Touch fb o n w w') (hap : o' + cs.length ≤ o ∨ o + n ≤ o') : w'.rangeAt fb o' cs := fun j v hv => by
  have hj := (List.getElem?_eq_some_iff.1 hv).1
  rw [ht.out (o' + j) (by omega)]; exact h j v hv
theorem there_touch {fb o n o' m : Nat} {w w' : World} (h : w.there fb o' m) (ht : Touch fb o n w w') : w'.there fb o' m := fun j hj =>
  ⟨ht.some_ _ (h j hj).1, (ht.froz _).trans (h j hj).2⟩
theorem there_part {fb o m o' m' : Nat} {w : World} (h : w.there fb o m) (h1 : o ≤ o') (h2 : o' + m' ≤ o + m) : w.there fb o' m' := fun j hj => by
  have := h (o' - o + j) (by omega)
  rwa [show o + (o' - o + j) = o' + j by omega] at this

theorem heap_setCells (fb : Nat) : ∀ (vs : List Value) (o : Nat) (w : World), (w.setCells fb o vs).heap.size = w.heap.size ∧ (w.setCells fb o vs).os = w.os ∧ (w.setCells fb o vs).tape = w.tape ∧ (w.setCells fb o vs).output = w.output ∧ ∀ k, k ≠ fb → (w.setCells fb o vs).heap[k]? = w.heap[k]?
  | [], _, _ => ⟨rfl, rfl, rfl, rfl, fun _ _ => rfl⟩
  | v :: r, o, w => by
    obtain ⟨h1, h2, h3, h4, h5⟩ := heap_setCells fb r (o + 1) (w.setCell ⟨fb, o, none⟩ v)
    exact ⟨h1.trans (by simp [World.setCell]), h2, h3, h4, fun k hk => (h5 k hk).trans (Below.heap_setCell _ _ _ _ hk)⟩
theorem Kept.setCells (S : Nat → Prop) (w : World) {fb o : Nat} (hb : S fb) (vs : List Value) : Kept S w (w.setCells fb o vs) := by
  obtain ⟨h1, h2, h3, h4, h5⟩ := heap_setCells fb vs o w
  exact ⟨h2, h3, h4, by rw [h1]; exact Nat.le_refl _, fun k _ hk => h5 k (fun e => hk (e ▸ hb))⟩

/-- What a frame holds. -/
structure Fr where
  page : Nat
  pins : Nat
  lately : Bool
  changed : Bool
  bytes : List UInt8

def Fr.cells (f : Fr) : List Value := [.int .i64 f.page, .int .i64 f.pins, .bool f.lately, .bool f.changed] ++ Lib.byteCells f.bytes
theorem Fr.cells_length (f : Fr) : f.cells.length = 4 + f.bytes.length := by simp [Fr.cells, Lib.byteCells_length]; omega
theorem Fr.one (f : Fr) : ∀ v ∈ f.cells, v.oneCell' = true := by
  intro v hv
  simp only [Fr.cells, List.mem_append] at hv
  rcases hv with hv | hv
  · simp at hv; rcases hv with rfl | rfl | rfl | rfl <;> rfl
  · exact Lib.byteCells_one _ v hv
def zeroFr (q : Nat) : Fr := ⟨q, 0, false, false, List.replicate 512 0⟩

/-- A frame lies at o. -/
def FrAt (w : World) (fb o : Nat) (f : Fr) : Prop := w.rangeAt fb o f.cells
theorem FrAt.page {w : World} {fb o : Nat} {f : Fr} (h : FrAt w fb o f) : w.cell? ⟨fb, o, none⟩ = some (.int .i64 f.page) := h 0 _ rfl
theorem FrAt.pins {w : World} {fb o : Nat} {f : Fr} (h : FrAt w fb o f) : w.cell? ⟨fb, o + 1, none⟩ = some (.int .i64 f.pins) := h 1 _ rfl
theorem FrAt.lately {w : World} {fb o : Nat} {f : Fr} (h : FrAt w fb o f) : w.cell? ⟨fb, o + 2, none⟩ = some (.bool f.lately) := h 2 _ rfl
theorem FrAt.changed {w : World} {fb o : Nat} {f : Fr} (h : FrAt w fb o f) : w.cell? ⟨fb, o + 3, none⟩ = some (.bool f.changed) := h 3 _ rfl
theorem FrAt.bytes {w : World} {fb o : Nat} {f : Fr} (h : FrAt w fb o f) : w.rangeAt fb (o + 4) (Lib.byteCells f.bytes) := fun j v hv => by
  have := h (4 + j) v (by simp only [Fr.cells]; rw [List.getElem?_append_right (by simp)]; simpa using hv)
  rwa [show o + 4 + j = o + (4 + j) by omega]

/-- A frame's cells out of its four first ones and its bytes. -/
theorem FrAt.mk {w : World} {fb o : Nat} {f : Fr} (h0 : w.cell? ⟨fb, o, none⟩ = some (.int .i64 f.page)) (h1 : w.cell? ⟨fb, o + 1, none⟩ = some (.int .i64 f.pins)) (h2 : w.cell? ⟨fb, o + 2, none⟩ = some (.bool f.lately))
    (h3 : w.cell? ⟨fb, o + 3, none⟩ = some (.bool f.changed)) (h4 : w.rangeAt fb (o + 4) (Lib.byteCells f.bytes)) : FrAt w fb o f := fun j v hv => by
  by_cases hj : j < 4
  · have : j = 0 ∨ j = 1 ∨ j = 2 ∨ j = 3 := by omega
    rcases this with rfl | rfl | rfl | rfl <;> (simp [Fr.cells] at hv; subst hv)
    · exact h0
    · exact h1
    · exact h2
    · exact h3
  · obtain ⟨k, rfl⟩ : ∃ k, j = 4 + k := ⟨j - 4, by omega⟩
    rw [show o + (4 + k) = o + 4 + k by omega]
    refine h4 k v ?_
    simp only [Fr.cells] at hv
    rw [List.getElem?_append_right (by simp)] at hv
    simpa using hv

theorem add_lit' (b o j : Nat) : (⟨b, o, none⟩ : Addr).add j = ⟨b, o + j, none⟩ := Addr.add_mid b o j

/-- 'copy(dst, s)' from a string into cells that are there. -/
theorem run_copy_string_mid (w : World) (dT sT ty elem : TypeId) (b o dLen dCap : Nat) (s : ByteArray) (hu : Tryz.prog.underlying dT = some (.slice elem)) (hs : (Tryz.prog.info? elem).map (·.size) = some 1) (ht : w.there b o s.size) (hle : s.size ≤ dLen) :
    (Builtin.copy_ #[dT, sT] ty #[.slice (some ⟨b, o, none⟩) dLen dCap, .string s]).run Tryz.prog w = .ok (goInt s.size) (w.setCells b o (Lib.byteCells s.data.toList)) := by
  have hlen : (Lib.byteCells s.data.toList).length = s.size := by rw [Lib.byteCells_length, ← Lib.size_eq]
  have hst := run_storeCells_cells (P := Tryz.prog) b o (Lib.byteCells s.data.toList) 0 w (fun j hj => by rw [hlen] at hj; simpa using (ht j hj).1) (fun j hj => by rw [hlen] at hj; simpa using (ht j hj).2) (Lib.byteCells_one _)
  have hmin : Nat.min s.size dLen = s.size := Nat.min_eq_left hle
  have htk : List.take s.size (List.map (fun b : UInt8 => Value.int IntKind.u8 (b.toNat : Int)) s.data.toList) = Lib.byteCells s.data.toList := by
    rw [List.take_of_length_le (by rw [List.length_map, ← Lib.size_eq]; exact Nat.le_refl _)]
    rfl
  simp only [Nat.add_zero] at hst
  cases hq : Tryz.prog.info? elem with
  | none => simp [hq] at hs
  | some i =>
    simp [Builtin.copy_, run_underlying hu, Builtin.lenOf, Builtin.firstCells, sizeOf, typeInfo, hq, hmin]
    rw [htk, hst]
    simp [Result.andThen]

/-- 'string(b)' of bytes that lie in a row. -/
theorem run_string_mid (w : World) (b o c : Nat) (l : List UInt8) (h : w.rangeAt b o (Lib.byteCells l)) :
    (convert 113 9 (.slice (some ⟨b, o, none⟩) l.length c)).run Tryz.prog w = .ok (.string ⟨l.toArray⟩) w := by
  refine run_convert_bytes_back (P := Tryz.prog) w 113 9 5 ⟨b, o, none⟩ c l Tryz.underlying113 Tryz.underlying5 Tryz.underlying9 ?_
  intro j hj
  rw [add_lit', h j (.int .u8 (l[j].toNat : Int)) (by simp [Lib.byteCells, hj])]

theorem byteCells_drop (l : List UInt8) (n : Nat) : (Lib.byteCells l).drop n = Lib.byteCells (l.drop n) := by simp [Lib.byteCells, List.map_drop]

theorem splice_get (l : List UInt8) (a : Nat) (cs : List UInt8) (h : a + cs.length ≤ l.length) (j : Nat) : (splice l a cs)[j]? = if a ≤ j ∧ j < a + cs.length then cs[j - a]? else l[j]? := by
  have e : splice l a cs = l.take a ++ (cs ++ l.drop (a + cs.length)) := by simp [splice]
  have hl : (l.take a).length = a := by rw [List.length_take]; omega
  rw [e]
  by_cases h1 : j < a
  · rw [List.getElem?_append_left (by omega), if_neg (by omega), List.getElem?_take, if_pos h1]
  · rw [List.getElem?_append_right (by omega), hl]
    by_cases h2 : j < a + cs.length
    · rw [List.getElem?_append_left (by omega), if_pos (by omega)]
    · rw [List.getElem?_append_right (by omega), if_neg (by omega), List.getElem?_drop]
      congr 1
      omega

/-- Bytes that lie in a row, behind others laid over some of them. -/
theorem rangeAt_splice {w : World} {b o : Nat} {l : List UInt8} (h : w.rangeAt b o (Lib.byteCells l)) (a : Nat) (cs : List UInt8) (hfit : a + cs.length ≤ l.length) (ht : w.there b (o + a) cs.length) :
    (w.setCells b (o + a) (Lib.byteCells cs)).rangeAt b o (Lib.byteCells (splice l a cs)) := fun j v hv => by
  have hl : (Lib.byteCells cs).length = cs.length := Lib.byteCells_length _
  rw [Lib.byteCells, List.getElem?_map, splice_get l a cs hfit j] at hv
  by_cases h1 : a ≤ j ∧ j < a + cs.length
  · obtain ⟨k, rfl⟩ : ∃ k, j = a + k := ⟨j - a, by omega⟩
    have := World.rangeAt_setCells_same w b (o + a) (Lib.byteCells cs) (by rw [hl]; exact ht) k v ?_
    · rwa [show o + (a + k) = o + a + k by omega]
    · rw [if_pos h1, Nat.add_sub_cancel_left] at hv
      rw [Lib.byteCells, List.getElem?_map]; exact hv
  · rw [World.cell?_setCells_out b (Lib.byteCells cs) (o + a) w _ (fun _ _ => by show o + j < o + a ∨ o + a + (Lib.byteCells cs).length ≤ o + j; rw [hl]; omega)]
    rw [if_neg h1] at hv
    exact h j v (by rw [Lib.byteCells, List.getElem?_map]; exact hv)
theorem splice_at0 (l cs : List UInt8) : splice l 0 cs = cs ++ l.drop cs.length := by simp [splice]
end Go.Proofs.YtefddiikdamnbaaGreatDoor

/- A row of 512 bytes that is filled from its head on. No program's function is met here. -/
set_option maxRecDepth 100000
namespace Go.Proofs.YtefddiikdamnbaaGreatDoor
open Go.RowKit

/-- A row of 512 bytes at block g, the first of which are l, the rest noughts. -/
def BufAt (w : World) (g : Nat) (l : List UInt8) : Prop := l.length ≤ 512 ∧ w.heap[g]? = some (.cells (Lib.byteCells (l ++ List.replicate (512 - l.length) 0)).toArray 5 (0, 0))
theorem BufAt.lt {w : World} {g : Nat} {l : List UInt8} (h : BufAt w g l) : g < w.heap.size := (Array.getElem?_eq_some_iff.1 h.2).1
theorem BufAt.kept {w w' : World} {g : Nat} {l : List UInt8} {T : Nat → Prop} (h : BufAt w g l) (hk : Kept T w w') (hT : ¬ T g) : BufAt w' g l := ⟨h.1, (hk.block g h.lt hT).trans h.2⟩
theorem BufAt.owns {w : World} {g : Nat} {l : List UInt8} (h : BufAt w g l) : w.ownsRow 0 5 1 (.slice (some ⟨g, 0, none⟩) l.length 512) l.length (Lib.byteCells l) := by
  refine ⟨by simp [Lib.byteCells], .inr ⟨g, 512, _, rfl, Nat.zero_le _, h.2, h.1, by unfold maxLen; omega, ?_, ?_⟩⟩
  · have := h.1; simp [Lib.byteCells]; omega
  · simp [Lib.byteCells]
theorem kept_setRow (w : World) (g : Nat) (cs : Array Value) : Kept (fun k => k = g) w (w.setRow g cs) :=
  ⟨rfl, rfl, rfl, by simp, fun k _ hk => setRow_other w g k cs hk⟩
theorem buf_append (w : World) (g : Nat) (l ys : List UInt8) (A : Option Addr) (n m c : Nat) (ty : TypeId) (h : BufAt w g l) (hR : ReadsB w A ys) (hn : l.length = n) (hm : ys.length = m) (hl : n + m ≤ 512) :
    ∃ w', (Builtin.append_ #[113, 113] ty #[.slice (some ⟨g, 0, none⟩) n 512, .slice A m c]).run Tryz.prog w = .ok (.slice (some ⟨g, 0, none⟩) (n + m) 512) w' ∧ BufAt w' g (l ++ ys) ∧ Kept (fun k => k = g) w w' := by
  obtain ⟨i0, hi, q0, q1, q2⟩ := info_parts infoByte
  subst hn; subst hm
  rcases A with _ | a
  · have hys : ys = [] := by rcases hR with h0 | ⟨b, off, h1, _⟩; exact h0; cases h1
    subst hys
    have hc5 : l.length ≤ 512 := h.1
    refine ⟨w, ?_, by rw [List.append_nil]; exact h, Kept.refl _ _⟩
    simp [Builtin.append_, run_underlying Tryz.underlying113, sizeOf, typeInfo, hi, Builtin.lenOf, Builtin.firstCells, hc5, storeCells]
  · have hr := run_append_room (P := Tryz.prog) w 113 ty 5 i0 Tryz.underlying113 hi g l.length 512 _ h.2 a ys.length c (Lib.byteCells ys) (by rw [q1]; simp [Lib.byteCells]) (fun j u hu => by
      rcases hR with rfl | ⟨b, off, h1, _, h3⟩
      · simp [Lib.byteCells] at hu
      · injection h1 with h1; subst h1
        have hj : j < ys.length := by have := (List.getElem?_eq_some_iff.1 hu).1; simpa [Lib.byteCells] using this
        rw [add_lit', h3 j hj, ← hu]
        simp [Lib.byteCells, hj]) (fun u hu => by
      simp only [Lib.byteCells, List.mem_map] at hu
      obtain ⟨b, _, rfl⟩ := hu
      rfl) hl (by rw [q1]; simp [Lib.byteCells]; omega)
    refine ⟨_, hr, ⟨by rw [List.length_append]; exact hl, ?_⟩, kept_setRow _ _ _⟩
    rw [setRow_heap w g _ _ _ _ h.2]
    congr 2
    rw [q1]
    apply Array.ext'
    rw [List.toList_toArray, List.toList_toArray, List.toList_toArray]
    have e1 : (Lib.byteCells (l ++ List.replicate (512 - l.length) 0)).take (l.length * 1) = Lib.byteCells l := by rw [byteCells_take]; simp
    have e2 : (Lib.byteCells (l ++ List.replicate (512 - l.length) 0)).drop (l.length * 1 + (Lib.byteCells ys).length) = Lib.byteCells (List.replicate (512 - (l ++ ys).length) 0) := by
      rw [byteCells_drop, show l.length * 1 + (Lib.byteCells ys).length = l.length + ys.length by simp [Lib.byteCells], List.drop_append, List.drop_of_length_le (by omega)]
      simp
      congr 2; omega
    rw [e1, e2]
    simp [Lib.byteCells]

theorem made_zerosT (m : Nat) : madeCells #[Value.int .u8 0] m = (Lib.byteCells (List.replicate m 0)).toArray := by
  apply Array.ext
  · rw [size_madeCells]; simp [Lib.byteCells]
  · intro j h1 h2
    simp [madeCells, Lib.byteCells, Nat.mod_one]
/-- Two bytes that were laid for an append. -/
theorem two_reads (w : World) (a b : Nat) (ha : a < 256) (hb : b < 256) : ReadsB (w.alloc (.cells #[.int .u8 a, .int .u8 b] 5)) (some ⟨w.heap.size, 0, none⟩) [UInt8.ofNat a, UInt8.ofNat b] := by
  refine .inr ⟨w.heap.size, 0, rfl, by simp, fun j hj => ?_⟩
  have hn := heap_alloc_new w (.cells #[.int .u8 a, .int .u8 b] 5)
  rw [Lib.cell_of_heap hn, Nat.zero_add]
  match j, hj with
  | 0, _ => simp; omega
  | 1, _ => simp; omega
theorem strCells_bytes (s : ByteArray) : Lib.strCells s = Lib.byteCells s.data.toList := rfl
/-- A text is put behind. -/
theorem buf_append_str (w : World) (g : Nat) (l : List UInt8) (s : ByteArray) (n : Nat) (ty : TypeId) (h : BufAt w g l) (hn : l.length = n) (hl : n + s.size ≤ 512) :
    ∃ w', (Builtin.append_ #[113, 9] ty #[.slice (some ⟨g, 0, none⟩) n 512, .string s]).run Tryz.prog w = .ok (.slice (some ⟨g, 0, none⟩) (n + s.size) 512) w' ∧ BufAt w' g (l ++ s.data.toList) ∧ Kept (fun k => k = g) w w' := by
  obtain ⟨i0, hi, q0, q1, q2⟩ := info_parts infoByte
  subst hn
  have hsl : s.data.toList.length = s.size := rfl
  have hr := Lib.run_append_room_string (P := Tryz.prog) (w := w) 113 9 ty 5 i0 Tryz.underlying113 Tryz.underlying9 hi q1 g l.length 512 _ h.2 s hl (by simp [Lib.byteCells]; omega)
  refine ⟨_, hr, ⟨by rw [List.length_append]; omega, ?_⟩, kept_setRow _ _ _⟩
  rw [setRow_heap w g _ _ _ _ h.2]
  congr 2
  apply Array.ext'
  rw [List.toList_toArray, List.toList_toArray, List.toList_toArray, strCells_bytes]
  have e1 : (Lib.byteCells (l ++ List.replicate (512 - l.length) 0)).take l.length = Lib.byteCells l := by rw [byteCells_take]; simp
  have e2 : (Lib.byteCells (l ++ List.replicate (512 - l.length) 0)).drop (l.length + s.size) = Lib.byteCells (List.replicate (512 - (l ++ s.data.toList).length) 0) := by
    rw [byteCells_drop, List.drop_append, List.drop_of_length_le (by omega)]
    simp
    congr 2; omega
  rw [e1, e2]
  simp [Lib.byteCells]
theorem heap_set_at {w : World} {b : Nat} {cs : Array Value} {t : TypeId} {fr : Nat × Nat} (h : w.heap[b]? = some (.cells cs t fr)) (i : Nat) (v : Value) : (w.setCell ⟨b, i, none⟩ v).heap[b]? = some (.cells (cs.setIfInBounds i v) t fr) := by
  obtain ⟨hlt, hv⟩ := Array.getElem?_eq_some_iff.1 h
  unfold World.setCell
  rw [Array.getElem?_eq_getElem (by simpa using hlt), Array.getElem_modify]
  simp [hv]
/-- The whole row as a text. -/
theorem buf_string {w : World} {g : Nat} {l : List UInt8} (h : BufAt w g l) (c : Nat) : (convert 113 9 (.slice (some ⟨g, 0, none⟩) 512 c)).run Tryz.prog w = .ok (.string ⟨(l ++ List.replicate (512 - l.length) 0).toArray⟩) w := by
  have hpl : (l ++ List.replicate (512 - l.length) (0 : UInt8)).length = 512 := by have := h.1; simp; omega
  have hcv := run_string_mid w g 0 c (l ++ List.replicate (512 - l.length) 0) (fun j v hv => by
    rw [Nat.zero_add, Lib.cell_of_heap h.2]
    simpa using hv)
  rw [hpl] at hcv
  exact hcv
end Go.Proofs.YtefddiikdamnbaaGreatDoor
