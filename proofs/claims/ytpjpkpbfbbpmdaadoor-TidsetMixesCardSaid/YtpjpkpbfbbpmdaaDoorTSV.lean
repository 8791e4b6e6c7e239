/- The document's lists: whether a number is in one; a number put in; the fullest page. -/
import Derived.Test.YtpjpkpbfbbpmdaaDoorTSU
set_option maxRecDepth 100000
namespace Go.Proofs.YtpjpkpbfbbpmdaaDoor.Ts
open Go Go.RowKit

/-- Numbers that can be read: in no block of S. -/
def NumsS (S : Nat → Prop) (w : World) (a : Option Addr) (l : List Nat) : Prop :=
  l = [] ∨ ∃ b off, a = some ⟨b, off, none⟩ ∧ ¬ S b ∧ b < w.heap.size ∧ ∀ j (h : j < l.length), w.cell? ⟨b, off + j, none⟩ = some (.int .i64 (l[j] : Int))
section
variable {S : Nat → Prop} {w w' : World} {a : Option Addr} {l : List Nat}
theorem NumsS.below (h : NumsS S w a l) (hb : Below w.heap.size w w') : NumsS S w' a l :=
  h.imp id fun ⟨b, off, h1, h2, h3, h4⟩ => ⟨b, off, h1, h2, Nat.lt_of_lt_of_le h3 hb.size, fun j hj => (hb.cell (p := ⟨b, off + j, none⟩) h3).trans (h4 j hj)⟩
theorem NumsS.kept (h : NumsS S w a l) (hk : Kept S w w') : NumsS S w' a l :=
  h.imp id fun ⟨b, off, h1, h2, h3, h4⟩ => ⟨b, off, h1, h2, Nat.lt_of_lt_of_le h3 hk.size, fun j hj => (World.cell?_of_block (a := ⟨b, off + j, none⟩) (hk.block b h3 h2)).trans (h4 j hj)⟩
theorem NumsS.at (h : NumsS S w a l) {j : Nat} (hj : j < l.length) : ∃ b off, a = some ⟨b, off, none⟩ ∧ b < w.heap.size ∧ w.cell? ⟨b, off + j, none⟩ = some (.int .i64 (l[j] : Int)) := by
  rcases h with rfl | ⟨b, off, h1, _, h2, h3⟩
  · simp at hj
  · exact ⟨b, off, h1, h2, h3 j hj⟩
theorem NumsS.mono {T : Nat → Prop} (h : NumsS S w a l) (hT : ∀ k, T k → S k) : NumsS T w a l :=
  h.imp id fun ⟨b, off, h1, h2, h3, h4⟩ => ⟨b, off, h1, fun e => h2 (hT b e), h3, h4⟩
/-- Blocks made since may be added to S. -/
theorem NumsS.more {T : Nat → Prop} (h : NumsS S w a l) (hT : ∀ k, T k → S k ∨ w.heap.size ≤ k) : NumsS T w a l :=
  h.imp id fun ⟨b, off, h1, h2, h3, h4⟩ => ⟨b, off, h1, fun e => (hT b e).elim h2 (by omega), h3, h4⟩
theorem NumsS.v (h : NumsS S w a l) : NumsV 0 w a l := h.imp id fun ⟨b, off, h1, _, h3, h4⟩ => ⟨b, off, h1, Nat.zero_le _, h3, h4⟩
theorem NumsV.s {B : Nat} (h : NumsV B w a l) (hS : ∀ k, S k → k < B) : NumsS S w a l := h.imp id fun ⟨b, off, h1, h2, h3, h4⟩ => ⟨b, off, h1, fun e => by have := hS b e; omega, h3, h4⟩
theorem NumsS.nil (S : Nat → Prop) (w : World) (a : Option Addr) : NumsS S w a [] := .inl rfl
end

set_option maxHeartbeats 800000 in
theorem rin_any {S : Nat → Prop} {w : World} {a : Option Addr} {l : List Nat} {n : Nat} (c : Nat) (h : NumsS S w a l) (hn : n = l.length) (x : Nat) (hl : n ≤ 2199023255552) :
    Calls Tryd.prog 30 #[.slice a n c, .int .i64 x] w fun e w' => e = .returned (.bool (decide (x ∈ l))) ∧ w = w' := by
  have HL := Lib.hid h
  have HN := Lib.hid hn
  obtain ⟨R, hR⟩ : ∃ R, R = decide (x ∈ l) := ⟨_, rfl⟩
  rw [← hR]
  have HR := Lib.hid hR
  clear h hn hR
  go_enter Tryd.func30, Tryd.ntmps30
  go_wp2
  go_loop [5] (fun i => ∃ j : Nat, j ≤ n ∧ i = .int .i64 j ∧ Hid (x ∉ l.take j)) (fun i => n - (intOf i).toNat)
  case atStart => exact ⟨0, Nat.zero_le _, rfl, Lib.hid (by simp)⟩
  case round =>
    obtain ⟨j, hj, rfl, HP⟩ := hrel
    by_cases hlt : j < n
    · have hlt' : j < l.length := by rw [← HN.out]; exact hlt
      obtain ⟨b, off, rfl, hbw, c0⟩ := HL.out.at hlt'
      obtain ⟨y, hy⟩ : ∃ y, y = l[j] := ⟨_, rfl⟩
      rw [← hy] at c0
      have HY := Lib.hid hy
      have hji : (j : Int) < (n : Int) := by omega
      clear hy
      by_cases he : y = x
      · have HT : Hid (R = true) := Lib.hid (by rw [HR.out, decide_eq_true_eq, ← he, HY.out]; exact List.getElem_mem _)
        have he' : ((y : Int) == (x : Int)) = true := by simp [he]
        have he2 : (y == x) = true := by simp [he]
        clear he
        go_wp2
        go_ret
        exact ⟨congrArg (fun b => Ending.returned (.bool b)) HT.out.symm, rfl⟩
      · have HX : Hid (x ∉ l.take (j + 1)) := Lib.hid (by
          rw [List.take_succ_eq_append_getElem hlt', List.mem_append, List.mem_singleton, ← HY.out]
          rintro (h | h)
          · exact HP.out h
          · exact he h.symm)
        have he' : ((y : Int) == (x : Int)) = false := by simp; omega
        have he2 : (y == x) = false := by simp [he]
        clear he
        go_wp2
        go_round
        case rel => exact ⟨j + 1, by omega, by go_num, HX⟩
        case measure => simp [intOf]; omega
    · have HT : Hid (R = false) := Lib.hid (by
        rw [HR.out, decide_eq_false_iff_not]
        have := HP.out
        rwa [List.take_of_length_le (by have := HN.out; omega)] at this)
      go_wp2
      go_ret
      exact ⟨congrArg (fun b => Ending.returned (.bool b)) HT.out.symm, rfl⟩

set_option maxHeartbeats 400000 in
theorem rpage_any (t : Nat) (w : World) (ht : t < 16777216) : Calls Tryd.prog 33 #[.int .i64 t] w fun e w' => e = .returned (.int .i64 ((t / 64 : Nat) : Int)) ∧ w = w' := by
  go_enter Tryd.func33, Tryd.ntmps33
  go_wp2
  go_ret
  exact ⟨ret_i64 (by omega), rfl⟩

theorem ins_end {x : Nat} {l : List Nat} (h : Srt l) (ha : ∀ z ∈ l, z < x) : ins x l = l ++ [x] := srt_ext (srt_ins h) (List.pairwise_append.2 ⟨h, by simp, fun a ha' c hc => by simp at hc; subst hc; exact ha a ha'⟩) fun y => by
  rw [mem_ins, List.mem_append, List.mem_singleton]; exact Or.comm
theorem ins_snoc {x y : Nat} {l : List Nat} (h : Srt (l ++ [y])) (hxy : x < y) : ins x (l ++ [y]) = ins x l ++ [y] := by
  obtain ⟨h1, _, h3⟩ := List.pairwise_append.1 h
  refine srt_ext (srt_ins h) (List.pairwise_append.2 ⟨srt_ins h1, by simp, fun a ha c hc => ?_⟩) fun z => ?_
  · simp at hc; subst hc
    rcases mem_ins.1 ha with rfl | ha
    · exact hxy
    · exact h3 a ha _ (by simp)
  · rw [mem_ins, List.mem_append, List.mem_append, mem_ins]
    constructor
    · rintro (h | h | h)
      · exact .inl (.inl h)
      · exact .inl (.inr h)
      · exact .inr h
    · rintro ((h | h) | h)
      · exact .inl h
      · exact .inr (.inl h)
      · exact .inr (.inr h)
theorem srt_take {l : List Nat} (h : Srt l) (k : Nat) : Srt (l.take k) := List.Pairwise.sublist (List.take_sublist _ _) h

/-- What the document's put has so far. -/
def POut (x : Nat) (l : List Nat) (k : Nat) (done : Bool) (o : List Nat) : Prop :=
  done = true ∧ o = ins x (l.take k) ∧ (∃ z, z ∈ l.take k ∧ x < z) ∨ done = false ∧ o = l.take k ∧ ∀ z ∈ l.take k, z < x
theorem POut.here {x k : Nat} {l o : List Nat} (h : POut x l k false o) (hs : Srt l) (hk : k < l.length) (hx : x < l[k]) : POut x l (k + 1) true ((o ++ [x]) ++ [l[k]]) := by
  rcases h with ⟨e, _⟩ | ⟨_, rfl, h⟩
  · cases e
  · have e := List.take_succ_eq_append_getElem hk
    have hs2 := srt_take hs (k + 1)
    rw [e] at hs2
    refine .inl ⟨rfl, ?_, l[k], by rw [e]; exact List.mem_append_right _ (List.mem_singleton.2 rfl), hx⟩
    rw [e, ins_snoc hs2 hx, ins_end (srt_take hs k) h]
theorem POut.on {x k : Nat} {l o : List Nat} (h : POut x l k true o) (hs : Srt l) (hk : k < l.length) : POut x l (k + 1) true (o ++ [l[k]]) := by
  rcases h with ⟨_, rfl, z, hz, hxz⟩ | ⟨e, _⟩
  · have e := List.take_succ_eq_append_getElem hk
    have hs2 := srt_take hs (k + 1)
    rw [e] at hs2
    have hlt := (List.pairwise_append.1 hs2).2.2 z hz l[k] (by simp)
    exact .inl ⟨rfl, by rw [e, ins_snoc hs2 (by omega)], z, by rw [e]; exact List.mem_append_left _ hz, hxz⟩
  · cases e
theorem POut.ahead {x k : Nat} {l o : List Nat} (h : POut x l k false o) (hk : k < l.length) (hx : l[k] < x) : POut x l (k + 1) false (o ++ [l[k]]) := by
  rcases h with ⟨e, _⟩ | ⟨_, rfl, h⟩
  · cases e
  · have e := List.take_succ_eq_append_getElem hk
    refine .inr ⟨rfl, e.symm, fun z hz => ?_⟩
    rw [e, List.mem_append, List.mem_singleton] at hz
    rcases hz with hz | rfl
    · exact h z hz
    · exact hx
theorem POut.len {x k : Nat} {l o : List Nat} {d : Bool} (h : POut x l k d o) : o.length ≤ l.length + 1 := by
  rcases h with ⟨_, rfl, _⟩ | ⟨_, rfl, _⟩
  · have := length_ins_le x (l.take k)
    have := List.length_take_le k l
    have : (l.take k).length ≤ l.length := by rw [List.length_take]; omega
    omega
  · rw [List.length_take]; omega

/-- A list that the document gives. -/
def RList (S : Nat → Prop) (l : List Nat) (w : World) (e : Ending) (w' : World) : Prop :=
  ∃ a c, e = .returned (.slice a l.length c) ∧ NumsS S w' a l ∧ Below w.heap.size w w'
set_option maxHeartbeats 3200000 in
theorem rput_any {S : Nat → Prop} {w : World} {a : Option Addr} {l : List Nat} {n : Nat} (c : Nat) (h : NumsS S w a l) (hn : n = l.length) (x : Nat) (hl : n ≤ 1099511627776) (hS : ∀ k, S k → k < w.heap.size) (hs : Srt l) :
    Calls Tryd.prog 31 #[.slice a n c, .int .i64 x] w (RList S (ins x l) w) := by
  have HI := Lib.hid (rin_any c h hn x (by omega))
  have HL := Lib.hid h
  have HN := Lib.hid hn
  have HSS := Lib.hid hs
  have HS := Lib.hid hS
  by_cases hx : x ∈ l
  · rw [decide_eq_true hx] at HI
    have HE : Hid (RList S (ins x l) w (.returned (.slice a n c)) w) := Lib.hid (by
      rw [ins_there hs hx]
      exact ⟨a, c, by rw [hn], h, Below.refl _ _⟩)
    clear h hn hS hs hx
    go_enter Tryd.func31, Tryd.ntmps31
    go_wp2_with fail
    refine HI.out.mono ?_
    rintro e w1 ⟨rfl, rfl⟩
    go_wp2
    go_ret
    exact HE.out
  · rw [decide_eq_false hx] at HI
    have HX := Lib.hid hx
    clear h hn hS hs hx
    go_enter Tryd.func31, Tryd.ntmps31
    go_wp2_with fail
    refine HI.out.mono ?_
    rintro e w1 ⟨rfl, rfl⟩
    go_wp2
    go_loopw [5, 6, 7] (fun o d i wr => ∃ (k m oc : Nat) (oa : Option Addr) (done : Bool) (ol : List Nat), k ≤ n ∧ m ≤ n + 1 ∧ i = .int .i64 k ∧ o = .slice oa m oc ∧ d = .bool done ∧ Hid (m = ol.length) ∧ Hid (POut x l k done ol) ∧ Hid (NRow w.heap.size wr (.slice oa m oc) ol) ∧ Hid (Below w.heap.size w wr)) (fun _ _ i _ => n - (intOf i).toNat)
    case atStart => exact ⟨0, 0, 0, none, false, [], by omega, by omega, rfl, rfl, rfl, Lib.hid rfl, Lib.hid (.inr ⟨rfl, by simp, by simp⟩), Lib.hid (World.ownsRow_nil _ _ _ _), Lib.hid (Below.refl _ _)⟩
    case round =>
      obtain ⟨k, m, oc, oa, done, ol, hk, hm, rfl, rfl, rfl, HM, HP, HO, HB⟩ := hrel
      have hsz : w.heap.size ≤ wr.heap.size := HB.out.size
      by_cases hlt : k < n
      · have hlt' : k < l.length := by rw [← HN.out]; exact hlt
        obtain ⟨b, off, rfl, hbw, c0⟩ := (HL.out.below HB.out).at hlt'
        obtain ⟨y, hy⟩ : ∃ y, y = l[k] := ⟨_, rfl⟩
        rw [← hy] at c0
        have HY := Lib.hid hy
        have hji : (k : Int) < (n : Int) := by omega
        have hxy : x ≠ y := fun e => HX.out (by rw [e, hy]; exact List.getElem_mem _)
        clear hy
        cases done
        · by_cases hc : x < y
          · obtain ⟨na, nc, w2, hr2, ho2, hb2⟩ := putN 22 HO.out x 3 (by rw [← HM.out]; omega) hsz
            rw [← HM.out] at hr2 ho2
            have c2 : w2.cell? ⟨b, off + k, none⟩ = some (.int .i64 (y : Int)) := by
              have h9 := (HL.out.below (HB.out.trans hb2))
              obtain ⟨b', off', e1, _, e2⟩ := h9.at hlt'
              injection e1 with e1; injection e1 with e3 e4
              subst e3 e4
              rw [HY.out]; exact e2
            have hmo : (m : Nat) + 1 = (ol ++ [x]).length := by rw [List.length_append, HM.out]; rfl
            have hz2 : w.heap.size ≤ w2.heap.size := (HB.out.trans hb2).size
            have hbw2 : b < w2.heap.size := by
              have h9 := (HL.out.below (HB.out.trans hb2))
              obtain ⟨b', off', e1, e9, _⟩ := h9.at hlt'
              injection e1 with e1; injection e1 with e3 e4
              omega
            obtain ⟨pa, pc, w3, hr3, ho3, hb3⟩ := putN 22 ho2 y 3 (by rw [← hmo]; omega) hz2
            rw [← hmo] at hr3 ho3
            have hp := HP.out.here HSS.out hlt' (by rw [← HY.out]; exact hc)
            rw [← HY.out] at hp
            have HPN := Lib.hid hp
            have HMN : Hid (m + 1 + 1 = ((ol ++ [x]) ++ [y]).length) := Lib.hid (by rw [List.length_append, ← hmo]; rfl)
            have HON := Lib.hid ho3
            have HBN := Lib.hid ((HB.out.trans hb2).trans hb3)
            have hml : m + 1 + 1 ≤ n + 1 := by have := HPN.out.len; rw [← HMN.out, ← HN.out] at this; exact this
            have hc1 : decide ((x : Int) < (y : Int)) = true := decide_eq_true (by omega)
            have hc2 : decide (x < y) = true := decide_eq_true hc
            clear ho2 hb2 hmo ho3 hb3 hp HM HP HO HB hc
            go_wp2_with (first | (at_builtin; refine Lib.wpList_append_run _ rfl (.tmp 28) (.tmp 30) 22 22 rfl _ _ rfl rfl _ _ hr2 ?_) | (at_builtin; refine Lib.wpList_append_run _ rfl (.tmp 32) (.tmp 37) 22 22 rfl _ _ rfl rfl _ _ hr3 ?_))
            go_roundw
            case rel => exact ⟨k + 1, m + 1 + 1, pc, pa, true, _, by omega, hml, by go_num, rfl, rfl, HMN, HPN, HON, HBN⟩
            case measure => simp [intOf]; omega
          · obtain ⟨na, nc, w2, hr2, ho2, hb2⟩ := putN 22 HO.out y 3 (by rw [← HM.out]; omega) hsz
            rw [← HM.out] at hr2 ho2
            have hp := HP.out.ahead hlt' (by rw [← HY.out]; omega)
            rw [← HY.out] at hp
            have HPN := Lib.hid hp
            have HMN : Hid (m + 1 = (ol ++ [y]).length) := Lib.hid (by rw [List.length_append, HM.out]; rfl)
            have HON := Lib.hid ho2
            have HBN := Lib.hid (HB.out.trans hb2)
            have hml : m + 1 ≤ n + 1 := by have := HPN.out.len; rw [← HMN.out, ← HN.out] at this; exact this
            have hc1 : decide ((x : Int) < (y : Int)) = false := decide_eq_false (by omega)
            have hc2 : decide (x < y) = false := decide_eq_false hc
            clear ho2 hb2 hp HM HP HO HB hc
            go_wp2_with (at_builtin; refine Lib.wpList_append_run _ rfl (.tmp 32) (.tmp 37) 22 22 rfl _ _ rfl rfl _ _ hr2 ?_)
            go_roundw
            case rel => exact ⟨k + 1, m + 1, nc, na, false, _, by omega, hml, by go_num, rfl, rfl, HMN, HPN, HON, HBN⟩
            case measure => simp [intOf]; omega
        · obtain ⟨na, nc, w2, hr2, ho2, hb2⟩ := putN 22 HO.out y 3 (by rw [← HM.out]; omega) hsz
          rw [← HM.out] at hr2 ho2
          have hp := HP.out.on HSS.out hlt'
          rw [← HY.out] at hp
          have HPN := Lib.hid hp
          have HMN : Hid (m + 1 = (ol ++ [y]).length) := Lib.hid (by rw [List.length_append, HM.out]; rfl)
          have HON := Lib.hid ho2
          have HBN := Lib.hid (HB.out.trans hb2)
          have hml : m + 1 ≤ n + 1 := by have := HPN.out.len; rw [← HMN.out, ← HN.out] at this; exact this
          clear ho2 hb2 hp HM HP HO HB
          go_wp2_with (at_builtin; refine Lib.wpList_append_run _ rfl (.tmp 32) (.tmp 37) 22 22 rfl _ _ rfl rfl _ _ hr2 ?_)
          go_roundw
          case rel => exact ⟨k + 1, m + 1, nc, na, true, _, by omega, hml, by go_num, rfl, rfl, HMN, HPN, HON, HBN⟩
          case measure => simp [intOf]; omega
      · have hkn : k = l.length := by rw [← HN.out]; omega
        cases done
        · obtain ⟨na, nc, w2, hr2, ho2, hb2⟩ := putN 22 HO.out x 3 (by rw [← HM.out]; omega) hsz
          rw [← HM.out] at hr2 ho2
          have HE : Hid (RList S (ins x l) w (.returned (.slice na (m + 1) nc)) w2) := Lib.hid (by
            rcases HP.out with ⟨e, _⟩ | ⟨_, rfl, hh⟩
            · cases e
            · rw [hkn, List.take_length] at hh ho2
              have hm2 := HM.out
              rw [hkn, List.take_length] at hm2
              have e := ins_end HSS.out hh
              refine ⟨na, nc, by rw [e, List.length_append, hm2]; rfl, ?_, HB.out.trans hb2⟩
              rw [e]
              exact ho2.nums.s HS.out)
          clear ho2 hb2 HM HP HO HB
          go_wp2_with (at_builtin; refine Lib.wpList_append_run _ rfl (.tmp 41) (.tmp 43) 22 22 rfl _ _ rfl rfl _ _ hr2 ?_)
          go_ret
          exact HE.out
        · have HE : Hid (RList S (ins x l) w (.returned (.slice oa m oc)) wr) := Lib.hid (by
            rcases HP.out with ⟨_, rfl, _⟩ | ⟨e, _⟩
            · have ho := HO.out
              have hm2 := HM.out
              rw [hkn, List.take_length] at ho hm2
              exact ⟨oa, oc, by rw [hm2], ho.nums.s HS.out, HB.out⟩
            · cases e)
          clear HM HP HO HB
          go_wp2
          go_ret
          exact HE.out
end Go.Proofs.YtpjpkpbfbbpmdaaDoor.Ts
