/- Texts of the same proof, one behind the other: DT, QH, QI, QJ, QK, QL, QM, QN, QQ, QR, QS, QP. -/
import Derived.Test.YtnnmigglcpkomaaDS
import Derived.Test.YtnnmigglcpkomaaMV
import Derived.Test.YtnnmigglcpkomaaBRev
import Derived.Test.YtnnmigglcpkomaaMZ
import Derived.RangeFuncOwn
import Derived.Deep.CutRange
import Derived.Deep.DeepCutAuto
import Derived.Test.YtnnmigglcpkomaaMW
import Derived.OrdersHeld
/- The document's Bound of a range: of a pointer to a datum. -/
set_option maxRecDepth 100000
namespace Go.Proofs.Ytnnmigglcpkomaa.Dm
open Go Go.RowKit

/-- A bound as it is handed over: a pointer, nil or to a datum's four cells. -/
def BdW (w : World) (p : Option Addr) : Option En → Prop
  | none => p = none
  | some e => (∃ b off, p = some ⟨b, off, none⟩ ∧ b < w.heap.size ∧ w.cell? ⟨b, off, none⟩ = some (.int .i64 e.k) ∧ w.cell? ⟨b, off + 1, none⟩ = some (.int .i64 e.n) ∧ w.cell? ⟨b, off + 2, none⟩ = some (.string e.s) ∧ w.cell? ⟨b, off + 3, none⟩ = some (.slice e.a e.xs.length e.lc)) ∧ e.In w
theorem BdW.below {w w' : World} {p : Option Addr} {d : Option En} (h : BdW w p d) (hb : Below w.heap.size w w') : BdW w' p d := by
  cases d with
  | none => exact h
  | some e =>
    obtain ⟨⟨b, off, h1, h2, h3, h4, h5, h6⟩, h7⟩ := h
    exact ⟨⟨b, off, h1, Nat.lt_of_lt_of_le h2 hb.size, (hb.cell (p := ⟨b, _, none⟩) h2).trans h3, (hb.cell (p := ⟨b, _, none⟩) h2).trans h4, (hb.cell (p := ⟨b, _, none⟩) h2).trans h5, (hb.cell (p := ⟨b, _, none⟩) h2).trans h6⟩, h7.below hb⟩
/-- Why a bound is refused, if it is. -/
def boundE : Option En → Int
  | none => 0
  | some e => if e.ok = true then (if e.k = 3 then 10 else 0) else 1

set_option maxHeartbeats 1600000 in
theorem bound9_any (p : Option Addr) (d : Option En) (w : World) (h : BdW w p d) :
    Calls Try.prog 19 #[.pointer p] w fun r w' => r = .returned (.int .i64 (boundE d)) ∧ Below w.heap.size w w' := by
  cases d with
  | none =>
    obtain rfl : p = none := h
    unfold boundE
    go_enter Try.func19, Try.ntmps19
    go_wp2
    go_ret
    exact ⟨rfl, Below.refl _ _⟩
  | some e =>
    obtain ⟨⟨b, off, rfl, hb, c0, c1, c2, c3⟩, hin⟩ := h
    obtain ⟨R, hR⟩ : ∃ R, R = boundE (some e) := ⟨_, rfl⟩
    rw [← hR]
    have hR2 : R = if e.ok = true then (if e.k = 3 then 10 else 0) else 1 := hR
    obtain ⟨k, n, s, a, xs, lc, t⟩ := e
    obtain ⟨q, hq⟩ : ∃ q, q = En.ok ⟨k, n, s, a, xs, lc, t⟩ := ⟨_, rfl⟩
    rw [← hq] at hR2
    simp only at hR2 c0 c1 c2 c3
    have HA : Hid (Calls Try.prog 36 #[.agg #[.int .i64 k, .int .i64 n, .string s, .slice a xs.length lc]] w fun e w' => e = .returned (.bool q) ∧ Below w.heap.size w w') :=
      Lib.hid (by
        cases q
        · exact may_no k n s a xs lc w hin.sl hq.symm
        · exact may_ok k n s a xs lc w hin.sl hq.symm)
    have HR := Lib.hid hR2
    obtain ⟨ll, hll⟩ : ∃ ll, ll = xs.length := ⟨_, rfl⟩
    rw [← hll] at HA c3
    clear hR hR2 hq hll hin
    go_enter Try.func19, Try.ntmps19
    go_wp2_with (go_at_call 36; refine HA.out.mono ?_)
    rintro e w1 ⟨rfl, hb1⟩
    have d0 := (hb1.cell (p := ⟨b, off, none⟩) hb).trans c0
    have HB1 := Lib.hid hb1
    clear hb1 HA
    cases q
    · have HT : Hid (R = 1) := Lib.hid (by rw [HR.out]; simp)
      go_wp2
      go_ret
      exact ⟨congrArg (fun b => Ending.returned (.int .i64 b)) HT.out.symm, HB1.out⟩
    · by_cases hk : k = 3
      · have HT : Hid (R = 10) := Lib.hid (by rw [HR.out]; simp [hk])
        subst hk
        go_wp2
        go_ret
        exact ⟨congrArg (fun b => Ending.returned (.int .i64 b)) HT.out.symm, HB1.out⟩
      · have HT : Hid (R = 0) := Lib.hid (by rw [HR.out]; simp [hk])
        have hb3 : (k == 3) = false := by rw [beq_eq_false_iff_ne]; exact hk
        go_wp2
        go_ret
        exact ⟨congrArg (fun b => Ending.returned (.int .i64 b)) HT.out.symm, HB1.out⟩
end Go.Proofs.Ytnnmigglcpkomaa.Dm

/- A range's ends: which are refused, and as what bytes they stand. -/
set_option maxRecDepth 100000
namespace Go.Proofs.Ytnnmigglcpkomaa.Dm
open Go Go.RowKit

/-- Why a range is refused, if it is. -/
def endsE (l : List (Option En)) : Int := if l.any (fun d => decide (boundE d = 1)) = true then 1 else if l.any (fun d => decide (boundE d = 10)) = true then 10 else 0
theorem boundE_some (e : En) : boundE (some e) = if e.ok = true then (if e.k = 3 then 10 else 0) else 1 := rfl
theorem boundE_cases (d : Option En) : boundE d = 0 ∨ boundE d = 1 ∨ boundE d = 10 := by
  cases d with
  | none => exact .inl rfl
  | some e =>
    rw [boundE_some]
    split
    · split
      · exact .inr (.inr rfl)
      · exact .inl rfl
    · exact .inr (.inl rfl)

theorem eql_nil_dt (w : World) (a : Addr) : (binOp .neq 40 (.pointer (some a)) (.pointer none)).run Try.prog w = .ok (.bool true) w := by
  have h : ∀ d : Nat, (Op.equalIn (d + 1) 40 (.pointer (some a)) (.pointer none)).run Try.prog w = .ok false w := fun d => by
    simp [Op.equalIn, run_underlying Try.underlying40, sizeOf, typeInfo]
  simp only [binOp]
  simp [Op.equal, Op.maxDepth, h 9999]

set_option maxHeartbeats 3200000 in
theorem checkEnds_any (g : Nat) (ends : List (Option Addr × Option En)) (w : World) (hrow : ∀ j (h : j < ends.length), w.cell? ⟨g, j, none⟩ = some (.pointer (ends[j]'h).1)) (hB : ∀ x, x ∈ ends → BdW w x.1 x.2) (hg : g < w.heap.size) (hlen : ends.length < 1000) :
    Calls Try.prog 31 #[.slice (some ⟨g, 0, none⟩) ends.length ends.length] w fun r w' => r = .returned (.int .i64 (endsE (ends.map (·.2)))) ∧ Below w.heap.size w w' := by
  obtain ⟨n, hn⟩ : ∃ n, n = ends.length := ⟨_, rfl⟩
  have HR : Hid (∀ W, Below w.heap.size w W → ∀ j (h : j < ends.length), W.cell? ⟨g, j, none⟩ = some (.pointer (ends[j]'h).1) ∧ BdW W (ends[j]'h).1 (ends[j]'h).2) := Lib.hid (fun W hW j h => ⟨(hW.cell (p := ⟨g, j, none⟩) hg).trans (hrow j h), (hB _ (List.getElem_mem h)).below hW⟩)
  have HN := Lib.hid hn
  rw [← hn] at hlen ⊢
  obtain ⟨R, hR⟩ : ∃ R, R = endsE (ends.map (·.2)) := ⟨_, rfl⟩
  rw [← hR]
  have H1 : Hid ((∃ j, ∃ h : j < ends.length, boundE (ends[j]'h).2 = 1) → R = 1) := Lib.hid (by
    rintro ⟨j, h, hb⟩
    rw [hR]
    unfold endsE
    rw [if_pos]
    exact List.any_eq_true.2 ⟨_, List.mem_map.2 ⟨_, List.getElem_mem h, rfl⟩, decide_eq_true hb⟩)
  have hno : (∀ j (h : j < ends.length), boundE (ends[j]'h).2 ≠ 1) → (ends.map (·.2)).any (fun d => decide (boundE d = 1)) = false := fun hh => by
    rw [List.any_eq_false]
    intro d hd
    obtain ⟨x, hx, rfl⟩ := List.mem_map.1 hd
    obtain ⟨j, hj, rfl⟩ := List.getElem_of_mem hx
    simpa using hh j hj
  have H2 : Hid ((∀ j (h : j < ends.length), boundE (ends[j]'h).2 ≠ 1) → (∃ j, ∃ h : j < ends.length, boundE (ends[j]'h).2 = 10) → R = 10) := Lib.hid (by
    rintro hh ⟨j, h, hb⟩
    rw [hR]
    unfold endsE
    rw [hno hh, if_neg (by simp), if_pos]
    exact List.any_eq_true.2 ⟨_, List.mem_map.2 ⟨_, List.getElem_mem h, rfl⟩, decide_eq_true hb⟩)
  have H3 : Hid ((∀ j (h : j < ends.length), boundE (ends[j]'h).2 = 0) → R = 0) := Lib.hid (by
    intro hh
    rw [hR]
    unfold endsE
    rw [hno (fun j h => by rw [hh j h]; decide), if_neg (by simp), if_neg]
    rw [Bool.not_eq_true, List.any_eq_false]
    intro d hd
    obtain ⟨x, hx, rfl⟩ := List.mem_map.1 hd
    obtain ⟨j, hj, rfl⟩ := List.getElem_of_mem hx
    simp [hh j hj])
  clear hrow hB hn hR hno
  go_enter Try.func31, Try.ntmps31
  go_wp2
  go_loopw [9] (fun i wr => ∃ j : Nat, j ≤ n ∧ i = .int .i64 j ∧ Hid (Below w.heap.size w wr) ∧ Hid (∀ m (h : m < ends.length), m < j → boundE (ends[m]'h).2 ≠ 1)) (fun i _ => n - (intOf i).toNat)
  case atStart => exact ⟨0, Nat.zero_le _, rfl, Lib.hid (Below.refl _ _), Lib.hid (fun m h hm => by omega)⟩
  case round =>
    obtain ⟨j, hj, rfl, HB, HM⟩ := hrel
    by_cases hjn : j < n
    · have hje : j < ends.length := by rw [← HN.out]; exact hjn
      obtain ⟨hc, hbd⟩ := HR.out wr HB.out j hje
      have f1 : (j : Int) < (n : Int) := by omega
      have HX : Hid (boundE (ends[j]'hje).2 ≠ 1 → ∀ m (h : m < ends.length), m < j + 1 → boundE (ends[m]'h).2 ≠ 1) := Lib.hid (fun hh m h hm => by
        by_cases h2 : m = j
        · subst h2; exact hh
        · exact HM.out m h (by omega))
      have H1' : Hid (boundE (ends[j]'hje).2 = 1 → R = 1) := Lib.hid (fun hh => H1.out ⟨j, hje, hh⟩)
      obtain ⟨⟨p, d⟩, hx⟩ : ∃ x, x = ends[j]'hje := ⟨_, rfl⟩
      rw [← hx] at hc hbd HX H1'
      simp only [] at hc hbd HX H1'
      clear hx hje
      cases d with
      | none =>
        obtain rfl : p = none := hbd
        go_wp2
        go_roundw
        case rel => exact ⟨j + 1, by omega, by go_num, HB, Lib.hid (HX.out (by unfold boundE; decide))⟩
        case measure => simp [intOf]; omega
      | some e =>
        obtain ⟨⟨b, off, rfl, hb, c0, c1, c2, c3⟩, hin⟩ := hbd
        have hq := eql_nil_dt wr ⟨b, off, none⟩
        obtain ⟨k, nn, s, a, xs, lc, t⟩ := e
        simp only [] at c0 c1 c2 c3
        obtain ⟨q, hqq⟩ : ∃ q, q = En.ok ⟨k, nn, s, a, xs, lc, t⟩ := ⟨_, rfl⟩
        have HC : Hid (Calls Try.prog 51 #[.agg #[.int .i64 k, .int .i64 nn, .string s, .slice a xs.length lc]] wr fun e w' => e = .returned (.int .i64 (if q = true then 0 else 11)) ∧ Below wr.heap.size wr w') := Lib.hid (by
          cases q
          · exact check_no k nn s a xs lc wr hin.sl hqq.symm
          · exact check_ok k nn s a xs lc wr hin.sl hqq.symm)
        have HQ : Hid (boundE (some ⟨k, nn, s, a, xs, lc, t⟩) = if q = true then (if k = 3 then 10 else 0) else 1) := Lib.hid (by rw [boundE_some, ← hqq])
        obtain ⟨ll, hll⟩ : ∃ ll, ll = xs.length := ⟨_, rfl⟩
        rw [← hll] at HC c3
        clear hin hqq hll
        cases q with
        | false =>
          simp only [Bool.false_eq_true, if_false] at HC HQ
          go_wp2_with (go_at_call 51; refine HC.out.mono ?_)
          rintro e w1 ⟨rfl, hb1⟩
          have HB1 := Lib.hid (HB.out.trans (hb1.mono HB.out.size))
          have HRR := Lib.hid (H1'.out HQ.out)
          clear hb1
          go_wp2
          go_ret
          exact ⟨congrArg (fun b => Ending.returned (.int .i64 b)) HRR.out.symm, HB1.out⟩
        | true =>
          simp only [if_true] at HC HQ
          go_wp2_with (go_at_call 51; refine HC.out.mono ?_)
          rintro e w1 ⟨rfl, hb1⟩
          have HB1 := Lib.hid (HB.out.trans (hb1.mono HB.out.size))
          clear hb1
          go_wp2
          go_roundw
          case rel => exact ⟨j + 1, by omega, by go_num, HB1, Lib.hid (HX.out (by rw [HQ.out]; split <;> decide))⟩
          case measure => simp [intOf]; omega
    · have f1 : ¬ (j : Int) < (n : Int) := by omega
      have HOK : Hid (∀ m (h : m < ends.length), boundE (ends[m]'h).2 ≠ 1) := Lib.hid (fun m h => HM.out m h (by have := HN.out; omega))
      have H2' : Hid ((∃ j, ∃ h : j < ends.length, boundE (ends[j]'h).2 = 10) → R = 10) := Lib.hid (H2.out HOK.out)
      have HB0 := HB
      clear HM H1 H2
      go_wp2
      go_loopw [25] (fun i wr => ∃ j : Nat, j ≤ n ∧ i = .int .i64 j ∧ Hid (Below w.heap.size w wr) ∧ Hid (∀ m (h : m < ends.length), m < j → boundE (ends[m]'h).2 = 0)) (fun i _ => n - (intOf i).toNat)
      case atStart => exact ⟨0, Nat.zero_le _, rfl, HB0, Lib.hid (fun m h hm => by omega)⟩
      case round =>
        obtain ⟨j2, hj2, rfl, HBz, HM⟩ := hrel
        by_cases hjn2 : j2 < n
        · have hje : j2 < ends.length := by rw [← HN.out]; exact hjn2
          obtain ⟨hc, hbd⟩ := HR.out wr HBz.out j2 hje
          have f2 : (j2 : Int) < (n : Int) := by omega
          have HX : Hid (boundE (ends[j2]'hje).2 ≠ 10 → ∀ m (h : m < ends.length), m < j2 + 1 → boundE (ends[m]'h).2 = 0) := Lib.hid (fun hh m h hm => by
            by_cases h2 : m = j2
            · subst h2
              have h3 := HOK.out m h
              rcases boundE_cases (ends[m]'h).2 with h4 | h4 | h4
              · exact h4
              · exact absurd h4 h3
              · exact absurd h4 hh
            · exact HM.out m h (by omega))
          have H2'' : Hid (boundE (ends[j2]'hje).2 = 10 → R = 10) := Lib.hid (fun hh => H2'.out ⟨j2, hje, hh⟩)
          have HOK2 := Lib.hid (HOK.out j2 hje)
          obtain ⟨⟨p, d⟩, hx⟩ : ∃ x, x = ends[j2]'hje := ⟨_, rfl⟩
          rw [← hx] at hc hbd HX H2'' HOK2
          simp only [] at hc hbd HX H2'' HOK2
          clear hx hje
          cases d with
          | none =>
            obtain rfl : p = none := hbd
            go_wp2
            go_roundw
            case rel => exact ⟨j2 + 1, by omega, by go_num, HBz, Lib.hid (HX.out (by unfold boundE; decide))⟩
            case measure => simp [intOf]; omega
          | some e =>
            obtain ⟨⟨b, off, rfl, hb, c0, c1, c2, c3⟩, hin⟩ := hbd
            have hq := eql_nil_dt wr ⟨b, off, none⟩
            obtain ⟨k, nn, s, a, xs, lc, t⟩ := e
            simp only [] at c0
            have HQ : Hid (boundE (some ⟨k, nn, s, a, xs, lc, t⟩) = if k = 3 then 10 else 0) := Lib.hid (by
              have h3 := HOK2.out
              rw [boundE_some] at h3 ⊢
              split
              · rfl
              · rename_i h4
                rw [if_neg h4] at h3
                exact absurd rfl h3)
            clear c1 c2 c3 hin
            by_cases hk : k = 3
            · have hk1 : (k == 3) = true := by rw [beq_iff_eq]; exact hk
              have HRR : Hid (R = 10) := Lib.hid (H2''.out (by rw [HQ.out, if_pos hk]))
              go_wp2
              go_ret
              exact ⟨congrArg (fun b => Ending.returned (.int .i64 b)) HRR.out.symm, HBz.out⟩
            · have hk1 : (k == 3) = false := by rw [beq_eq_false_iff_ne]; exact hk
              have HQ0 : Hid (boundE (some ⟨k, nn, s, a, xs, lc, t⟩) ≠ 10) := Lib.hid (by rw [HQ.out, if_neg hk]; decide)
              go_wp2
              go_roundw
              case rel => exact ⟨j2 + 1, by omega, by go_num, HBz, Lib.hid (HX.out HQ0.out)⟩
              case measure => simp [intOf]; omega
        · have f2 : ¬ (j2 : Int) < (n : Int) := by omega
          have HRR : Hid (R = 0) := Lib.hid (H3.out (fun m h => HM.out m h (by have := HN.out; omega)))
          go_wp2
          go_ret
          exact ⟨congrArg (fun b => Ending.returned (.int .i64 b)) HRR.out.symm, HBz.out⟩

/-- As what bytes an end stands. -/
def endS (d : Option En) (none_ : ByteArray) : ByteArray := match d with
  | none => none_
  | some e => keyS e.k e.n e.s e.xs

set_option maxHeartbeats 800000 in
theorem endOf_any (p : Option Addr) (d : Option En) (ns : ByteArray) (w : World) (h : BdW w p d) (hd : boundE d = 0) :
    Calls Try.prog 32 #[.pointer p, .string ns] w fun r w' => r = .returned (.string (endS d ns)) ∧ Below w.heap.size w w' := by
  cases d with
  | none =>
    obtain rfl : p = none := h
    go_enter Try.func32, Try.ntmps32
    go_wp2
    go_ret
    exact ⟨rfl, Below.refl _ _⟩
  | some e =>
    obtain ⟨⟨b, off, rfl, hb, c0, c1, c2, c3⟩, hin⟩ := h
    have hok : e.ok = true := by
      rw [boundE_some] at hd
      by_cases h1 : e.ok = true
      · exact h1
      · rw [if_neg h1] at hd; cases hd
    obtain ⟨k, nn, s, a, xs, lc, t⟩ := e
    simp only [] at c0 c1 c2 c3
    have HC := Lib.hid (bytes_ok k nn s a xs lc w hin.sl hok)
    obtain ⟨R, hR⟩ : ∃ R, R = endS (some ⟨k, nn, s, a, xs, lc, t⟩) ns := ⟨_, rfl⟩
    have HR := Lib.hid hR
    rw [← hR]
    obtain ⟨ll, hll⟩ : ∃ ll, ll = xs.length := ⟨_, rfl⟩
    rw [← hll] at HC c3
    clear hin hok hd hR hll
    go_enter Try.func32, Try.ntmps32
    go_wp2_with (go_at_call 52; refine HC.out.mono ?_)
    rintro e w1 ⟨rfl, hb1⟩
    go_wp2
    go_ret
    exact ⟨congrArg (fun b => Ending.returned (.string b)) HR.out.symm, hb1⟩
end Go.Proofs.Ytnnmigglcpkomaa.Dm

/- slices.Reverse over entries in a row of their own. -/
set_option maxRecDepth 100000
namespace Go.Proofs.Ytnnmigglcpkomaa.Dm
open Go Go.RowKit Go.Sort

instance : Inhabited En := ⟨⟨0, 0, ⟨#[]⟩, none, [], 0, 0⟩⟩
theorem cellsE_len (e : En) : (cellsE e).length = 5 := rfl

theorem flatE (es : List En) : (flatK cellsE 5 es.toArray).toList = rowE es := by
  apply List.ext_getElem?
  intro t
  have hsz : (flatK cellsE 5 es.toArray).toList.length = es.length * 5 := by simp
  rcases Nat.lt_or_ge t (es.length * 5) with h | h
  · have hq : t / 5 < es.length := by omega
    have hr : t % 5 < 5 := by omega
    have e1 := get_flatK cellsE 5 es.toArray t (by simpa using h)
    have e2 := rowE_get es (t / 5) hq (t % 5) hr
    rw [show t / 5 * 5 + t % 5 = t by omega] at e2
    rw [e2]
    rw [getElem!_pos _ _ (by simpa using h)] at e1
    rw [List.getElem?_eq_getElem (by rw [hsz]; exact h), Array.getElem_toList, e1]
    have e3 : es.toArray[t / 5]! = es[t / 5] := by simp [hq]
    rw [e3, getElem!_pos _ _ (by rw [cellsE_len]; exact hr), List.getElem?_eq_getElem (by rw [cellsE_len]; exact hr)]
  · rw [List.getElem?_eq_none (by rw [hsz]; exact h), List.getElem?_eq_none (by rw [rowE_length]; exact h)]

theorem rev_any {N : Nat} {w : World} {a : Option Addr} {c : Nat} {es : List En} (h : EnSt N w (.slice a es.length c) es) :
    Calls Try.prog 33 #[.slice a es.length c] w fun e w' => e = .returned (.tuple #[]) ∧ EnSt N w' (.slice a es.length c) es.reverse ∧ w.grownBy w' (Value.slice a es.length c).ownBlock ∧ w'.heap.size = w.heap.size := by
  rcases h.row.2 with ⟨h1, h2⟩ | ⟨g, cap, cur, h1, hN, hg, hnc, hcm, hcs, ht⟩
  · have hes := List.eq_nil_of_length_eq_zero h2
    subst hes
    cases h1
    refine (AnyQ.slices_Reverse_empty Try.reverseEn none 0 w).mono ?_
    rintro e w' ⟨rfl, rfl⟩
    exact ⟨rfl, EnSt.nil _ _, ⟨rfl, rfl, rfl, Nat.le_refl _, fun _ _ _ => rfl⟩, rfl⟩
  · cases h1
    have hlen : (flatK cellsE 5 es.toArray).size = es.length * 5 := by simp
    have hH : HoldsK cellsE 5 w g 0 es.toArray := by
      intro j hj
      rw [hlen] at hj
      refine ⟨?_, Lib.frozen_of_heap hg _⟩
      rw [Nat.zero_add, Lib.cell_of_heap hg]
      have e1 : (flatK cellsE 5 es.toArray).toList[j]? = (rowE es)[j]? := by rw [flatE]
      rw [← ht, List.getElem?_take, if_pos hj] at e1
      rw [show cur[j]? = cur.toList[j]? by simp, ← e1, id]
      rw [Array.getElem?_toList, Array.getElem?_eq_getElem (by rw [hlen]; exact hj), getElem!_pos _ _ (by rw [hlen]; exact hj)]
    have hr := AnyQ.slices_Reverse Try.reverseEn 5 Try.isAgg35 Try.sizeOf35 cellsE cellsE_len (fun x v hv => by
      simp only [cellsE, List.mem_cons, List.not_mem_nil, or_false] at hv
      rcases hv with rfl | rfl | rfl | rfl | rfl <;> rfl) g 0 c es.toArray w hH (by simp; unfold maxLen at hcm; omega)
    rw [List.size_toArray, List.reverse_toArray] at hr
    refine Calls.mono (show Calls Try.prog 33 _ w _ from hr) ?_
    rintro e w' ⟨rfl, n, rfl⟩
    have hFl : (flatK cellsE 5 es.reverse.toArray).toList = rowE es.reverse := flatE es.reverse
    have hFs : (flatK cellsE 5 es.reverse.toArray).size = es.length * 5 := by simp
    obtain ⟨F, hF⟩ : ∃ F, F = flatK cellsE 5 es.reverse.toArray := ⟨_, rfl⟩
    have hW : putRowK cellsE 5 (Sort.ahead w n) g 0 es.reverse.toArray = Sort.mapBlock (Sort.ahead w n) g (Sort.putCells id 0 F) := by rw [hF]; rfl
    rw [hW]
    rw [← hF] at hFl hFs
    have hb : (Sort.mapBlock (Sort.ahead w n) g (Sort.putCells id 0 F)).heap[g]? = some (.cells (Sort.putCells id 0 F cur) 35 (0, 0)) := by
      show (w.heap.modify g (Sort.onCells _))[g]? = _
      rw [Array.getElem?_modify, if_pos rfl, hg]
      rfl
    have hbo : ∀ k, k ≠ g → (Sort.mapBlock (Sort.ahead w n) g (Sort.putCells id 0 F)).heap[k]? = w.heap[k]? := fun k hk => by
      show (w.heap.modify g (Sort.onCells _))[k]? = _
      rw [Array.getElem?_modify, if_neg (fun h => hk h.symm)]
    have hsz : (Sort.mapBlock (Sort.ahead w n) g (Sort.putCells id 0 F)).heap.size = w.heap.size := by
      show (w.heap.modify g (Sort.onCells _)).size = _
      simp
    have hps : (Sort.putCells id 0 F cur).size = cur.size := by simp [Sort.putCells]
    have hpt : (Sort.putCells id 0 F cur).toList.take (es.length * 5) = rowE es.reverse := by
      rw [← hFl]
      apply List.ext_getElem?
      intro t
      rw [List.getElem?_take]
      split
      · rename_i hlt
        have h1 : t < cur.size := by omega
        rw [Array.getElem?_toList, Array.getElem?_toList]
        unfold Sort.putCells
        rw [Array.getElem?_mapIdx, Array.getElem?_eq_getElem h1, Array.getElem?_eq_getElem (show t < F.size by omega)]
        simp only [Option.map_some, id]
        rw [if_pos ⟨by omega, by omega⟩, Nat.sub_zero, getElem!_pos _ _ (by omega)]
      · rename_i hge
        rw [List.getElem?_eq_none (by rw [Array.length_toList, hFs]; omega)]
    refine ⟨rfl, ⟨⟨by rw [rowE_length, List.length_reverse], .inr ⟨g, c, _, by rw [List.length_reverse], hN, hb, by rw [List.length_reverse]; exact hnc, hcm, by rw [hps]; exact hcs, by rw [List.length_reverse]; exact hpt⟩⟩, fun e he => ?_, fun e he => h.far e (List.mem_reverse.1 he)⟩, ⟨rfl, rfl, rfl, by rw [hsz]; exact Nat.le_refl _, fun k _ hk => hbo k (fun h => hk (by rw [h]; rfl))⟩, hsz⟩
    have hin := h.ins e (List.mem_reverse.1 he)
    refine ⟨hin.sl.same (by rw [hsz]; exact Nat.le_refl _) (fun b off o ha hx ho _ => ?_), hin.n, hin.ns, hin.t⟩
    rcases h.far e (List.mem_reverse.1 he) with h0 | ⟨b', off', e1, _, e3⟩
    · exact absurd h0 hx
    · rw [ha] at e1
      cases e1
      rw [hbo b (fun h => e3 (by rw [h]; rfl))]
      exact ho
end Go.Proofs.Ytnnmigglcpkomaa.Dm

/- Range of a method in hand, at what it holds. -/
set_option maxRecDepth 100000
namespace Go.Proofs.Ytnnmigglcpkomaa.Dm
open Go Go.RowKit Go.Shelf
attribute [local go_sem] Oper.semAt_some

theorem less_anti {a b : List UInt8} (h : Op.bytesLess a b = true) : Op.bytesLess b a = false := by
  have h1 := (cb_less a b).2 h
  have h2 := cb_swap a b
  rw [Bool.eq_false_iff]
  intro h3
  have := (cb_less b a).2 h3
  omega
theorem less_total (a b : List UInt8) : Op.bytesLess a b = true ∨ Op.bytesLess b a = true ∨ a = b := by
  have h2 := cb_swap a b
  rcases cb_cases a b with h | h | h
  · exact .inl ((cb_less a b).1 (by omega))
  · exact .inr (.inr (cb_zero a b h))
  · exact .inr (.inl ((cb_less b a).1 (by omega)))

/-- Handed over as entries of a list cs; where it is left early, a beginning of cs was handed over. -/
theorem from_memx (n : Nat) (hn : 1 ≤ n) (P rb hb : Nat) (v : Value) (ss : List Sh) (x : Hd) (w : World) (cs : List Et) (hR : RackAt w P v ss) (hs : SrtH (Sh.lists ss).flatten) (hlen : (Sh.lists ss).flatten.length < 2199023255552)
    (hall : ∀ i at' th, Seek (Sh.lists ss) x i at' th → ((Sh.lists ss).getD i []).drop at' ++ ((Sh.lists ss).drop (i + 1)).flatten = cs.map hOf)
    (K : Nat → Prop) (hK : ∀ k, bl P v ss k → K k) (hKr : K rb) (hKh : K hb) (hKw : ∀ k, K k → k < w.heap.size)
    (hr0 : w.cell? ⟨rb, 0, none⟩ = some (.pointer (some ⟨P, 1, none⟩))) (hh0 : w.cell? ⟨hb, 0, none⟩ = some (.string x.1)) (hh1 : w.cell? ⟨hb, 1, none⟩ = some (.int .i64 x.2)) :
    SeqStopsK Fence.wide n Try.prog 47 #[.pointer (some ⟨rb, 0, none⟩), .pointer (some ⟨hb, 0, none⟩)] (fun y : {c : Et // c ∈ cs} => #[hdV (hOf y.1)]) (KpB K) (fun xs => xs.map (·.1) = cs) (fun pre => pre.map (·.1) = cs.take pre.length) cs.length w := fun l J Jx W hW hJ hJx hY h0 => by
  refine (from1_mem n hn l P rb hb v ss x w (cs.map hOf) hR hs hlen hall K hK hKr hKh hKw hr0 hh0 hh1
    (fun pre W => ∃ p : List {c : Et // c ∈ cs}, p.map (·.1) = cs.take p.length ∧ pre = (cs.take p.length).map hOf ∧ p.length ≤ cs.length ∧ J p W) (fun _ W => ∃ p : List {c : Et // c ∈ cs}, p.map (·.1) = cs.take p.length ∧ Jx p W) W hW ?_ ?_ ⟨[], by simp, by simp, Nat.zero_le _, h0⟩).mono ?_
  · intro pre A B row hs hg hrow
    obtain ⟨p, h1, h2, h3, h4⟩ := hs
    exact ⟨p, h1, h2, h3, hJ p A B row h4 hg hrow⟩
  · rintro pre y W1 ⟨p, h1, h2, h3, h4⟩ ⟨r, hr⟩ hpl
    have hp : p.length < cs.length := by
      rw [h2] at hpl
      simp only [List.length_map, List.length_take] at hpl
      omega
    have hy : hOf (cs[p.length]'hp) = y := by
      have h7 : (cs.map hOf)[p.length]? = some y := by
        rw [← hr, h2]
        have : ((cs.take p.length).map hOf).length = p.length := by rw [List.length_map, List.length_take]; omega
        rw [List.append_assoc, List.getElem?_append_right (by omega), this]
        simp
      rw [List.getElem?_map, List.getElem?_eq_getElem hp] at h7
      simpa using h7
    have htk : cs.take (p.length + 1) = cs.take p.length ++ [cs[p.length]'hp] := List.take_succ_eq_append_getElem hp
    obtain ⟨fn, tmps, assign, body, hyy, hRr⟩ := hY p ⟨cs[p.length]'hp, List.getElem_mem _⟩ W1 h4 hp
    simp only [] at hyy hRr
    rw [hy] at hyy
    refine ⟨fn, tmps, assign, body, hyy, hRr.mono ?_⟩
    rintro e W' (⟨rfl, h5, h6⟩ | ⟨rfl, h5⟩)
    · refine .inl ⟨rfl, ⟨p ++ [⟨cs[p.length]'hp, List.getElem_mem _⟩], ?_, ?_, ?_, h5⟩, h6⟩
      · rw [List.map_append, List.length_append, List.length_singleton, htk, h1]; rfl
      · rw [List.length_append, List.length_singleton, htk, List.map_append, h2, List.map_singleton, hy]
      · rw [List.length_append, List.length_singleton]; omega
    · refine .inr ⟨rfl, p ++ [⟨cs[p.length]'hp, List.getElem_mem _⟩], ?_, h5⟩
      rw [List.map_append, List.length_append, List.length_singleton, htk, h1]; rfl
  · rintro e W' ⟨h1, h2⟩
    refine ⟨h1, ?_⟩
    rcases h2 with ⟨ys, rfl, p, h3, h4, h5, h6⟩ | ⟨pre, _, p, h2, h3⟩
    · left
      refine ⟨p, ?_, h6⟩
      have h7 := congrArg List.length h4
      simp only [List.length_map, List.length_take] at h7
      exact h3.trans (List.take_of_length_le (by omega))
    · exact .inr ⟨p, h2, h3⟩

set_option maxHeartbeats 1600000 in
theorem range_in (n : Nat) (hn : 4 ≤ n) (P : Nat) (v : Value) (ss : List Sh) (w : World) (cs : List Et) (pf pt : Option Addr) (df dt : Option En) (back : Bool) (hfit : ∀ c, c ∈ cs → FitE c ∧ I64 c.2) (hPl : PlAt w P v ss) (hs : SrtH (Sh.lists ss).flatten) (hlen : (Sh.lists ss).flatten.length < 2199023255552) (hcl : cs.length < 2199023255552)
    (hf : BdW w pf df) (ht : BdW w pt dt) (h0f : boundE df = 0) (h0t : boundE dt = 0)
    (hall : ∀ i at' th, Seek (Sh.lists ss) (endS df ⟨#[]⟩, 0) i at' th → ((Sh.lists ss).getD i []).drop at' ++ ((Sh.lists ss).drop (i + 1)).flatten = cs.map hOf) :
    CallsIn Fence.wide n Try.prog 16 #[.pointer (some ⟨P, 0, none⟩), .pointer pf, .pointer pt, .bool back] w fun r w' => ∃ a c es, r = .returned (.tuple #[.slice a (es : List En).length c, .int .i64 0]) ∧ EnSt w.heap.size w' (.slice a es.length c) es ∧ consE es = (if back = true then (cs.takeWhile fun y => ! Op.bytesLess (endS dt ⟨#[3]⟩).toList (hOf y).1.toList).reverse else cs.takeWhile fun y => ! Op.bytesLess (endS dt ⟨#[3]⟩).toList (hOf y).1.toList) ∧ Below w.heap.size w w' := by
  have h1 : 1 ≤ n := by omega
  have hPt := hPl.rack.lt
  have HG : Hid (CallsIn Fence.wide (n - 1) Try.prog 27 #[.pointer (some ⟨P, 0, none⟩)] w fun e w' => e = .returned (.bool true) ∧ w = w') := Lib.hid (callsIn_wide.2 ((given_yes P w hPl.self).mono (fun e w' h => ⟨h.1, h.2.symm⟩)))
  have HCE : Hid (CallsIn Fence.wide (n - 1) Try.prog 31 #[.slice (some ⟨w.heap.size, 0, none⟩) 2 2] (w.alloc (.cells #[.pointer pf, .pointer pt] 40)) fun e w' => e = .returned (.int .i64 0) ∧ Below w.heap.size w w') := Lib.hid (callsIn_wide.2 (by
    have hb := (Below.refl w.heap.size w).alloc (Nat.le_refl _) (.cells #[.pointer pf, .pointer pt] 40)
    have h := checkEnds_any w.heap.size [(pf, df), (pt, dt)] (w.alloc (.cells #[.pointer pf, .pointer pt] 40)) (fun j hj => by
      have hj2 : j < 2 := hj
      rcases (by omega : j = 0 ∨ j = 1) with rfl | rfl <;> simp) (fun x hx => by
      simp only [List.mem_cons, List.not_mem_nil, or_false] at hx
      rcases hx with rfl | rfl
      · exact hf.below hb
      · exact ht.below hb) (by simp) (by simp)
    refine h.mono ?_
    rintro e w' ⟨rfl, hb2⟩
    refine ⟨?_, hb.trans (hb2.mono hb.size)⟩
    have : endsE ([(pf, df), (pt, dt)].map (·.2)) = 0 := by
      unfold endsE
      simp [h0f, h0t]
    rw [this]))
  have HET : Hid (∀ W, Below w.heap.size w W → CallsIn Fence.wide (n - 1) Try.prog 32 #[.pointer pt, .string ⟨#[3]⟩] W fun r w' => r = .returned (.string (endS dt ⟨#[3]⟩)) ∧ Below W.heap.size W w') := Lib.hid (fun W hW => callsIn_wide.2 (endOf_any pt dt ⟨#[3]⟩ W (ht.below hW) h0t))
  have HEF : Hid (∀ W, Below w.heap.size w W → Calls Try.prog 32 #[.pointer pf, .string ⟨#[]⟩] W fun r w' => r = .returned (.string (endS df ⟨#[]⟩)) ∧ Below W.heap.size W w') := Lib.hid (fun W hW => endOf_any pf df ⟨#[]⟩ W (hf.below hW) h0f)
  obtain ⟨kf, hkf⟩ : ∃ kf, kf = endS df ⟨#[]⟩ := ⟨_, rfl⟩
  obtain ⟨kt, hkt⟩ : ∃ kt, kt = endS dt ⟨#[3]⟩ := ⟨_, rfl⟩
  rw [← hkf] at HEF hall
  rw [← hkt] at HET ⊢
  have HFR : Hid (∀ W, Calls Try.prog 28 #[.pointer (some ⟨P, 1, none⟩), .agg #[.string kf, .int .i64 0]] W fun e w' => e = .returned (.func (.func 47) #[] #[.pointer (some ⟨W.heap.size, 0, none⟩), .pointer (some ⟨W.heap.size + 1, 0, none⟩)]) ∧
    w' = (W.alloc (.cells #[.pointer (some ⟨P, 1, none⟩)] 99)).alloc (.cells #[.string kf, .int .i64 0] 80)) := Lib.hid (fun W => from_any P (kf, 0) W)
  have HEO : Hid (∀ W c, c ∈ cs → ∀ m l, CallsIn (Fence.wide.inRound l) m Try.prog 29 #[hdV (hOf c)] W fun r w' => ∃ e : En, r = .returned e.v ∧ e.c = c ∧ e.In w' ∧ (e.xs = [] ∨ ∃ b off, e.a = some ⟨b, off, none⟩ ∧ W.heap.size ≤ b) ∧ Below W.heap.size W w') := Lib.hid (fun W c hc m l => CallsIn.inRound l (callsIn_wide.2 (entryOf_lo c W (hfit c hc).1 (hfit c hc).2)))
  have HALL := Lib.hid hall
  have HP := Lib.hid hPl
  have HSS := Lib.hid hs
  have HLL := Lib.hid hlen
  have HCL := Lib.hid hcl
  clear hall hPl hs hlen hfit hcl hf ht h0f h0t hkf hkt
  have hF1 : Fence.wide.fn 27 := trivial
  have hF2 : Fence.wide.fn 28 := trivial
  have hF3 : Fence.wide.fn 29 := trivial
  have hF4 : Fence.wide.fn 31 := trivial
  have hF5 : Fence.wide.fn 32 := trivial
  have hF6 : Fence.wide.fn 33 := trivial
  refine callsIn_of_wp_marks Try.func16 rfl trivial ?_ rfl
  simp only [Try.ntmps16, List.size_toArray, List.length_cons, List.length_nil, Nat.reduceAdd, Nat.reduceSub, Array.replicate_succ, Array.replicate_zero, List.push_toArray, List.append_toArray, List.nil_append, List.cons_append]
  gi_wp2_with fail
  refine HG.out.mono ?_
  rintro e w' ⟨rfl, rfl⟩
  gi_wp2_with fail
  refine HCE.out.mono ?_
  rintro e w1 ⟨rfl, hb1⟩
  have HB1 := Lib.hid hb1
  clear hb1
  gi_wp2_with fail
  refine (HET.out _ HB1.out).mono ?_
  rintro e w2 ⟨rfl, hb2⟩
  have HB2 : Hid (Below w.heap.size w w2) := Lib.hid (HB1.out.trans (hb2.mono HB1.out.size))
  clear hb2
  gi_wp2_with fail
  obtain ⟨W2, hW2⟩ : ∃ W2, W2 = (w2.alloc (.cells #[.string kt] 9)).alloc (.cells #[.slice none 0 0] 25) := ⟨_, rfl⟩
  rw [← hW2]
  have hs2 : W2.heap.size = w2.heap.size + 1 + 1 := by rw [hW2]; simp
  have hBW2 : Below w.heap.size w W2 := by rw [hW2]; exact (HB2.out.alloc HB2.out.size _).alloc (by have := HB2.out.size; simp; omega) _
  have bK2 : Boxed W2 w2.heap.size 9 (.string kt) := by
    rw [hW2]; exact (Boxed.new w2 9 (.string kt)).alloc _
  have bL2 : Boxed W2 (w2.heap.size + 1) 25 (.slice none 0 0) := by
    have := Boxed.new (w2.alloc (.cells #[.string kt] 9)) 25 (.slice none 0 0)
    rw [World.size_alloc] at this
    rw [hW2]; exact this
  have HBW2 := Lib.hid hBW2
  have HBK2 := Lib.hid bK2
  have HBL2 := Lib.hid bL2
  have HS2 := Lib.hid hs2
  clear hBW2 bK2 bL2 hs2 hW2
  refine wpIn_wide.2 ?_
  refine wp_region_noPanic ?_
  go_region_law (first
    | (go_simp; go_at_call 32; refine (HEF.out _ HBW2.out.drew).mono ?_; rintro e w3 ⟨rfl, hb3⟩)
    | (go_simp; go_at_call 28; refine (HFR.out _).mono ?_; rintro e w' ⟨rfl, rfl⟩))
  refine NoPanic.normal ?_
  gi_wp2_with fail
  obtain ⟨W0, hW0⟩ : ∃ W0, W0 = (w3.alloc (.cells #[.pointer (some ⟨P, 1, none⟩)] 99)).alloc (.cells #[.string kf, .int .i64 0] 80) := ⟨_, rfl⟩
  rw [← hW0]
  have hb23 : Below W2.heap.size W2 w3 := (Below.refl _ _).drew.trans hb3
  have hBw3 : Below w.heap.size w w3 := HBW2.out.trans (hb23.mono HBW2.out.size)
  have hsz : W0.heap.size = w3.heap.size + 1 + 1 := by rw [hW0]; simp
  have h32 := hb23.size
  have hs2 := HS2.out
  have hB30 : Below w3.heap.size w3 W0 := by rw [hW0]; exact ((Below.refl _ _).alloc (Nat.le_refl _) _).alloc (by simp) _
  have hBw : Below w.heap.size w W0 := hBw3.trans (hB30.mono hBw3.size)
  have bK : Boxed W0 w2.heap.size 9 (.string kt) := (hB30.block _ (by omega)).trans ((hb23.block _ (by omega)).trans HBK2.out)
  have bL : Boxed W0 (w2.heap.size + 1) 25 (.slice none 0 0) := (hB30.block _ (by omega)).trans ((hb23.block _ (by omega)).trans HBL2.out)
  have hr0 : W0.cell? ⟨w3.heap.size, 0, none⟩ = some (.pointer (some ⟨P, 1, none⟩)) := by
    rw [hW0]; exact ((Boxed.new w3 99 (.pointer (some ⟨P, 1, none⟩))).alloc _).cell
  have hH : W0.heap[w3.heap.size + 1]? = some (.cells #[.string kf, .int .i64 0] 80) := by
    have := heap_alloc_new (w3.alloc (.cells #[.pointer (some ⟨P, 1, none⟩)] 99)) (.cells #[.string kf, .int .i64 0] 80)
    rw [World.size_alloc] at this
    rw [hW0]; exact this
  have hh0 : W0.cell? ⟨w3.heap.size + 1, 0, none⟩ = some (.string kf) := by rw [Lib.cell_of_heap hH]; rfl
  have hh1 : W0.cell? ⟨w3.heap.size + 1, 1, none⟩ = some (.int .i64 0) := by rw [Lib.cell_of_heap hH]; rfl
  have hRK : RackAt W0 P v ss := HP.out.rack.below hBw
  have hww2 := HB2.out.size
  have hKW : ∀ k, (bl P v ss k ∨ k = w3.heap.size ∨ k = w3.heap.size + 1) → k < W0.heap.size ∧ k ≠ w2.heap.size + 1 := fun k hk => by
    rcases hk with h | rfl | rfl
    · have := HP.out.rack.bl_lt k h
      omega
    · omega
    · omega
  have HKW := Lib.hid hKW
  have HBw := Lib.hid hBw
  have HI : ∃ I : List {c : Et // c ∈ cs} → World → Prop, Hid (∀ pre W, I pre W ↔ ((∃ v' es, Boxed W (w2.heap.size + 1) 25 v' ∧ EnSt W0.heap.size W v' es ∧ consE es = pre.map (·.1)) ∧ Boxed W w2.heap.size 9 (.string kt) ∧ Below w.heap.size w W ∧ W0.heap.size ≤ W.heap.size ∧ ∀ y, y ∈ pre → Op.bytesLess kt.toList (hOf y.1).1.toList = false)) := ⟨_, Lib.hid (fun _ _ => Iff.rfl)⟩
  obtain ⟨I, HI⟩ := HI
  have hIown : OwnFrom W0.heap.size I := fun pre A B row hi hg hrow => by
    obtain ⟨⟨v', es, hv, he, hc⟩, hk, hB, hN, hy⟩ := (HI.out _ _).1 hi
    have hne : ∀ (j : Nat) (cs : Array Value) (T : TypeId) (fz : Nat × Nat), A.heap[j]? = some (.cells cs T fz) → some j ≠ row := fun j cs T fz hj e => by
      obtain ⟨_, o, ho, hc⟩ := hrow j e.symm
      rw [hj] at ho
      cases ho
      cases hc
    refine (HI.out _ _).2 ⟨⟨v', es, hv.kept hg (hne _ _ _ _ hv), he.kept hg (fun r hr => (hrow r hr).2), hc⟩, hk.kept hg (hne _ _ _ _ hk), ?_, Nat.le_trans hN hg.size, hy⟩
    refine hB.grown hg hB.size (fun k e => ?_)
    have := (hrow k e).1
    have := hBw.size
    omega
  have HIX : ∃ Ix : Code → List {c : Et // c ∈ cs} → World → Prop, Hid (∀ c pre W, Ix c pre W ↔ (c = .exit 0 ∧ ∃ pre' y, pre = pre' ++ [y] ∧ Op.bytesLess kt.toList (hOf y.1).1.toList = true ∧ I pre' W)) := ⟨_, Lib.hid (fun _ _ _ => Iff.rfl)⟩
  obtain ⟨Ix, HIX⟩ := HIX
  have HSZ : Hid (W0.heap.size = w3.heap.size + 1 + 1 ∧ W2.heap.size ≤ w3.heap.size ∧ W2.heap.size = w2.heap.size + 1 + 1 ∧ w.heap.size ≤ w2.heap.size) := Lib.hid ⟨hsz, h32, hs2, hww2⟩
  have HW0 := Lib.hid hW0
  clear hsz hW0 hH hb23 hBw3 h32 hs2 hB30 hb3 hww2
  refine wpIn_rangeFunc_ownH (w0 := W0) rfl h1 (gf := 47) (lb := #[.pointer (some ⟨w3.heap.size, 0, none⟩), .pointer (some ⟨w3.heap.size + 1, 0, none⟩)]) rfl trivial (enters_of Try.func47 (by kernel_rfl) rfl)
    (from_memx (n - 1) (by omega) P w3.heap.size (w3.heap.size + 1) v ss (kf, 0) W0 cs hRK HSS.out HLL.out HALL.out (fun k => bl P v ss k ∨ k = w3.heap.size ∨ k = w3.heap.size + 1) (fun k h => .inl h) (.inr (.inl rfl)) (.inr (.inr rfl)) (fun k h => (HKW.out k h).1) hr0 hh0 hh1)
    KpB.trans (fun W l o o' hl ho _ _ k hk => by
      have h5 := (HKW.out k hk).1
      have h6 := (Array.getElem?_eq_some_iff.1 ho).1
      exact grown_ne (grownBy_putObj' W l o') ⟨by omega, by omega⟩) (Below.refl _ _) (fun _ => rfl) I
    Ix hIown (fun c pre A B row hs hg hrow => by obtain ⟨h1, p', y, h2, h3, h4⟩ := (HIX.out _ _ _).1 hs; exact (HIX.out _ _ _).2 ⟨h1, p', y, h2, h3, hIown p' A B row h4 hg hrow⟩)
    ((HI.out _ _).2 ⟨⟨_, [], bL, EnSt.nil _ _, by simp [consE]⟩, bK, HBw.out, Nat.le_refl _, fun y hy => (by cases hy)⟩)
    (fun y a' W => ∃ Bx, W0.heap.size ≤ Bx ∧ W.heap[Bx]? = some (.cells #[.string (hOf y.1).1, .int .i64 (hOf y.1).2] 80 (0, 0)) ∧ a' = { tmps := #[.pointer (some ⟨P, 0, none⟩), .pointer pf, .pointer pt, .bool back, undef, undef, undef, undef, .slice none 0 0, .int .i64 0, .int .i64 0, .pointer (some ⟨w2.heap.size, 0, none⟩), .pointer (some ⟨w2.heap.size + 1, 0, none⟩), .pointer (some ⟨Bx, 0, none⟩), .pointer (some ⟨P, 0, none⟩), .bool true, .bool false, .pointer pf, .pointer pt, .slice (some ⟨w.heap.size, 0, none⟩) 2 2, .int .i64 0, .int .i64 0, .bool false, undef, .pointer pt, .string kt, .pointer (some ⟨P, 0, none⟩), .pointer (some ⟨P, 0, none⟩), .pointer (some ⟨P, 1, none⟩), .pointer pf, .string kf, .agg #[.string kf, .int .i64 0], .func (.func 47) #[] #[.pointer (some ⟨w3.heap.size, 0, none⟩), .pointer (some ⟨w3.heap.size + 1, 0, none⟩)], hdV (hOf y.1), undef, undef, undef, undef, undef, undef, undef, undef, undef, undef, undef, undef, undef], defers := [] })
    (fun y a' _ A B row hs hg hrow => by
      obtain ⟨Bx, h1, h2, h3⟩ := hs
      refine ⟨Bx, h1, (hg.block Bx (Array.getElem?_eq_some_iff.1 h2).1 (fun e => ?_)).trans h2, h3⟩
      obtain ⟨_, o, ho, hc⟩ := hrow Bx e.symm
      rw [h2] at ho
      cases ho
      cases hc) ?assign ?body ?done ?stop
  case assign =>
    rintro l pre ⟨c, hmem⟩ W K hi hK
    have HKK := Lib.hid hK
    have HII := Lib.hid hi
    clear hK hi
    simp only [] at HKK ⊢
    obtain ⟨y, hy⟩ : ∃ y, y = hOf c := ⟨_, rfl⟩
    rw [← hy] at HKK ⊢
    clear hy
    obtain ⟨yk, yt⟩ := y
    unfold hdV at HKK ⊢
    gi_wp2
    obtain ⟨_, _, _, hNW, _⟩ := (HI.out _ _).1 HII.out
    exact HKK.out _ _ ((KeepsOthers.alloc _ _).from _) (KpB.below ((Below.refl _ _).alloc (Nat.le_refl _) _) (fun k hk => by have := (HKW.out k hk).1; omega)) (hIown pre _ _ none HII.out (World.grownBy_alloc W _ none) (fun r h => by cases h)) ⟨W.heap.size, hNW, new_heap W _, rfl⟩
  case body =>
    rintro l pre ⟨c, hmem⟩ a' W hl ⟨r, hr⟩ hi ⟨Bx, hBx, bX, rfl⟩ hlt
    have HIi := Lib.hid hi
    obtain ⟨⟨v', es, hv, he, hce⟩, hk, hB, hN, hny⟩ := (HI.out _ _).1 hi
    obtain ⟨hz1, hz2, hz3, hz4⟩ := HSZ.out
    have hel : es.length < 2199023255552 := by
      have h7 := congrArg List.length hce
      have := HCL.out
      unfold consE at h7
      rw [List.length_map, List.length_map] at h7
      omega
    simp only [] at bX ⊢
    obtain ⟨y, hyc⟩ : ∃ y, hOf c = y := ⟨_, rfl⟩
    have HGT0 : Hid (Op.bytesLess kt.toList (hOf c).1.toList = Op.bytesLess kt.toList y.1.toList) := Lib.hid (by rw [hyc])
    rw [hyc] at bX ⊢
    obtain ⟨yk, yt⟩ := y
    simp only [] at HGT0
    have HC : Hid (∀ m, CallsIn (Fence.wide.inRound l) m Try.prog 29 #[.agg #[.string yk, .int .i64 yt]] W.drew fun r w' => ∃ e : En, r = .returned (.agg #[.int .i64 e.k, .int .i64 e.n, .string e.s, .slice e.a e.xs.length e.lc, .int .i64 e.t]) ∧ Below W.heap.size W w' ∧ Hid (e.c = c ∧ e.In w' ∧ (e.xs = [] ∨ ∃ b off, e.a = some ⟨b, off, none⟩ ∧ W.heap.size ≤ b))) := Lib.hid (fun m => by
      have h8 := HEO.out W.drew c hmem m l
      rw [hyc] at h8
      refine h8.mono ?_
      rintro r w' ⟨e, rfl, h9, h10, h11, h12⟩
      exact ⟨e, rfl, (Below.refl _ _).drew.trans h12, Lib.hid ⟨h9, h10, h11⟩⟩)
    have hLW : w2.heap.size + 1 < W.heap.size := by omega
    have hL0 : w2.heap.size + 1 < W0.heap.size := by omega
    have HSTEP : Hid (∀ (e : En) w1, Op.bytesLess kt.toList yk.toList = false → Below W.heap.size W w1 → Hid (e.c = c ∧ e.In w1 ∧ (e.xs = [] ∨ ∃ b off, e.a = some ⟨b, off, none⟩ ∧ W.heap.size ≤ b)) → ∃ a2 n2 c2 wz, (Builtin.append_ #[25, 25] 25 #[v', .slice (some ⟨w1.heap.size, 0, none⟩) 1 1]).run Try.prog (w1.alloc (.cells #[.int .i64 e.k, .int .i64 e.n, .string e.s, .slice e.a e.xs.length e.lc, .int .i64 e.t] 35)) = .ok (.slice a2 n2 c2) wz ∧
        wz.cell? ⟨w2.heap.size + 1, 0, none⟩ = some v' ∧ wz.frozen? ⟨w2.heap.size + 1, 0, none⟩ = false ∧ Hid (KeepsFrom W0.heap.size W (wz.setCell ⟨w2.heap.size + 1, 0, none⟩ (.slice a2 n2 c2)) ∧ KpB (fun k => bl P v ss k ∨ k = w3.heap.size ∨ k = w3.heap.size + 1) W (wz.setCell ⟨w2.heap.size + 1, 0, none⟩ (.slice a2 n2 c2)) ∧ I (pre ++ [⟨c, hmem⟩]) (wz.setCell ⟨w2.heap.size + 1, 0, none⟩ (.slice a2 n2 c2)))) := Lib.hid (fun e w1 hngt hb1 hE => by
      obtain ⟨h9, h10, h11⟩ := hE.out
      have hws := hb1.size
      obtain ⟨v2, wz, hrun, hrow2, hg, hown⟩ := put_enAt 25 (he.row.below hb1) e 35 hel (Nat.le_trans hN hws)
      have hst : EnSt W0.heap.size wz v2 (es ++ [e]) := he.put hN hb1 h10 h11 hrow2 hg hown
      have hvb : ∀ k, v'.ownBlock = some k → W0.heap.size ≤ k ∧ k < W.heap.size := fun k hk => he.row.lt k hk
      have hold : ∀ k, k < W.heap.size → v'.ownBlock ≠ some k → wz.heap[k]? = W.heap[k]? := fun k h7 h8 => by
        rw [hg.block k (by simp; omega) (fun e => h8 e.symm), Below.heap_alloc _ _ _ (by omega)]
        exact hb1.block k h7
      have hLn : v'.ownBlock ≠ some (w2.heap.size + 1) := fun e => by have := (hvb _ e).1; omega
      have hKn : v'.ownBlock ≠ some w2.heap.size := fun e => by have := (hvb _ e).1; omega
      have hb2 : wz.heap[w2.heap.size + 1]? = W.heap[w2.heap.size + 1]? := hold _ hLW hLn
      have hbx : Boxed wz (w2.heap.size + 1) 25 v' := hb2.trans hv
      obtain ⟨a2, c2, rfl⟩ := hrow2.shape
      refine ⟨a2, _, c2, wz, hrun, hbx.cell, hbx.frozen, Lib.hid ⟨?_, fun k hk => ?_, (HI.out _ _).2 ⟨⟨_, es ++ [e], hbx.set _, hst.set hL0 _, ?_⟩, ?_, ?_, ?_, ?_⟩⟩⟩
      · refine ⟨?_, fun k o _ hk ho => ?_⟩
        · have := hg.size
          simp only [World.setCell, Array.size_modify, World.size_alloc] at this ⊢
          omega
        · have hkl := (Array.getElem?_eq_some_iff.1 hk).1
          have hne : k ≠ w2.heap.size + 1 := fun e => by
            subst e
            rw [hv] at hk
            cases hk
            cases ho
          rw [Below.heap_setCell _ _ _ _ hne, hold k hkl (fun e => ?_)]
          · exact hk
          · rcases he.row.2 with ⟨rfl, _⟩ | ⟨g, cap, cur, rfl, _, hgb, _⟩
            · cases e
            · cases e
              rw [hgb] at hk
              cases hk
              cases ho
      · have h5 := HKW.out k hk
        rw [Below.heap_setCell _ _ _ _ h5.2]
        exact hold k (by omega) (fun e => by have := (hvb _ e).1; omega)
      · unfold consE at hce ⊢
        rw [List.map_append, List.map_append, List.map_singleton, h9, hce]
        rfl
      · exact (Below.heap_setCell _ _ _ _ (by show w2.heap.size ≠ w2.heap.size + 1; omega)).trans ((hold _ (by omega) hKn).trans hk)
      · refine Below.setCell (p := ⟨w2.heap.size + 1, 0, none⟩) ?_ (by show w.heap.size ≤ w2.heap.size + 1; omega) _
        exact ((hB.trans (hb1.mono hB.size)).alloc (by have := hB.size; omega) _).grown hg (by have := hB.size; simp; omega) (fun k e => by have := (hvb _ e).1; omega)
      · have := hg.size
        simp only [World.setCell, Array.size_modify, World.size_alloc] at this ⊢
        omega
      · intro y hy
        rcases List.mem_append.1 hy with h | h
        · exact hny y h
        · rw [List.mem_singleton.1 h, HGT0.out]; exact hngt)
    have hcL := hv.cell
    have hkc := hk.cell
    have x0 : W.cell? ⟨Bx, 0, none⟩ = some (.string yk) := by rw [Lib.cell_of_heap bX]; rfl
    have x1 : W.cell? ⟨Bx, 1, none⟩ = some (.int .i64 yt) := by rw [Lib.cell_of_heap bX]; rfl
    have hmx : Try.prog.follows .mixedOrders = true := by kernel_rfl
    have hd : 1 ≤ n - 1 - 1 := by omega
    have hBL : Bx < W.heap.size := (Array.getElem?_eq_some_iff.1 bX).1
    clear hv he hce hB hN hyc hel hi bX hr hlt hk hny hz1 hz2 hz3 hz4
    unfold hdV
    by_cases hgt : Op.bytesLess kt.toList yk.toList = true
    · have hA : Op.bytesLess yk.toList kt.toList = false := less_anti hgt
      have hB : (yk.toList == kt.toList) = false := by
        rw [beq_eq_false_iff_ne]
        intro h
        rw [h, bytesLess_self] at hgt
        cases hgt
      have HGT := Lib.hid hgt
      clear hgt HSTEP HC
      gi_wp2
      exact ⟨KeepsFrom.refl _ _, (HIX.out _ _ _).2 ⟨rfl, pre, ⟨c, hmem⟩, rfl, by rw [HGT0.out]; exact HGT.out, HIi.out⟩⟩
    have HNG : Hid (Op.bytesLess kt.toList yk.toList = false) := Lib.hid (by simpa using hgt)
    have hng : Op.bytesLess yk.toList kt.toList = true ∨ (Op.bytesLess yk.toList kt.toList = false ∧ (yk.toList == kt.toList) = true) := by
      rcases less_total yk.toList kt.toList with h | h | h
      · exact .inl h
      · rw [HNG.out] at h; cases h
      · exact .inr ⟨by rw [h]; exact bytesLess_self _, by rw [beq_iff_eq]; exact h⟩
    clear hgt HIi
    clear HGT0
    rcases hng with hA | ⟨hA, hB⟩
    all_goals
      gi_wp2
      refine wpIn_region_any (by assumption) ?_
      try (change wpAnyIn _ _ _ _ _ _ _ _ _ (World.drew _))
      refine wpAnyIn_ready (rs := [0, 1]) (by kernel_rfl) (by simp) ?_
      refine AllReadyIn.cons rfl (fun K hK => ?_) (AllReadyIn.cons rfl (fun K hK => ?_) AllReadyIn.nil)
      · go_simp
        refine hK _ _ ?_
        clear hK K
        refine wpAnyIn_ready (rs := [1]) (by kernel_rfl) (by simp) ?_
        refine AllReadyIn.cons rfl (fun K hK => ?_) AllReadyIn.nil
        go_simp
        refine hK _ _ ?_
        clear hK K
        refine wpAnyIn_ready (rs := [2]) (by kernel_rfl) (by simp) ?_
        refine AllReadyIn.cons rfl (fun K hK => ?_) AllReadyIn.nil
        go_simp
        gi_wp2_with (gi_at_call 29; refine (HC.out _).mono ?_; rintro e1 w1 ⟨en, rfl, hb1, hE⟩; obtain ⟨a2, n2, c2, wz, hrun, hc2, hf2, HF⟩ := HSTEP.out en w1 HNG.out hb1 hE; have hcL1 := (hb1.cell (p := ⟨w2.heap.size + 1, 0, none⟩) hLW).trans hcL; have hLW1 : w2.heap.size + 1 < w1.heap.size := Nat.lt_of_lt_of_le hLW hb1.size)
        try (refine hK _ _ ?_)
        try clear hK K
        refine wpAnyIn_ready (rs := [3]) (by kernel_rfl) (by simp) ?_
        refine AllReadyIn.cons rfl (fun K hK => ?_) AllReadyIn.nil
        go_simp
        refine hK _ _ ?_
        clear hK K
        refine wpAnyIn_ready (rs := [4]) (by kernel_rfl) (by simp) ?_
        refine AllReadyIn.cons rfl (fun K hK => ?_) AllReadyIn.nil
        refine step_app_in rfl _ _ 25 rfl _ _ _ (by rfl) (by rfl) hrun ?_
        refine hK _ _ ?_
        clear hK K
        refine wpAnyIn_ready (rs := [5]) (by kernel_rfl) (by simp) ?_
        refine AllReadyIn.cons rfl (fun K hK => ?_) AllReadyIn.nil
        go_simp
        refine hK _ _ ?_
        clear hK K
        refine wpAnyIn_done (by kernel_rfl) ?_ _
        gi_wp2
        exact HF.out
      · go_simp
        refine hK _ _ ?_
        clear hK K
        refine wpAnyIn_ready (rs := [0, 2]) (by kernel_rfl) (by simp) ?_
        refine AllReadyIn.cons rfl (fun K hK => ?_) (AllReadyIn.cons rfl (fun K hK => ?_) AllReadyIn.nil)
        · go_simp
          refine hK _ _ ?_
          clear hK K
          refine wpAnyIn_ready (rs := [2]) (by kernel_rfl) (by simp) ?_
          refine AllReadyIn.cons rfl (fun K hK => ?_) AllReadyIn.nil
          go_simp
          gi_wp2_with (gi_at_call 29; refine (HC.out _).mono ?_; rintro e1 w1 ⟨en, rfl, hb1, hE⟩; obtain ⟨a2, n2, c2, wz, hrun, hc2, hf2, HF⟩ := HSTEP.out en w1 HNG.out hb1 hE; have hcL1 := (hb1.cell (p := ⟨w2.heap.size + 1, 0, none⟩) hLW).trans hcL; have hLW1 : w2.heap.size + 1 < w1.heap.size := Nat.lt_of_lt_of_le hLW hb1.size)
          try (refine hK _ _ ?_)
          try clear hK K
          refine wpAnyIn_ready (rs := [3]) (by kernel_rfl) (by simp) ?_
          refine AllReadyIn.cons rfl (fun K hK => ?_) AllReadyIn.nil
          go_simp
          refine hK _ _ ?_
          clear hK K
          refine wpAnyIn_ready (rs := [4]) (by kernel_rfl) (by simp) ?_
          refine AllReadyIn.cons rfl (fun K hK => ?_) AllReadyIn.nil
          refine step_app_in rfl _ _ 25 rfl _ _ _ (by rfl) (by rfl) hrun ?_
          refine hK _ _ ?_
          clear hK K
          refine wpAnyIn_ready (rs := [5]) (by kernel_rfl) (by simp) ?_
          refine AllReadyIn.cons rfl (fun K hK => ?_) AllReadyIn.nil
          go_simp
          refine hK _ _ ?_
          clear hK K
          refine wpAnyIn_done (by kernel_rfl) ?_ _
          gi_wp2
          exact HF.out
        · go_simp
          gi_wp2_with (gi_at_call 29; refine (HC.out _).mono ?_; rintro e1 w1 ⟨en, rfl, hb1, hE⟩; obtain ⟨a2, n2, c2, wz, hrun, hc2, hf2, HF⟩ := HSTEP.out en w1 HNG.out hb1 hE; have hcL1 := (hb1.cell (p := ⟨w2.heap.size + 1, 0, none⟩) hLW).trans hcL; have hLW1 : w2.heap.size + 1 < w1.heap.size := Nat.lt_of_lt_of_le hLW hb1.size)
          try (refine hK _ _ ?_)
          try clear hK K
          refine wpAnyIn_ready (rs := [0, 3]) (by kernel_rfl) (by simp) ?_
          refine AllReadyIn.cons rfl (fun K hK => ?_) (AllReadyIn.cons rfl (fun K hK => ?_) AllReadyIn.nil)
          · go_simp
            refine hK _ _ ?_
            clear hK K
            refine wpAnyIn_ready (rs := [3]) (by kernel_rfl) (by simp) ?_
            refine AllReadyIn.cons rfl (fun K hK => ?_) AllReadyIn.nil
            go_simp
            refine hK _ _ ?_
            clear hK K
            refine wpAnyIn_ready (rs := [4]) (by kernel_rfl) (by simp) ?_
            refine AllReadyIn.cons rfl (fun K hK => ?_) AllReadyIn.nil
            refine step_app_in rfl _ _ 25 rfl _ _ _ (by rfl) (by rfl) hrun ?_
            refine hK _ _ ?_
            clear hK K
            refine wpAnyIn_ready (rs := [5]) (by kernel_rfl) (by simp) ?_
            refine AllReadyIn.cons rfl (fun K hK => ?_) AllReadyIn.nil
            go_simp
            refine hK _ _ ?_
            clear hK K
            refine wpAnyIn_done (by kernel_rfl) ?_ _
            gi_wp2
            exact HF.out
          · go_simp
            refine hK _ _ ?_
            clear hK K
            refine wpAnyIn_ready (rs := [0]) (by kernel_rfl) (by simp) ?_
            refine AllReadyIn.cons rfl (fun K hK => ?_) AllReadyIn.nil
            go_simp
            refine hK _ _ ?_
            clear hK K
            refine wpAnyIn_ready (rs := [4]) (by kernel_rfl) (by simp) ?_
            refine AllReadyIn.cons rfl (fun K hK => ?_) AllReadyIn.nil
            refine step_app_in rfl _ _ 25 rfl _ _ _ (by rfl) (by rfl) hrun ?_
            refine hK _ _ ?_
            clear hK K
            refine wpAnyIn_ready (rs := [5]) (by kernel_rfl) (by simp) ?_
            refine AllReadyIn.cons rfl (fun K hK => ?_) AllReadyIn.nil
            go_simp
            refine hK _ _ ?_
            clear hK K
            refine wpAnyIn_done (by kernel_rfl) ?_ _
            gi_wp2
            exact HF.out
  case done =>
    rintro D ys W hD hys hi hK
    obtain ⟨⟨v', es, hv, he, hce⟩, hk, hB, hN, hny⟩ := (HI.out _ _).1 hi
    obtain ⟨a2, c2, rfl⟩ := he.row.shape
    have HTW : Hid (cs.takeWhile (fun y => ! Op.bytesLess kt.toList (hOf y).1.toList) = consE es) := Lib.hid (by
      rw [hce]
      have h9 : ∀ c, c ∈ cs → (! Op.bytesLess kt.toList (hOf c).1.toList) = true := fun c hc => by
        rw [← hys] at hc
        obtain ⟨y, hy, rfl⟩ := List.mem_map.1 hc
        rw [hny y hy]; rfl
      rw [hys]
      exact takeWhile_all h9)
    have hc := hv.cell
    have hle : w.heap.size ≤ W0.heap.size := HBw.out.size
    have hDW : D < W.heap.size := (Array.getElem?_eq_some_iff.1 hK).1
    obtain ⟨hz1, hz2, hz3, hz4⟩ := HSZ.out
    cases back with
    | false =>
      clear hz1 hz2 hz3 hz4
      gi_wp2
      refine ⟨by simp, .inl ⟨_, _, rfl, run_takeDeferred hK, ?_⟩⟩
      refine ⟨_, results_tmp2 rfl _ _ _, a2, c2, es, rfl, ?_, ?_, ?_⟩
      · have h8 := he.kept (grownBy_putObj' W D (.deferred none)) (fun r hr => ⟨_, by cases hr; exact hK, rfl⟩)
        exact ⟨h8.row.mono hle, h8.ins, fun e he => (h8.far e he).imp id fun ⟨b, off, e1, e2, e3⟩ => ⟨b, off, e1, Nat.le_trans hle e2, e3⟩⟩
      · rw [HTW.out]
      · exact hB.trans (belowK_b (w := w) (Nat.le_refl _) W D _ _ (Nat.le_trans HBw.out.size hD) hK rfl rfl)
    | true =>
      have hvb : ∀ k, (Value.slice a2 es.length c2).ownBlock = some k → W0.heap.size ≤ k ∧ k < W.heap.size := fun k hk => he.row.lt k hk
      have hoD : (Value.slice a2 es.length c2).ownBlock ≠ some D := fun e => by
        rcases he.row.2 with ⟨h1, _⟩ | ⟨g, cap, cur, h1, _, hgb, _⟩
        · rw [h1] at e; cases e
        · rw [h1] at e; cases e; rw [hgb] at hK; cases hK
      have HRV : Hid (∀ m, CallsIn Fence.wide m Try.prog 33 #[.slice a2 es.length c2] W fun e w4 => e = .returned (.tuple #[]) ∧ w4.cell? ⟨w2.heap.size + 1, 0, none⟩ = some (.slice a2 es.length c2) ∧ Hid (EnSt W0.heap.size w4 (.slice a2 es.length c2) es.reverse ∧ Below w.heap.size w w4) ∧ w4.heap[D]? = some (.deferred (some []))) := Lib.hid (fun m => callsIn_wide.2 ((rev_any he).mono (by
        rintro e w4 ⟨rfl, h4, h5, h6⟩
        refine ⟨rfl, ?_, Lib.hid ⟨h4, hB.grown h5 hB.size (fun k e => by have := (hvb k e).1; have := hB.size; omega)⟩, ?_⟩
        · have : Boxed w4 (w2.heap.size + 1) 25 (.slice a2 es.length c2) := (h5.block _ (by omega) (fun e => by have := (hvb _ e.symm).1; omega)).trans hv
          exact this.cell
        · exact (h5.block D hDW (fun e => hoD e.symm)).trans hK)))
      clear hz1 hz2 hz3 hz4
      gi_wp2_with (gi_at_call 33; refine (HRV.out _).mono ?_; rintro e1 w4 ⟨rfl, hc4, HE4, hK4⟩)
      refine ⟨by simp, .inl ⟨_, _, rfl, run_takeDeferred hK4, ?_⟩⟩
      obtain ⟨he4, hB4⟩ := HE4.out
      refine ⟨_, results_tmp2 rfl _ _ _, a2, c2, es.reverse, by rw [List.length_reverse]; rfl, ?_, ?_, ?_⟩
      · have h8 := he4.kept (grownBy_putObj' w4 D (.deferred none)) (fun r hr => ⟨_, by cases hr; exact hK4, rfl⟩)
        rw [List.length_reverse]
        exact ⟨h8.row.mono hle, h8.ins, fun e he => (h8.far e he).imp id fun ⟨b, off, e1, e2, e3⟩ => ⟨b, off, e1, Nat.le_trans hle e2, e3⟩⟩
      · rw [HTW.out]
        show _ = (consE es).reverse
        unfold consE
        rw [List.map_reverse]
      · exact hB4.trans (belowK_b (w := w) (Nat.le_refl _) w4 D _ _ (Nat.le_trans HBw.out.size hD) hK4 rfl rfl)
  case stop =>
    rintro D c pre W hD hpre hix hK
    obtain ⟨rfl, pre', y, hp, hyk, hi⟩ := (HIX.out _ _ _).1 hix
    obtain ⟨⟨v', es, hv, he, hce⟩, hk, hB, hN, hny⟩ := (HI.out _ _).1 hi
    obtain ⟨a2, c2, rfl⟩ := he.row.shape
    have HTW : Hid (cs.takeWhile (fun y => ! Op.bytesLess kt.toList (hOf y).1.toList) = consE es) := Lib.hid (by
      rw [hce]
      have h9 : cs = pre'.map (·.1) ++ ([y.1] ++ cs.drop pre.length) := by
        rw [← List.append_assoc]
        have h7 : pre'.map (·.1) ++ [y.1] = cs.take pre.length := by rw [← hpre, hp, List.map_append]; rfl
        rw [h7, List.take_append_drop]
      refine (congrArg (List.takeWhile _) h9).trans (takeWhile_stop (fun z hz => by
        obtain ⟨q, hq, rfl⟩ := List.mem_map.1 hz
        rw [hny q hq]; rfl) (by rw [hyk]; rfl)))
    have hc := hv.cell
    have hle : w.heap.size ≤ W0.heap.size := HBw.out.size
    have hDW : D < W.heap.size := (Array.getElem?_eq_some_iff.1 hK).1
    obtain ⟨hz1, hz2, hz3, hz4⟩ := HSZ.out
    cases back with
    | false =>
      clear hz1 hz2 hz3 hz4
      gi_wp2
      refine ⟨by simp, .inl ⟨_, _, rfl, run_takeDeferred hK, ?_⟩⟩
      refine ⟨_, results_tmp2 rfl _ _ _, a2, c2, es, rfl, ?_, ?_, ?_⟩
      · have h8 := he.kept (grownBy_putObj' W D (.deferred none)) (fun r hr => ⟨_, by cases hr; exact hK, rfl⟩)
        exact ⟨h8.row.mono hle, h8.ins, fun e he => (h8.far e he).imp id fun ⟨b, off, e1, e2, e3⟩ => ⟨b, off, e1, Nat.le_trans hle e2, e3⟩⟩
      · rw [HTW.out]
      · exact hB.trans (belowK_b (w := w) (Nat.le_refl _) W D _ _ (Nat.le_trans HBw.out.size hD) hK rfl rfl)
    | true =>
      have hvb : ∀ k, (Value.slice a2 es.length c2).ownBlock = some k → W0.heap.size ≤ k ∧ k < W.heap.size := fun k hk => he.row.lt k hk
      have hoD : (Value.slice a2 es.length c2).ownBlock ≠ some D := fun e => by
        rcases he.row.2 with ⟨h1, _⟩ | ⟨g, cap, cur, h1, _, hgb, _⟩
        · rw [h1] at e; cases e
        · rw [h1] at e; cases e; rw [hgb] at hK; cases hK
      have HRV : Hid (∀ m, CallsIn Fence.wide m Try.prog 33 #[.slice a2 es.length c2] W fun e w4 => e = .returned (.tuple #[]) ∧ w4.cell? ⟨w2.heap.size + 1, 0, none⟩ = some (.slice a2 es.length c2) ∧ Hid (EnSt W0.heap.size w4 (.slice a2 es.length c2) es.reverse ∧ Below w.heap.size w w4) ∧ w4.heap[D]? = some (.deferred (some []))) := Lib.hid (fun m => callsIn_wide.2 ((rev_any he).mono (by
        rintro e w4 ⟨rfl, h4, h5, h6⟩
        refine ⟨rfl, ?_, Lib.hid ⟨h4, hB.grown h5 hB.size (fun k e => by have := (hvb k e).1; have := hB.size; omega)⟩, ?_⟩
        · have : Boxed w4 (w2.heap.size + 1) 25 (.slice a2 es.length c2) := (h5.block _ (by omega) (fun e => by have := (hvb _ e.symm).1; omega)).trans hv
          exact this.cell
        · exact (h5.block D hDW (fun e => hoD e.symm)).trans hK)))
      clear hz1 hz2 hz3 hz4
      gi_wp2_with (gi_at_call 33; refine (HRV.out _).mono ?_; rintro e1 w4 ⟨rfl, hc4, HE4, hK4⟩)
      refine ⟨by simp, .inl ⟨_, _, rfl, run_takeDeferred hK4, ?_⟩⟩
      obtain ⟨he4, hB4⟩ := HE4.out
      refine ⟨_, results_tmp2 rfl _ _ _, a2, c2, es.reverse, by rw [List.length_reverse]; rfl, ?_, ?_, ?_⟩
      · have h8 := he4.kept (grownBy_putObj' w4 D (.deferred none)) (fun r hr => ⟨_, by cases hr; exact hK4, rfl⟩)
        rw [List.length_reverse]
        exact ⟨h8.row.mono hle, h8.ins, fun e he => (h8.far e he).imp id fun ⟨b, off, e1, e2, e3⟩ => ⟨b, off, e1, Nat.le_trans hle e2, e3⟩⟩
      · rw [HTW.out]
        show _ = (consE es).reverse
        unfold consE
        rw [List.map_reverse]
      · exact hB4.trans (belowK_b (w := w) (Nat.le_refl _) w4 D _ _ (Nat.le_trans HBw.out.size hD) hK4 rfl rfl)
end Go.Proofs.Ytnnmigglcpkomaa.Dm

/- Range of a method in hand, by what it holds. -/
set_option maxRecDepth 100000
namespace Go.Proofs.Ytnnmigglcpkomaa.Dm
open Go Go.RowKit

/-- Does an entry stand in a range? -/
def fromB : Option En → List UInt8 → Bool
  | none, _ => true
  | some e, k => ! Op.bytesLess k e.d.kb
def toB : Option En → List UInt8 → Bool
  | none, _ => true
  | some e, k => ! Op.bytesLess e.d.kb k
def inRange (df dt : Option En) (c : Et) : Bool := decide (c.1.1 ≠ 3) && (fromB df c.1.kb && toB dt c.1.kb)
def rangeE (l : List Et) (df dt : Option En) (back : Bool) : List Et := if back = true then (l.filter (inRange df dt)).reverse else l.filter (inRange df dt)

theorem takeWhile_filter {α : Type} {R : α → α → Prop} {p : α → Bool} : ∀ {l : List α}, l.Pairwise R → (∀ a b, R a b → p b = true → p a = true) → l.takeWhile p = l.filter p
  | [], _, _ => rfl
  | a :: l, hl, h => by
    have hl' := List.pairwise_cons.1 hl
    by_cases ha : p a = true
    · rw [List.takeWhile_cons_of_pos ha, List.filter_cons_of_pos ha, takeWhile_filter hl'.2 h]
    · rw [List.takeWhile_cons_of_neg ha, List.filter_cons_of_neg ha, List.filter_eq_nil_iff.2]
      exact fun b hb hp => ha (h a b (hl'.1 b hb) hp)

/-- What a key's bytes begin with. -/
theorem kb_first (d : Dt) : (d.1 = 3 ∧ ∃ x t, d.kb = 3 :: x :: t) ∨ (d.1 ≠ 3 ∧ ∃ x t, d.kb = x :: t ∧ x.toNat < 3) := by
  by_cases h3 : d.1 = 3
  · left
    refine ⟨h3, ?_⟩
    unfold Dt.kb datB
    rw [if_pos h3]
    exact ⟨_, _, rfl⟩
  · right
    refine ⟨h3, ?_⟩
    unfold Dt.kb datB
    rw [if_neg h3]
    unfold itemB
    split
    · exact ⟨_, _, rfl, by decide⟩
    · exact ⟨_, _, rfl, by decide⟩

theorem less_cons {x y : UInt8} {a b : List UInt8} : Op.bytesLess (x :: a) (y :: b) = (decide (x < y) || (x == y && Op.bytesLess a b)) := rfl
theorem less_lt {x y : UInt8} {a b : List UInt8} (h : x.toNat < y.toNat) : Op.bytesLess (x :: a) (y :: b) = true := by
  rw [less_cons, decide_eq_true (UInt8.lt_iff_toNat_lt.2 h)]; rfl
theorem less_gt {x y : UInt8} {a b : List UInt8} (h : y.toNat < x.toNat) : Op.bytesLess (x :: a) (y :: b) = false := less_anti (less_lt h)
theorem less_nil (a : List UInt8) : Op.bytesLess a [] = false := by cases a <;> rfl
theorem less_trans2 {a b c : List UInt8} (h1 : Op.bytesLess a b = true) (h2 : Op.bytesLess c b = false) : Op.bytesLess a c = true := by
  rcases less_total b c with h | h | h
  · exact (cb_less a c).1 (cb_trans a b c ((cb_less a b).2 h1) ((cb_less b c).2 h))
  · rw [h2] at h; cases h
  · rw [← h]; exact h1

theorem boundE_zero {e : En} (h : boundE (some e) = 0) : e.ok = true ∧ e.k ≠ 3 := by
  rw [boundE_some] at h
  by_cases h1 : e.ok = true
  · rw [if_pos h1] at h
    refine ⟨h1, fun h3 => ?_⟩
    rw [if_pos h3] at h
    cases h
  · rw [if_neg h1] at h; cases h
theorem endS_kb (e : En) (ns : ByteArray) : (endS (some e) ns).data.toList = e.d.kb := by
  show (keyS e.k e.n e.s e.xs).data.toList = _
  rw [e.kb_d]
  rfl

/-- Ahead of the end. -/
theorem to_end {c : Et} {dt : Option En} (h : boundE dt = 0) : (! Op.bytesLess (endS dt ⟨#[3]⟩).data.toList c.1.kb) = (decide (c.1.1 ≠ 3) && toB dt c.1.kb) := by
  cases dt with
  | none =>
    have h0 : (endS none ⟨#[3]⟩).data.toList = [3] := rfl
    rw [h0]
    rcases kb_first c.1 with ⟨h3, x, t, hk⟩ | ⟨h3, x, t, hk, hx⟩
    · rw [hk, less_cons, decide_eq_false (p := c.1.1 ≠ 3) (fun hh => hh h3)]
      simp [Op.bytesLess]
    · rw [hk, less_gt (by show x.toNat < 3; exact hx), decide_eq_true h3]
      rfl
  | some e =>
    rw [endS_kb]
    obtain ⟨_, hk3⟩ := boundE_zero h
    rcases kb_first c.1 with ⟨h3, x, t, hk⟩ | ⟨h3, x, t, hk, hx⟩
    · rcases kb_first e.d with ⟨h4, _⟩ | ⟨h4, y, u, hy, hlt⟩
      · exact absurd h4 hk3
      · rw [hk, hy, less_lt (by show y.toNat < 3; exact hlt), decide_eq_false (p := c.1.1 ≠ 3) (fun hh => hh h3)]
        rfl
    · rw [decide_eq_true h3]
      rfl
/-- Not ahead of the beginning. -/
theorem from_end {c : Et} {df : Option En} (h0 : 0 ≤ c.2) : decide (¬ cmpH (hOf c) (endS df ⟨#[]⟩, 0) < 0) = fromB df c.1.kb := by
  have hcmp : cmpH (hOf c) (endS df ⟨#[]⟩, 0) = if Lib.compareBytes c.1.kb (endS df ⟨#[]⟩).data.toList = 0 then cmpI c.2 0 else Lib.compareBytes c.1.kb (endS df ⟨#[]⟩).data.toList := rfl
  have hI : ¬ cmpI c.2 0 < 0 := by unfold cmpI; split <;> (try split) <;> omega
  have hb := cb_less c.1.kb (endS df ⟨#[]⟩).data.toList
  have key : decide (¬ cmpH (hOf c) (endS df ⟨#[]⟩, 0) < 0) = ! Op.bytesLess c.1.kb (endS df ⟨#[]⟩).data.toList := by
    rw [hcmp]
    by_cases hz : Lib.compareBytes c.1.kb (endS df ⟨#[]⟩).data.toList = 0
    · have hn : Op.bytesLess c.1.kb (endS df ⟨#[]⟩).data.toList = false := by
        rw [Bool.eq_false_iff]
        intro h
        have := hb.2 h
        omega
      rw [if_pos hz, hn, decide_eq_true hI]
      rfl
    · rw [if_neg hz]
      by_cases hl : Op.bytesLess c.1.kb (endS df ⟨#[]⟩).data.toList = true
      · have h9 : ¬ ¬ Lib.compareBytes c.1.kb (endS df ⟨#[]⟩).data.toList < 0 := fun h => h (hb.2 hl)
        rw [hl, decide_eq_false h9]; rfl
      · have hl2 : Op.bytesLess c.1.kb (endS df ⟨#[]⟩).data.toList = false := by simpa using hl
        have h9 : ¬ Lib.compareBytes c.1.kb (endS df ⟨#[]⟩).data.toList < 0 := fun h => hl (hb.1 h)
        rw [hl2, decide_eq_true h9]; rfl
  rw [key]
  cases df with
  | none =>
    show (! Op.bytesLess c.1.kb []) = true
    rw [less_nil]; rfl
  | some e => rw [endS_kb]; rfl

theorem ahead_kb {a b : Et} (h : aheadE a b = true) : Op.bytesLess b.1.kb a.1.kb = false := by
  unfold aheadE at h
  rw [Bool.or_eq_true] at h
  rcases h with h | h
  · exact less_anti h
  · rw [Bool.and_eq_true, beq_iff_eq] at h
    rw [h.1]
    exact bytesLess_self _

theorem range_list {l : List Et} {df dt : Option En} (hg : Goods [1, 2, 3] l) (ht : boundE dt = 0) :
    (l.filter fun c => decide (¬ cmpH (hOf c) (endS df ⟨#[]⟩, 0) < 0)).takeWhile (fun y => ! Op.bytesLess (endS dt ⟨#[3]⟩).toList (hOf y).1.toList) = l.filter (inRange df dt) := by
  rw [takeWhile_filter (R := fun a b => aheadE a b = true) (hg.rise.sublist List.filter_sublist) (fun a b hab hb => ?_)]
  · rw [List.filter_filter]
    refine List.filter_congr (fun c hc => ?_)
    have h0 := (may_tid2 (hg.may c hc)).1
    have e1 : (! Op.bytesLess (endS dt ⟨#[3]⟩).toList (hOf c).1.toList) = (! Op.bytesLess (endS dt ⟨#[3]⟩).data.toList c.1.kb) := by
      rw [ByteArray.toList_eq, ByteArray.toList_eq]; rfl
    rw [e1, to_end ht, from_end h0]
    unfold inRange
    cases decide (c.1.1 ≠ 3) <;> simp [Bool.and_comm]
  · have e1 : ∀ z : Et, (! Op.bytesLess (endS dt ⟨#[3]⟩).toList (hOf z).1.toList) = (! Op.bytesLess (endS dt ⟨#[3]⟩).data.toList z.1.kb) := fun z => by
      rw [ByteArray.toList_eq, ByteArray.toList_eq]; rfl
    rw [e1] at hb ⊢
    have hb2 : Op.bytesLess (endS dt ⟨#[3]⟩).data.toList b.1.kb = false := by simpa using hb
    cases h : Op.bytesLess (endS dt ⟨#[3]⟩).data.toList a.1.kb with
    | false => rfl
    | true =>
      rw [less_trans2 h (ahead_kb hab)] at hb2
      cases hb2

set_option maxHeartbeats 800000 in
/-- Range with an end that may not be. -/
theorem range_bad (P : Nat) (w : World) (pf pt : Option Addr) (df dt : Option En) (back : Bool) (hP : w.cell? ⟨P, 0, none⟩ = some (.pointer (some ⟨P, 0, none⟩))) (hf : BdW w pf df) (ht : BdW w pt dt) (hbad : endsE [df, dt] ≠ 0) :
    Calls Try.prog 16 #[.pointer (some ⟨P, 0, none⟩), .pointer pf, .pointer pt, .bool back] w fun r w' => r = .returned (.tuple #[.slice none 0 0, .int .i64 (endsE [df, dt])]) ∧ Below w.heap.size w w' := by
  have HG := Lib.hid ((given_yes P w hP).mono (fun _ _ h => (⟨h.1, h.2.symm⟩ : _ ∧ w = _)))
  have HCE : Hid (Calls Try.prog 31 #[.slice (some ⟨w.heap.size, 0, none⟩) 2 2] (w.alloc (.cells #[.pointer pf, .pointer pt] 40)) fun e w' => e = .returned (.int .i64 (endsE [df, dt])) ∧ Below w.heap.size w w') := Lib.hid (by
    have hb := (Below.refl w.heap.size w).alloc (Nat.le_refl _) (.cells #[.pointer pf, .pointer pt] 40)
    have h := checkEnds_any w.heap.size [(pf, df), (pt, dt)] (w.alloc (.cells #[.pointer pf, .pointer pt] 40)) (fun j hj => by
      have hj2 : j < 2 := hj
      rcases (by omega : j = 0 ∨ j = 1) with rfl | rfl <;> simp) (fun x hx => by
      simp only [List.mem_cons, List.not_mem_nil, or_false] at hx
      rcases hx with rfl | rfl
      · exact hf.below hb
      · exact ht.below hb) (by simp) (by simp)
    refine h.mono ?_
    rintro e w' ⟨rfl, hb2⟩
    exact ⟨rfl, hb.trans (hb2.mono hb.size)⟩)
  obtain ⟨R, hR⟩ : ∃ R, R = endsE [df, dt] := ⟨_, rfl⟩
  rw [← hR] at HCE hbad ⊢
  have hb1 : (R == 0) = false := by rw [beq_eq_false_iff_ne]; exact hbad
  clear hP hf ht hR
  go_enter Try.func16, Try.ntmps16
  go_wp2_with (first | (go_at_call 27; refine HG.out.mono ?_; rintro e w' ⟨rfl, rfl⟩) | (go_at_call 31; refine HCE.out.mono ?_; rintro e w1 ⟨rfl, hb1'⟩))
  go_ret2
  exact ⟨rfl, hb1'⟩

/-- Range. -/
theorem range_st {P : Nat} {S : Nat → Prop} {w : World} {l : List Et} (h : PlSt P S w l) (hl : l.length < 2199023255552) {pf pt : Option Addr} {df dt : Option En} (back : Bool) (hf : BdW w pf df) (ht : BdW w pt dt) :
    Calls Try.prog 16 #[.pointer (some ⟨P, 0, none⟩), .pointer pf, .pointer pt, .bool back] w fun r w' => ∃ a c es, r = .returned (.tuple #[.slice a (es : List En).length c, .int .i64 (endsE [df, dt])]) ∧ EnSt w.heap.size w' (.slice a es.length c) es ∧ consE es = (if endsE [df, dt] = 0 then rangeE l df dt back else []) ∧ Below w.heap.size w w' := by
  obtain ⟨v, ss, hP, hF, hS⟩ := h.ex
  have hsrt : SrtH (Sh.lists ss).flatten := by rw [hF]; exact rise_srt h.good.rise
  by_cases h0 : endsE [df, dt] = 0
  · have hb : boundE df = 0 ∧ boundE dt = 0 := by
      unfold endsE at h0
      rcases boundE_cases df with h1 | h1 | h1 <;> rcases boundE_cases dt with h2 | h2 | h2 <;> simp [h1, h2] at h0
      exact ⟨h1, h2⟩
    have hsub : ∀ c, c ∈ (l.filter fun c => decide (¬ cmpH (hOf c) (endS df ⟨#[]⟩, 0) < 0)) → c ∈ l := fun c hc => (List.mem_filter.1 hc).1
    refine (callsIn_wide.1 (range_in 4 (Nat.le_refl _) P v ss w (l.filter fun c => decide (¬ cmpH (hOf c) (endS df ⟨#[]⟩, 0) < 0)) pf pt df dt back (fun c hc => ⟨h.good.fit c (hsub c hc), ?_⟩) hP hsrt (by rw [hF, List.length_map]; exact hl) (Nat.lt_of_le_of_lt (List.length_filter_le _ _) hl) hf ht hb.1 hb.2 (fun i at' th hk => ?_))).mono ?_
    · have := may_tid2 (h.good.may c (hsub c hc))
      exact ⟨by omega, by omega⟩
    · rw [seek_rest hk hsrt, hF, List.filter_map]
      rfl
    · rintro r w' ⟨a, c, es, rfl, h1, h2, h3⟩
      refine ⟨a, c, es, by rw [h0], h1, ?_, h3⟩
      rw [if_pos h0, h2, range_list h.good hb.2]
      rfl
  · refine (range_bad P w pf pt df dt back hP.self hf ht h0).mono ?_
    rintro r w' ⟨rfl, hb⟩
    exact ⟨none, 0, [], rfl, EnSt.nil _ _, by rw [if_neg h0]; rfl, hb⟩
end Go.Proofs.Ytnnmigglcpkomaa.Dm

/- The document's Range: the entries of a range, forward and back. -/
set_option maxRecDepth 100000
namespace Go.Proofs.Ytnnmigglcpkomaa.Dm
open Go Go.RowKit

/-- A row behind a row. -/
theorem cat_en (w : World) (ty : TypeId) (B B2 : Nat) (v u : Value) (es fs : List En) (h : Rows B w v es) (h2 : Rows B2 w u fs) (hl : es.length + fs.length ≤ 2199023255552) (hB : B ≤ w.heap.size) :
    ∃ a c w', (Builtin.append_ #[25, 25] ty #[v, u]).run Try.prog w = .ok (.slice a (es.length + fs.length) c) w' ∧ Rows B w' (.slice a (es.length + fs.length) c) (es ++ fs) ∧ Below B w w' := by
  obtain ⟨i0, hi, q0, q1, q2⟩ := info_parts infoEn
  rcases h2.2 with ⟨rfl, h0⟩ | ⟨g, cap, cur, rfl, _, hg, hnc, _, hcs, ht⟩
  · obtain rfl : fs = [] := List.eq_nil_of_length_eq_zero h0
    have hr := run_append_owned_none (P := Try.prog) (w := w) B 25 ty 35 i0 5 Try.underlying25 hi v es.length (rowE es) h
    obtain ⟨a, c, rfl⟩ := h.shape
    exact ⟨a, c, w, hr, by rw [List.append_nil]; exact h, ⟨rfl, rfl, rfl, Nat.le_refl _, fun _ _ => rfl⟩⟩
  · obtain ⟨v', w', hr, h3, h4, _⟩ := run_append_own_wide (P := Try.prog) w B 25 ty 35 i0 _ 5 64 Try.underlying25 hi q0 q1 q2 rfl (by decide) v es.length (rowE es) h ⟨g, 0, none⟩ fs.length cap (rowE fs) (rowE_length fs) (fun j u hu => by
      rw [Addr.add_lit, Nat.zero_add, Lib.cell_of_heap hg]
      have hj : j < fs.length * 5 := by
        have := (List.getElem?_eq_some_iff.1 hu).1
        rwa [rowE_length] at this
      rw [← ht, List.getElem?_take, if_pos hj] at hu
      simpa using hu) (fun u hu => by
      unfold rowE at hu
      obtain ⟨e, _, hu⟩ := List.mem_flatMap.1 hu
      simp only [cellsE, List.mem_cons, List.not_mem_nil, or_false] at hu
      rcases hu with rfl | rfl | rfl | rfl | rfl <;> rfl) (by unfold maxLen; omega) (by omega) hB
    have hrows : Rows B w' v' (es ++ fs) := by
      rw [Rows, rowE_app, List.length_append]
      exact h3
    obtain ⟨a, c, rfl⟩ := hrows.shape
    rw [List.length_append] at hr hrows
    exact ⟨a, c, w', hr, hrows, ⟨h4.os, h4.tape, h4.output, h4.size, fun k hk => h4.block k (Nat.lt_of_lt_of_le hk hB) (fun e => by have := (h.lt k e.symm).1; omega)⟩⟩

/-- The entries of a range, so far. -/
def ranL (es : List En) (df dt : Option En) (back : Bool) : List En := if back = true then (es.filter fun x => inRange df dt x.c).reverse else es.filter fun x => inRange df dt x.c
theorem ranL_c (es : List En) (df dt : Option En) (back : Bool) : consE (ranL es df dt back) = rangeE (consE es) df dt back := by
  unfold ranL rangeE consE
  cases back
  · simp only [Bool.false_eq_true, if_false]
    rw [List.filter_map]; rfl
  · simp only [if_true]
    rw [List.map_reverse, List.filter_map]; rfl
theorem ranL_length (es : List En) (df dt : Option En) (back : Bool) : (ranL es df dt back).length ≤ es.length := by
  unfold ranL
  cases back
  · simp only [Bool.false_eq_true, if_false]; exact List.length_filter_le _ _
  · simp only [if_true, List.length_reverse]; exact List.length_filter_le _ _
theorem ranL_mem {es : List En} {df dt : Option En} {back : Bool} {x : En} (h : x ∈ ranL es df dt back) : x ∈ es := by
  unfold ranL at h
  cases back
  · simp only [Bool.false_eq_true, if_false] at h; exact (List.mem_filter.1 h).1
  · simp only [if_true, List.mem_reverse] at h; exact (List.mem_filter.1 h).1
theorem ranL_skip {es : List En} {df dt : Option En} {back : Bool} {x : En} (h : inRange df dt x.c = false) : ranL (es ++ [x]) df dt back = ranL es df dt back := by
  unfold ranL
  rw [List.filter_append, List.filter_cons, h]
  simp
theorem ranL_fore {es : List En} {df dt : Option En} {x : En} (h : inRange df dt x.c = true) : ranL (es ++ [x]) df dt false = ranL es df dt false ++ [x] := by
  unfold ranL
  rw [List.filter_append, List.filter_cons, h]
  simp
theorem ranL_back {es : List En} {df dt : Option En} {x : En} (h : inRange df dt x.c = true) : ranL (es ++ [x]) df dt true = [x] ++ ranL es df dt true := by
  unfold ranL
  rw [List.filter_append, List.filter_cons, h]
  simp

/-- Why an entry is left out. -/
theorem out_3 {df dt : Option En} {c : Et} (h : c.1.1 = 3) : inRange df dt c = false := by unfold inRange; rw [decide_eq_false (p := c.1.1 ≠ 3) (fun hh => hh h)]; rfl
theorem out_from {e : En} {dt : Option En} {c : Et} (h : Op.bytesLess c.1.kb e.d.kb = true) : inRange (some e) dt c = false := by
  have h2 : fromB (some e) c.1.kb = false := by show (! _) = false; rw [h]; rfl
  unfold inRange
  rw [h2]; simp
theorem out_to {e : En} {df : Option En} {c : Et} (h : Op.bytesLess e.d.kb c.1.kb = true) : inRange df (some e) c = false := by
  have h2 : toB (some e) c.1.kb = false := by show (! _) = false; rw [h]; rfl
  unfold inRange
  rw [h2]; simp
theorem is_in {df dt : Option En} {c : Et} (h3 : ¬ c.1.1 = 3) (hf : fromB df c.1.kb = true) (ht : toB dt c.1.kb = true) : inRange df dt c = true := by unfold inRange; rw [decide_eq_true (p := c.1.1 ≠ 3) h3, hf, ht]; rfl
end Go.Proofs.Ytnnmigglcpkomaa.Dm

/- The walk of the document's Range. -/
set_option maxRecDepth 100000
namespace Go.Proofs.Ytnnmigglcpkomaa.Dm
open Go Go.RowKit

/-- An end that may be, as the walk meets it: its pointer, its cells, its bytes. -/
structure EndAt (w : World) (p : Option Addr) (d : Option En) : Prop where
  bd : BdW w p d
  ok : boundE d = 0
theorem enc_of {e : En} {w : World} (h : e.In w) (hok : e.ok = true) : Calls Try.prog 34 #[.agg #[.int .i64 e.k, .int .i64 e.n, .string e.s, .slice e.a e.xs.length e.lc]] w fun r w' => r = .returned (.string (keyS e.k e.n e.s e.xs)) ∧ Below w.heap.size w w' :=
  encoded_any e.k e.n e.s e.a e.xs e.lc w h.sl hok h.n h.ns
theorem key_kb (e : En) : (keyS e.k e.n e.s e.xs).toList = e.d.kb := by
  rw [ByteArray.toList_eq]
  show (keyS e.k e.n e.s e.xs).data.toList = _
  rw [e.kb_d]
  rfl

set_option maxHeartbeats 6400000 in
theorem rrange_ok (a : Option Addr) (es : List En) (c : Nat) (w : World) (pf pt : Option Addr) (df dt : Option En) (back : Bool) (hL : EnsW w a es) (hf : BdW w pf df) (ht : BdW w pt dt) (h0f : boundE df = 0) (h0t : boundE dt = 0) (hbig : es.length ≤ 2199023255540) :
    Calls Try.prog 17 #[.slice a es.length c, .pointer pf, .pointer pt, .bool back] w fun r w' => ∃ a' c' es', r = .returned (.tuple #[.slice a' (es' : List En).length c', .int .i64 0]) ∧ Rows w.heap.size w' (.slice a' es'.length c') es' ∧ es' = ranL es df dt back ∧ Below w.heap.size w w' := by
  have HBF : Hid (Calls Try.prog 19 #[.pointer pf] w fun r w' => r = .returned (.int .i64 0) ∧ Below w.heap.size w w') := Lib.hid (by have := bound9_any pf df w hf; rw [h0f] at this; exact this)
  have HBT : Hid (∀ W, Below w.heap.size w W → Calls Try.prog 19 #[.pointer pt] W fun r w' => r = .returned (.int .i64 0) ∧ Below W.heap.size W w') := Lib.hid (fun W hW => by have := bound9_any pt dt W (ht.below hW); rw [h0t] at this; exact this)
  have HL := Lib.hid hL
  have HF := Lib.hid (EndAt.mk hf h0f)
  have HT := Lib.hid (EndAt.mk ht h0t)
  obtain ⟨n, hn⟩ : ∃ n, n = es.length := ⟨_, rfl⟩
  have HN := Lib.hid hn
  rw [← hn] at hbig ⊢
  clear hL hf ht h0f h0t hn
  go_enter Try.func17, Try.ntmps17
  go_wp2_with fail
  refine HBF.out.mono ?_
  rintro e w1 ⟨rfl, hb1⟩
  have HB1 := Lib.hid hb1
  clear hb1
  go_wp2_with fail
  refine (HBT.out _ HB1.out).mono ?_
  rintro e w2 ⟨rfl, hb2⟩
  have HB2 : Hid (Below w.heap.size w w2) := Lib.hid (HB1.out.trans (hb2.mono HB1.out.size))
  clear hb2 HB1
  go_wp2
  go_loopw [12, 13] (fun o i wr => ∃ (j m : Nat) (oa : Option Addr) (oc : Nat), j ≤ n ∧ i = .int .i64 j ∧ o = .slice oa m oc ∧ Hid (Below w.heap.size w wr) ∧ Hid (m = (ranL (es.take j) df dt back).length) ∧ Hid (Rows w.heap.size wr (.slice oa m oc) (ranL (es.take j) df dt back))) (fun _ i _ => n - (intOf i).toNat)
  case atStart => exact ⟨0, 0, none, 0, Nat.zero_le _, rfl, rfl, HB2, Lib.hid (by cases back <;> rfl), Lib.hid (by
    have : ranL (es.take 0) df dt back = [] := by cases back <;> rfl
    rw [this]
    exact World.ownsRow_nil _ _ _ _)⟩
  case round =>
    obtain ⟨j, m, oa, oc, hj, rfl, rfl, HB, HM, HO⟩ := hrel
    by_cases hlt : j < n
    · have hlt' : j < es.length := by rw [← HN.out]; exact hlt
      obtain ⟨b, off, rfl, hbw, hc⟩ := (HL.out.below HB.out).at hlt'
      obtain ⟨c0, c1, c2, c3, c4⟩ := hc j hlt'
      clear hc
      have hmem : es[j]'hlt' ∈ es := List.getElem_mem _
      obtain ⟨x, hx⟩ : ∃ x, x = es[j]'hlt' := ⟨_, rfl⟩
      have HTK : Hid (es.take (j + 1) = es.take j ++ [x]) := Lib.hid (by rw [List.take_succ_eq_append_getElem hlt', hx])
      rw [← hx] at c0 c1 c2 c3 c4 hmem
      have HX : Hid (∀ W, Below w.heap.size w W → x.In W ∧ x.ok = true) := Lib.hid (fun W hW => ⟨(HL.out.all x hmem).1.below hW, (HL.out.all x hmem).2⟩)
      obtain ⟨bs, hbs⟩ : ∃ bs, bs = ! inRange df dt x.c := ⟨_, rfl⟩
      have HBS := Lib.hid hbs
      obtain ⟨kx, hkx⟩ : ∃ kx, kx = keyS x.k x.n x.s x.xs := ⟨_, rfl⟩
      have HKX : Hid (kx.toList = x.c.1.kb) := Lib.hid (by rw [hkx]; exact key_kb x)
      have HEX : Hid (Calls Try.prog 34 #[.agg #[.int .i64 x.k, .int .i64 x.n, .string x.s, .slice x.a x.xs.length x.lc]] wr fun r w' => r = .returned (.string kx) ∧ Below wr.heap.size wr w') := Lib.hid (by
        obtain ⟨h1, h2⟩ := HX.out wr HB.out
        rw [hkx]
        exact enc_of h1 h2)
      have HXK : Hid (x.c.1.1 = x.k) := Lib.hid rfl
      have HLEN : Hid ((ranL (es.take j) df dt back).length ≤ j) := Lib.hid (by
        refine Nat.le_trans (ranL_length _ _ _ _) ?_
        rw [List.length_take]
        omega)
      -- what is put behind
      have HSK : Hid (bs = true → ranL (es.take (j + 1)) df dt back = ranL (es.take j) df dt back) := Lib.hid (fun h => by
        rw [HTK.out]
        exact ranL_skip (by rw [hbs] at h; simpa using h))
      have HIN : Hid (bs = false → inRange df dt x.c = true) := Lib.hid (fun h => by rw [hbs] at h; simpa using h)
      have HPUT : Hid (∀ B W V oa m oc os, Rows B W (.slice oa m oc) os → m = (os : List En).length → m ≤ j → B ≤ W.heap.size → V = W → ∃ a c w', (Builtin.append_ #[25, 25] 25 #[.slice oa m oc, .slice (some ⟨W.heap.size, 0, none⟩) 1 1]).run Try.prog (V.alloc (.cells #[.int .i64 x.k, .int .i64 x.n, .string x.s, .slice x.a x.xs.length x.lc, .int .i64 x.t] 35)) = .ok (.slice a (m + 1) c) w' ∧ Rows B w' (.slice a (m + 1) c) (os ++ [x]) ∧ Below B W w') := Lib.hid (fun B W V oa m oc os h hm hmj hsz e => by
        subst e
        have h := put_en 25 h x 35 (by omega) hsz
        rw [← hm] at h
        exact h)
      obtain ⟨xk, xn, xt, xa, xxs, xlc, xtid⟩ := x
      simp only [] at c0 c1 c2 c3 c4 HEX HPUT HXK
      obtain ⟨xxl, hxxl⟩ : ∃ xxl, xxl = xxs.length := ⟨_, rfl⟩
      rw [← hxxl] at c3 HEX HPUT
      clear hx hmem hbs hxxl hkx HL
      have hji : (j : Int) < (n : Int) := by omega
      have hj0 : (0 : Int) ≤ (j : Int) := by omega
      go_upto_region 11 with (go_at_call 34; refine HEX.out.mono ?_; rintro e wk ⟨rfl, hbk⟩)
      have HBK : Hid (Below w.heap.size w wk) := Lib.hid (HB.out.trans (hbk.mono HB.out.size))
      have hwk : wr.heap.size ≤ wk.heap.size := hbk.size
      have e0 := (hbk.cell (p := ⟨b, off + j * 5, none⟩) hbw).trans c0
      have e1 := (hbk.cell (p := ⟨b, off + j * 5 + 1, none⟩) hbw).trans c1
      have e2 := (hbk.cell (p := ⟨b, off + j * 5 + 2, none⟩) hbw).trans c2
      have e3 := (hbk.cell (p := ⟨b, off + j * 5 + 3, none⟩) hbw).trans c3
      have e4 := (hbk.cell (p := ⟨b, off + j * 5 + 4, none⟩) hbw).trans c4
      have hbw2 : b < wk.heap.size := by omega
      have HOK : Hid (Rows w.heap.size wk (.slice oa m oc) (ranL (es.take j) df dt back)) := Lib.hid (HO.out.below hbk)
      have HE5 : Hid (∀ W, Below wk.heap.size wk W → W.cell? ⟨b, off + j * 5, none⟩ = some (.int .i64 xk) ∧ W.cell? ⟨b, off + j * 5 + 1, none⟩ = some (.int .i64 xn) ∧ W.cell? ⟨b, off + j * 5 + 2, none⟩ = some (.string xt) ∧ W.cell? ⟨b, off + j * 5 + 3, none⟩ = some (.slice xa xxl xlc) ∧ W.cell? ⟨b, off + j * 5 + 4, none⟩ = some (.int .i64 xtid)) := Lib.hid (fun W hW =>
        ⟨(hW.cell (p := ⟨b, _, none⟩) hbw2).trans e0, (hW.cell (p := ⟨b, _, none⟩) hbw2).trans e1, (hW.cell (p := ⟨b, _, none⟩) hbw2).trans e2, (hW.cell (p := ⟨b, _, none⟩) hbw2).trans e3, (hW.cell (p := ⟨b, _, none⟩) hbw2).trans e4⟩)
      clear hbk c0 c1 c2 c3 c4 e1 e2 e3 e4 HEX HO HB
      go_cut [74] from 32 to 92 (fun s wx => s = .bool bs ∧ Hid (Below wk.heap.size wk wx))
      case first =>
        clear HPUT HSK HIN HTK HM HOK HE5 HLEN
        by_cases hk : xk = 3
        · have hk1 : (xk == 3) = true := by rw [beq_iff_eq]; exact hk
          obtain rfl : bs = true := by rw [HBS.out, out_3 (by rw [HXK.out]; exact hk)]; rfl
          subst hk
          go_wp2_with fail
          go_meet
          exact ⟨rfl, Lib.hid (Below.refl _ _)⟩
        have hk1 : (xk == 3) = false := by rw [beq_eq_false_iff_ne]; exact hk
        have HNK : Hid (¬ (En.c ⟨xk, xn, xt, xa, xxs, xlc, xtid⟩).1.1 = 3) := Lib.hid (by rw [HXK.out]; exact hk)
        have HB0 : Hid (Below wk.heap.size wk wk) := Lib.hid (Below.refl _ _)
        cases df with
        | none =>
          obtain rfl : pf = none := HF.out.bd
          cases dt with
          | none =>
            obtain rfl : pt = none := HT.out.bd
            obtain rfl : bs = false := by rw [HBS.out, is_in HNK.out rfl rfl]; rfl
            go_wp2_with fail
            go_meet
            exact ⟨rfl, HB0⟩
          | some e2 =>
            obtain ⟨⟨tb, tfo, rfl, htb, t0, t1, t2, t3⟩, htin⟩ := HT.out.bd.below (HBK.out.trans (HB0.out.mono HBK.out.size))
            have hqt : ∀ W : World, (binOp .neq 40 (.pointer (some ⟨tb, tfo, none⟩)) (.pointer none)).run Try.prog W = .ok (.bool true) W := fun W => eql_nil_dt W _
            have HET := Lib.hid (enc_of htin (boundE_zero HT.out.ok).1)
            obtain ⟨kt, hkt⟩ : ∃ kt, kt = keyS e2.k e2.n e2.s e2.xs := ⟨_, rfl⟩
            have HKT : Hid (kt.toList = e2.d.kb) := Lib.hid (by rw [hkt]; exact key_kb e2)
            rw [← hkt] at HET
            obtain ⟨e2k, e2n, e2s, e2a, e2xs, e2c, e2t⟩ := e2
            simp only [] at t0 t1 t2 t3 HET
            obtain ⟨l2, hl2⟩ : ∃ l2, l2 = e2xs.length := ⟨_, rfl⟩
            rw [← hl2] at t3 HET
            clear htin hkt hl2
            rcases less_total kt.toList kx.toList with hg | hg | hg
            · have hA : Op.bytesLess kx.toList kt.toList = false := less_anti hg
              have hB : (kx.toList == kt.toList) = false := by
                rw [beq_eq_false_iff_ne]
                intro h
                rw [h, bytesLess_self] at hg
                cases hg
              obtain rfl : bs = true := by rw [HBS.out, out_to (by rw [← HKT.out, ← HKX.out]; exact hg)]; rfl
              clear hg
              go_wp2_with fail
              refine HET.out.mono ?_
              rintro e wz ⟨rfl, hbz⟩
              have HBZ : Hid (Below wk.heap.size wk wz) := Lib.hid (HB0.out.trans (hbz.mono HB0.out.size))
              clear hbz
              go_wp2_with fail
              go_meet
              exact ⟨rfl, HBZ⟩
            · have hT : toB (some ⟨e2k, e2n, e2s, e2a, e2xs, e2c, e2t⟩) (En.c ⟨xk, xn, xt, xa, xxs, xlc, xtid⟩).1.kb = true := by
                show (! _) = true
                rw [← HKT.out, ← HKX.out, less_anti hg]; rfl
              obtain rfl : bs = false := by rw [HBS.out, is_in HNK.out rfl hT]; rfl
              clear hT
              go_wp2_with fail
              refine HET.out.mono ?_
              rintro e wz ⟨rfl, hbz⟩
              have HBZ : Hid (Below wk.heap.size wk wz) := Lib.hid (HB0.out.trans (hbz.mono HB0.out.size))
              clear hbz
              go_wp2_with fail
              go_meet
              exact ⟨rfl, HBZ⟩
            · have hT : toB (some ⟨e2k, e2n, e2s, e2a, e2xs, e2c, e2t⟩) (En.c ⟨xk, xn, xt, xa, xxs, xlc, xtid⟩).1.kb = true := by
                show (! _) = true
                rw [← HKT.out, ← HKX.out, hg, bytesLess_self]; rfl
              have hA : Op.bytesLess kx.toList kt.toList = false := by rw [hg, bytesLess_self]
              have hB : (kx.toList == kt.toList) = true := by rw [hg]; simp
              obtain rfl : bs = false := by rw [HBS.out, is_in HNK.out rfl hT]; rfl
              clear hT hg
              go_wp2_with fail
              refine HET.out.mono ?_
              rintro e wz ⟨rfl, hbz⟩
              have HBZ : Hid (Below wk.heap.size wk wz) := Lib.hid (HB0.out.trans (hbz.mono HB0.out.size))
              clear hbz
              go_wp2_with fail
              go_meet
              exact ⟨rfl, HBZ⟩
        | some e1 =>
          obtain ⟨⟨fb, ffo, rfl, hfb, s0, s1, s2, s3⟩, hfin⟩ := HF.out.bd.below HBK.out
          have hqf : ∀ W : World, (binOp .neq 40 (.pointer (some ⟨fb, ffo, none⟩)) (.pointer none)).run Try.prog W = .ok (.bool true) W := fun W => eql_nil_dt W _
          have HEF := Lib.hid (enc_of hfin (boundE_zero HF.out.ok).1)
          obtain ⟨kf, hkf⟩ : ∃ kf, kf = keyS e1.k e1.n e1.s e1.xs := ⟨_, rfl⟩
          have HKF : Hid (kf.toList = e1.d.kb) := Lib.hid (by rw [hkf]; exact key_kb e1)
          rw [← hkf] at HEF
          obtain ⟨e1k, e1n, e1s, e1a, e1xs, e1c, e1t⟩ := e1
          simp only [] at s0 s1 s2 s3 HEF
          obtain ⟨l1, hl1⟩ : ∃ l1, l1 = e1xs.length := ⟨_, rfl⟩
          rw [← hl1] at s3 HEF
          clear hfin hkf hl1
          by_cases hfl : Op.bytesLess kx.toList kf.toList = true
          · obtain rfl : bs = true := by rw [HBS.out, out_from (by rw [← HKF.out, ← HKX.out]; exact hfl)]; rfl
            go_wp2_with fail
            refine HEF.out.mono ?_
            rintro e wq ⟨rfl, hbq⟩
            have HBQ := Lib.hid hbq
            clear hbq
            go_wp2_with fail
            go_meet
            exact ⟨rfl, HBQ⟩
          have hfl2 : Op.bytesLess kx.toList kf.toList = false := by simpa using hfl
          have HFB : Hid (fromB (some ⟨e1k, e1n, e1s, e1a, e1xs, e1c, e1t⟩) (En.c ⟨xk, xn, xt, xa, xxs, xlc, xtid⟩).1.kb = true) := Lib.hid (by
            show (! _) = true
            rw [← HKF.out, ← HKX.out, hfl2]; rfl)
          clear hfl
          go_wp2_with fail
          refine HEF.out.mono ?_
          rintro e wq ⟨rfl, hbq⟩
          have HBQ := Lib.hid hbq
          clear hbq HEF s0 s1 s2 s3
          cases dt with
          | none =>
            obtain rfl : pt = none := HT.out.bd
            obtain rfl : bs = false := by rw [HBS.out, is_in HNK.out HFB.out rfl]; rfl
            go_wp2_with fail
            go_meet
            exact ⟨rfl, HBQ⟩
          | some e2 =>
            obtain ⟨⟨tb, tfo, rfl, htb, t0, t1, t2, t3⟩, htin⟩ := HT.out.bd.below (HBK.out.trans (HBQ.out.mono HBK.out.size))
            have hqt : ∀ W : World, (binOp .neq 40 (.pointer (some ⟨tb, tfo, none⟩)) (.pointer none)).run Try.prog W = .ok (.bool true) W := fun W => eql_nil_dt W _
            have HET := Lib.hid (enc_of htin (boundE_zero HT.out.ok).1)
            obtain ⟨kt, hkt⟩ : ∃ kt, kt = keyS e2.k e2.n e2.s e2.xs := ⟨_, rfl⟩
            have HKT : Hid (kt.toList = e2.d.kb) := Lib.hid (by rw [hkt]; exact key_kb e2)
            rw [← hkt] at HET
            obtain ⟨e2k, e2n, e2s, e2a, e2xs, e2c, e2t⟩ := e2
            simp only [] at t0 t1 t2 t3 HET
            obtain ⟨l2, hl2⟩ : ∃ l2, l2 = e2xs.length := ⟨_, rfl⟩
            rw [← hl2] at t3 HET
            clear htin hkt hl2
            rcases less_total kt.toList kx.toList with hg | hg | hg
            · have hA : Op.bytesLess kx.toList kt.toList = false := less_anti hg
              have hB : (kx.toList == kt.toList) = false := by
                rw [beq_eq_false_iff_ne]
                intro h
                rw [h, bytesLess_self] at hg
                cases hg
              obtain rfl : bs = true := by rw [HBS.out, out_to (by rw [← HKT.out, ← HKX.out]; exact hg)]; rfl
              clear hg
              go_wp2_with fail
              refine HET.out.mono ?_
              rintro e wz ⟨rfl, hbz⟩
              have HBZ : Hid (Below wk.heap.size wk wz) := Lib.hid (HBQ.out.trans (hbz.mono HBQ.out.size))
              clear hbz
              go_wp2_with fail
              go_meet
              exact ⟨rfl, HBZ⟩
            · have hT : toB (some ⟨e2k, e2n, e2s, e2a, e2xs, e2c, e2t⟩) (En.c ⟨xk, xn, xt, xa, xxs, xlc, xtid⟩).1.kb = true := by
                show (! _) = true
                rw [← HKT.out, ← HKX.out, less_anti hg]; rfl
              obtain rfl : bs = false := by rw [HBS.out, is_in HNK.out HFB.out hT]; rfl
              clear hT
              go_wp2_with fail
              refine HET.out.mono ?_
              rintro e wz ⟨rfl, hbz⟩
              have HBZ : Hid (Below wk.heap.size wk wz) := Lib.hid (HBQ.out.trans (hbz.mono HBQ.out.size))
              clear hbz
              go_wp2_with fail
              go_meet
              exact ⟨rfl, HBZ⟩
            · have hT : toB (some ⟨e2k, e2n, e2s, e2a, e2xs, e2c, e2t⟩) (En.c ⟨xk, xn, xt, xa, xxs, xlc, xtid⟩).1.kb = true := by
                show (! _) = true
                rw [← HKT.out, ← HKX.out, hg, bytesLess_self]; rfl
              have hA : Op.bytesLess kx.toList kt.toList = false := by rw [hg, bytesLess_self]
              have hB : (kx.toList == kt.toList) = true := by rw [hg]; simp
              obtain rfl : bs = false := by rw [HBS.out, is_in HNK.out HFB.out hT]; rfl
              clear hT hg
              go_wp2_with fail
              refine HET.out.mono ?_
              rintro e wz ⟨rfl, hbz⟩
              have HBZ : Hid (Below wk.heap.size wk wz) := Lib.hid (HBQ.out.trans (hbz.mono HBQ.out.size))
              clear hbz
              go_wp2_with fail
              go_meet
              exact ⟨rfl, HBZ⟩
      case rest =>
        obtain ⟨rfl, HBX⟩ := hcut
        have HBWC : Hid (Below w.heap.size w wc) := Lib.hid (HBK.out.trans (HBX.out.mono HBK.out.size))
        have HOC : Hid (Rows w.heap.size wc (.slice oa m oc) (ranL (es.take j) df dt back)) := Lib.hid (HOK.out.below HBX.out)
        obtain ⟨e0', e1', e2', e3', e4'⟩ := HE5.out wc HBX.out
        have hbw3 : b < wc.heap.size := Nat.lt_of_lt_of_le hbw2 HBX.out.size
        have HWS : Hid (w.heap.size ≤ wc.heap.size) := Lib.hid HBWC.out.size
        clear e0 hbw2 hbw hwk
        cases bs with
        | true =>
          have HM2 : Hid (m = (ranL (es.take (j + 1)) df dt back).length) := Lib.hid (by rw [HSK.out rfl]; exact HM.out)
          have HO2 : Hid (Rows w.heap.size wc (.slice oa m oc) (ranL (es.take (j + 1)) df dt back)) := Lib.hid (by rw [HSK.out rfl]; exact HOC.out)
          clear HPUT HSK HIN
          go_wp2_with fail
          go_roundw
          case rel => exact ⟨j + 1, m, oa, oc, by omega, by go_num, rfl, HBWC, HM2, HO2⟩
          case measure => simp [intOf]; omega
        | false =>
          have hin := HIN.out rfl
          cases back with
          | false =>
            have hst := ranL_fore (es := es.take j) hin
            rw [← HTK.out] at hst
            have hmj : m ≤ j := by have := HLEN.out; have := HM.out; omega
            obtain ⟨na, nc, w2', hr2, ho2, hb2⟩ := HPUT.out _ wc wc oa m oc _ HOC.out HM.out hmj HWS.out rfl
            have HM2 : Hid (m + 1 = (ranL (es.take (j + 1)) df dt false).length) := Lib.hid (by rw [hst, List.length_append, List.length_singleton, ← HM.out])
            have HO2 : Hid (Rows w.heap.size w2' (.slice na (m + 1) nc) (ranL (es.take (j + 1)) df dt false)) := Lib.hid (by rw [hst]; exact ho2)
            have HB3 : Hid (Below w.heap.size w w2') := Lib.hid (HBWC.out.trans hb2)
            clear HPUT HSK HIN hin hst ho2 hb2 hmj
            go_wp2_with (at_builtin; refine Lib.wpList_append_run _ rfl _ _ 25 25 rfl _ _ rfl rfl _ _ hr2 ?_)
            go_roundw
            case rel => exact ⟨j + 1, m + 1, na, nc, by omega, by go_num, rfl, HB3, HM2, HO2⟩
            case measure => simp [intOf]; omega
          | true =>
            have hst := ranL_back (es := es.take j) hin
            rw [← HTK.out] at hst
            have hmj : m ≤ j := by have := HLEN.out; have := HM.out; omega
            obtain ⟨na, nc, w2', hr2, ho2, hb2⟩ := HPUT.out wc.heap.size wc wc none 0 0 [] (World.ownsRow_nil _ _ _ _) rfl (Nat.zero_le _) (Nat.le_refl _) rfl
            have hHO2 : Rows w.heap.size w2' (.slice oa m oc) (ranL (es.take j) df dt true) := HOC.out.below hb2
            obtain ⟨na3, nc3, w3, hr3, ho3, hb3⟩ := cat_en w2' 25 w.heap.size w.heap.size _ _ _ _ (ho2.mono HWS.out) hHO2 (by rw [← HM.out]; simp; omega) (by have := hb2.size; have := HWS.out; omega)
            rw [← HM.out] at hr3 ho3
            simp only [List.nil_append, List.length_singleton, List.singleton_append] at hr3 ho3 hst
            have HM2 : Hid (1 + m = (ranL (es.take (j + 1)) df dt true).length) := Lib.hid (by rw [hst, List.length_cons, ← HM.out]; omega)
            have HO2 : Hid (Rows w.heap.size w3 (.slice na3 (1 + m) nc3) (ranL (es.take (j + 1)) df dt true)) := Lib.hid (by rw [hst]; exact ho3)
            have HB3 : Hid (Below w.heap.size w w3) := Lib.hid ((HBWC.out.trans (hb2.mono HWS.out)).trans hb3)
            clear HPUT HSK HIN hin hst ho2 hb2 hmj ho3 hb3 hHO2
            go_wp2_with (at_builtin; first | (refine Lib.wpList_append_run _ rfl (.tmp 76) (.tmp 81) 25 25 rfl _ _ rfl rfl _ _ hr2 ?_) | (refine Lib.wpList_append_run _ rfl (.tmp 83) (.tmp 84) 25 25 rfl _ _ rfl rfl _ _ hr3 ?_))
            go_roundw
            case rel => exact ⟨j + 1, 1 + m, na3, nc3, by omega, by go_num, rfl, HB3, HM2, HO2⟩
            case measure => simp [intOf]; omega
    · obtain rfl : j = n := by omega
      have hji : ¬ (j : Int) < (j : Int) := by omega
      have HEND : Hid (Rows w.heap.size wr (.slice oa m oc) (ranL es df dt back) ∧ m = (ranL es df dt back).length) := Lib.hid (by
        have h1 := HO.out
        have h2 := HM.out
        rw [List.take_of_length_le (by rw [HN.out]; exact Nat.le_refl _)] at h1 h2
        exact ⟨h1, h2⟩)
      clear HM HO
      go_wp2
      go_ret2
      obtain ⟨h1, h2⟩ := HEND.out
      exact ⟨oa, oc, _, congrArg (fun q => Ending.returned (.tuple #[.slice oa q oc, .int .i64 0])) h2, by rw [← h2]; exact h1, rfl, HB.out⟩
end Go.Proofs.Ytnnmigglcpkomaa.Dm

/- The document's Range, whatever its ends are; what both sides hand out. -/
set_option maxRecDepth 100000
namespace Go.Proofs.Ytnnmigglcpkomaa.Dm
open Go Go.RowKit

theorem endsE_two (df dt : Option En) : endsE [df, dt] = if boundE df = 1 ∨ boundE dt = 1 then 1 else if boundE df = 0 ∧ boundE dt = 0 then 0 else 10 := by
  unfold endsE
  rcases boundE_cases df with h1 | h1 | h1 <;> rcases boundE_cases dt with h2 | h2 | h2 <;> simp [h1, h2]

set_option maxHeartbeats 1600000 in
theorem rrange_bad (a : Option Addr) (n c : Nat) (w : World) (pf pt : Option Addr) (df dt : Option En) (back : Bool) (hf : BdW w pf df) (ht : BdW w pt dt) (h0 : endsE [df, dt] ≠ 0) :
    Calls Try.prog 17 #[.slice a n c, .pointer pf, .pointer pt, .bool back] w fun r w' => r = .returned (.tuple #[.slice none 0 0, .int .i64 (endsE [df, dt])]) ∧ Below w.heap.size w w' := by
  have HBF := Lib.hid (bound9_any pf df w hf)
  have HBT : Hid (∀ W, Below w.heap.size w W → Calls Try.prog 19 #[.pointer pt] W fun r w' => r = .returned (.int .i64 (boundE dt)) ∧ Below W.heap.size W w') := Lib.hid (fun W hW => bound9_any pt dt W (ht.below hW))
  rw [endsE_two] at h0 ⊢
  clear hf ht
  obtain ⟨x, hx⟩ : ∃ x, x = boundE df := ⟨_, rfl⟩
  obtain ⟨y, hy⟩ : ∃ y, y = boundE dt := ⟨_, rfl⟩
  have hxc := boundE_cases df
  have hyc := boundE_cases dt
  rw [← hx] at HBF h0 hxc ⊢
  rw [← hy] at HBT h0 hyc ⊢
  clear hx hy
  obtain ⟨R, hR⟩ : ∃ R : Int, R = if x = 1 ∨ y = 1 then 1 else if x = 0 ∧ y = 0 then 0 else 10 := ⟨_, rfl⟩
  have HR := Lib.hid hR
  rw [← hR] at h0 ⊢
  clear hR
  rcases hxc with rfl | rfl | rfl <;> rcases hyc with rfl | rfl | rfl
  · exact absurd (by rw [HR.out]; simp) h0
  all_goals
    clear h0
    go_enter Try.func17, Try.ntmps17
    go_wp2_with fail
    refine HBF.out.mono ?_
    rintro e w1 ⟨rfl, hb1⟩
    have HB1 := Lib.hid hb1
    clear hb1
    go_wp2_with fail
    refine (HBT.out _ HB1.out).mono ?_
    rintro e w2 ⟨rfl, hb2⟩
    have HB2 : Hid (Below w.heap.size w w2) := Lib.hid (HB1.out.trans (hb2.mono HB1.out.size))
    clear hb2 HB1
    go_wp2
    go_ret2
    exact ⟨congrArg (fun b => Ending.returned (.tuple #[.slice none 0 0, .int .i64 b])) (by rw [HR.out]; simp), HB2.out⟩

theorem rrange_any {a : Option Addr} {es : List En} (c : Nat) {w : World} {pf pt : Option Addr} {df dt : Option En} (back : Bool) (hL : EnsW w a es) (hf : BdW w pf df) (ht : BdW w pt dt) (hbig : es.length ≤ 2199023255540) :
    Calls Try.prog 17 #[.slice a es.length c, .pointer pf, .pointer pt, .bool back] w fun r w' => ∃ a' c' es', r = .returned (.tuple #[.slice a' (es' : List En).length c', .int .i64 (endsE [df, dt])]) ∧ EnsW w' a' es' ∧ consE es' = (if endsE [df, dt] = 0 then rangeE (consE es) df dt back else []) ∧ Below w.heap.size w w' := by
  by_cases h0 : endsE [df, dt] = 0
  · have hb : boundE df = 0 ∧ boundE dt = 0 := by
      rw [endsE_two] at h0
      rcases boundE_cases df with h1 | h1 | h1 <;> rcases boundE_cases dt with h2 | h2 | h2 <;> simp [h1, h2] at h0
      exact ⟨h1, h2⟩
    refine (rrange_ok a es c w pf pt df dt back hL hf ht hb.1 hb.2 hbig).mono ?_
    rintro r w' ⟨a', c', es', rfl, h1, h2, h3⟩
    refine ⟨a', c', es', by rw [h0], h1.ens (fun e he => ?_), ?_, h3⟩
    · have hm := hL.all e (ranL_mem (h2 ▸ he))
      exact ⟨hm.1.below h3, hm.2⟩
    · rw [if_pos h0, h2, ranL_c]
  · refine (rrange_bad a es.length c w pf pt df dt back hf ht h0).mono ?_
    rintro r w' ⟨rfl, hb⟩
    exact ⟨none, 0, [], rfl, ⟨.inl rfl, fun e he => by cases he⟩, by rw [if_neg h0]; rfl, hb⟩

theorem rangeE_mem {l : List Et} {df dt : Option En} {back : Bool} {c : Et} (h : c ∈ rangeE l df dt back) : c ∈ l := by
  unfold rangeE at h
  cases back
  · simp only [Bool.false_eq_true, if_false] at h; exact (List.mem_filter.1 h).1
  · simp only [if_true, List.mem_reverse] at h; exact (List.mem_filter.1 h).1
theorem rangeE_length (l : List Et) (df dt : Option En) (back : Bool) : (rangeE l df dt back).length ≤ l.length := by
  unfold rangeE
  cases back
  · simp only [Bool.false_eq_true, if_false]; exact List.length_filter_le _ _
  · simp only [if_true, List.length_reverse]; exact List.length_filter_le _ _
/-- What Range hands out, as entries that may be. -/
theorem EnSt.ens2 {N : Nat} {w : World} {a : Option Addr} {n c : Nat} {es : List En} {l : List Et} {x : Int} {df dt : Option En} {back : Bool} (h : EnSt N w (.slice a n c) es) (hg : Goods [1, 2, 3] l) (hc : consE es = (if x = 0 then rangeE l df dt back else [])) : EnsW w a es :=
  h.row.ens fun e he => ⟨h.ins e he, by
    have h1 : e.c ∈ consE es := List.mem_map.2 ⟨e, he, rfl⟩
    rw [hc] at h1
    split at h1
    · rw [← e.ok_d]
      exact (hg.fit e.c (rangeE_mem h1)).1
    · cases h1⟩
end Go.Proofs.Ytnnmigglcpkomaa.Dm

/- Halves of a range: in plain words, and as the law meets them. -/
set_option maxRecDepth 100000
namespace Go.Proofs.Ytnnmigglcpkomaa.Dm
open Go Go.RowKit

theorem filter_four {α : Type} {p q r s : α → Bool} : ∀ {l : List α}, (∀ x, x ∈ l → (p x).toNat + (q x).toNat = (r x).toNat + (s x).toNat) → (l.filter p).length + (l.filter q).length = (l.filter r).length + (l.filter s).length
  | [], _ => rfl
  | a :: l, h => by
    have ih := filter_four (l := l) (fun x hx => h x (List.mem_cons_of_mem _ hx))
    have ha := h a (List.mem_cons_self ..)
    simp only [List.filter_cons]
    cases hp : p a <;> cases hq : q a <;> cases hr : r a <;> cases hs : s a <;> simp [hp, hq, hr, hs] at ha ⊢ <;> omega

theorem halves_len {l : List Et} {d : En} (hg : Goods [1, 2, 3] l) (hd : boundE (some d) = 0) (nd : d.d.nums) :
    (rangeE l none (some d) false).length + (rangeE l (some d) none false).length = (rangeE l none none false).length + (findE l d.d).length := by
  obtain ⟨hok, hk3⟩ := boundE_zero hd
  have hdo : d.d.ok = true := by rw [d.ok_d]; exact hok
  unfold rangeE findE
  simp only [Bool.false_eq_true, if_false, List.length_map]
  refine filter_four (fun c hc => ?_)
  have hf := hg.fit c hc
  by_cases h3 : c.1.1 = 3
  · have hne : ¬ c.1 = d.d := fun h => hk3 (by
      have h4 : d.d.1 = d.k := rfl
      rw [← h4, ← h, h3])
    rw [out_3 h3, out_3 h3, out_3 h3, decide_eq_false hne]
  · rcases less_total c.1.kb d.d.kb with h | h | h
    · have hne : ¬ c.1 = d.d := fun h4 => by rw [h4, bytesLess_self] at h; cases h
      have t1 : toB (some d) c.1.kb = true := by show (! _) = true; rw [less_anti h]; rfl
      rw [is_in h3 rfl t1, out_from h, is_in h3 rfl rfl, decide_eq_false hne]
    · have hne : ¬ c.1 = d.d := fun h4 => by rw [h4, bytesLess_self] at h; cases h
      have t1 : fromB (some d) c.1.kb = true := by show (! _) = true; rw [less_anti h]; rfl
      rw [out_to h, is_in h3 t1 rfl, is_in h3 rfl rfl, decide_eq_false hne]
      rfl
    · have he := kb_inj hf.1 hdo hf.2 nd h
      have t1 : fromB (some d) c.1.kb = true := by show (! _) = true; rw [h, bytesLess_self]; rfl
      have t2 : toB (some d) c.1.kb = true := by show (! _) = true; rw [h, bytesLess_self]; rfl
      rw [is_in h3 rfl t2, is_in h3 t1 rfl, is_in h3 rfl rfl, decide_eq_true he]

theorem halves_prefix {l : List Et} {d : En} (hg : Goods [1, 2, 3] l) : rangeE l none (some d) false <+: rangeE l none none false := by
  unfold rangeE
  simp only [Bool.false_eq_true, if_false]
  have e1 : l.filter (inRange none (some d)) = (l.filter (inRange none none)).filter (fun c => toB (some d) c.1.kb) := by
    rw [List.filter_filter]
    refine List.filter_congr (fun c _ => ?_)
    unfold inRange
    have h1 : ∀ k, fromB none k = true := fun _ => rfl
    have h2 : ∀ k, toB none k = true := fun _ => rfl
    rw [h1, h2, Bool.true_and, Bool.and_true, Bool.and_true, Bool.and_comm]
  rw [e1, ← takeWhile_filter (R := fun a b => aheadE a b = true) (hg.rise.sublist List.filter_sublist) (fun a b hab hb => ?_)]
  · exact List.takeWhile_prefix _
  · have hb2 : (! Op.bytesLess d.d.kb b.1.kb) = true := hb
    show (! Op.bytesLess d.d.kb a.1.kb) = true
    cases h : Op.bytesLess d.d.kb a.1.kb with
    | false => rfl
    | true =>
      rw [less_trans2 h (ahead_kb hab)] at hb2
      cases hb2

/-- What the law's loop meets: at each place the entry there, forward and back; where it is in the lower half, there too. -/
structure HvF (w7 : World) (a1 : Option Addr) (n1 : Nat) (a3 : Option Addr) (n3 : Nat) (a4 : Option Addr) : Prop where
  two : ∀ j, j < n3 → ∃ b3 o3 b4 o4 x3 x4, a3 = some ⟨b3, o3, none⟩ ∧ a4 = some ⟨b4, o4, none⟩ ∧ b3 < w7.heap.size ∧ b4 < w7.heap.size ∧ ∀ W, Below w7.heap.size w7 W → C5 b3 (o3 + j * 5) x3 W ∧ C5 b4 (o4 + (n3 - 1 - j) * 5) x4 W ∧ Calls Try.prog 21 #[x3.v, x4.v] W fun r w' => r = .returned (.bool true) ∧ Below W.heap.size W w'
  low : ∀ j, j < n1 → ∃ b1 o1 b3 o3 x1 x3, a1 = some ⟨b1, o1, none⟩ ∧ a3 = some ⟨b3, o3, none⟩ ∧ b1 < w7.heap.size ∧ b3 < w7.heap.size ∧ ∀ W, Below w7.heap.size w7 W → C5 b1 (o1 + j * 5) x1 W ∧ C5 b3 (o3 + j * 5) x3 W ∧ Calls Try.prog 21 #[x1.v, x3.v] W fun r w' => r = .returned (.bool true) ∧ Below W.heap.size W w'
  few : n1 ≤ n3

theorem C5.of {w W : World} {a : Option Addr} {es : List En} (h : EnsW w a es) (j : Nat) (hj : j < es.length) : ∃ b off, a = some ⟨b, off, none⟩ ∧ b < w.heap.size ∧ (Below w.heap.size w W → C5 b (off + j * 5) (es[j]'hj) W) := by
  obtain ⟨b, off, h1, h2, h3⟩ := h.at hj
  refine ⟨b, off, h1, h2, fun hW => ?_⟩
  obtain ⟨c0, c1, c2, c3, c4⟩ := h3 j hj
  exact ⟨(hW.cell (p := ⟨b, _, none⟩) h2).trans c0, (hW.cell (p := ⟨b, _, none⟩) h2).trans c1, (hW.cell (p := ⟨b, _, none⟩) h2).trans c2, (hW.cell (p := ⟨b, _, none⟩) h2).trans c3, (hW.cell (p := ⟨b, _, none⟩) h2).trans c4⟩

theorem hvF_of {w7 : World} {a1 a3 a4 : Option Addr} {e1 e3 e4 : List En} {l : List Et} {d : En} (hg : Goods [1, 2, 3] l) (h1 : EnsW w7 a1 e1) (h3 : EnsW w7 a3 e3) (h4 : EnsW w7 a4 e4)
    (c1 : consE e1 = rangeE l none (some d) false) (c3 : consE e3 = rangeE l none none false) (c4 : consE e4 = rangeE l none none true) : HvF w7 a1 e1.length a3 e3.length a4 ∧ e4.length = e3.length := by
  have e34 : consE e4 = (consE e3).reverse := by
    rw [c4, c3]
    unfold rangeE
    simp
  have hl4 : e4.length = e3.length := by
    have := congrArg List.length e34
    unfold consE at this
    simpa using this
  have hpre : consE e1 <+: consE e3 := by rw [c1, c3]; exact halves_prefix hg
  have hl1 : e1.length ≤ e3.length := by
    have := hpre.length_le
    unfold consE at this
    simpa using this
  refine ⟨⟨fun j hj => ?_, fun j hj => ?_, hl1⟩, hl4⟩
  · have hj4 : e3.length - 1 - j < e4.length := by omega
    obtain ⟨b3, o3, q1, q2, _⟩ := C5.of (W := w7) h3 j hj
    obtain ⟨b4, o4, q3, q4, _⟩ := C5.of (W := w7) h4 _ hj4
    refine ⟨b3, o3, b4, o4, e3[j], e4[e3.length - 1 - j]'hj4, q1, q3, q2, q4, fun W hW => ?_⟩
    obtain ⟨b3', o3', q1', _, q5⟩ := C5.of (W := W) h3 j hj
    obtain ⟨b4', o4', q3', _, q6⟩ := C5.of (W := W) h4 _ hj4
    rw [q1] at q1'; cases q1'
    rw [q3] at q3'; cases q3'
    have m3 := h3.all _ (List.getElem_mem hj)
    have m4 := h4.all _ (List.getElem_mem hj4)
    refine ⟨q5 hW, q6 hW, ?_⟩
    have hs := same9_any e3[j] (e4[e3.length - 1 - j]'hj4) W (m3.1.below hW) (m4.1.below hW) m3.2 m4.2
    have heq : e3[j].c = (e4[e3.length - 1 - j]'hj4).c := by
      have hz : (consE e4)[e3.length - 1 - j]? = (consE e3).reverse[e3.length - 1 - j]? := by rw [e34]
      have hlen : (consE e3).length = e3.length := by unfold consE; rw [List.length_map]
      rw [List.getElem?_reverse (by rw [hlen]; omega), hlen, show e3.length - 1 - (e3.length - 1 - j) = j by omega] at hz
      unfold consE at hz
      rw [List.getElem?_map, List.getElem?_map, List.getElem?_eq_getElem hj4, List.getElem?_eq_getElem hj] at hz
      simpa using hz.symm
    rw [decide_eq_true heq] at hs
    exact hs
  · have hj3 : j < e3.length := by omega
    obtain ⟨b1, o1, q1, q2, _⟩ := C5.of (W := w7) h1 j hj
    obtain ⟨b3, o3, q3, q4, _⟩ := C5.of (W := w7) h3 j hj3
    refine ⟨b1, o1, b3, o3, e1[j], e3[j], q1, q3, q2, q4, fun W hW => ?_⟩
    obtain ⟨b1', o1', q1', _, q5⟩ := C5.of (W := W) h1 j hj
    obtain ⟨b3', o3', q3', _, q6⟩ := C5.of (W := W) h3 j hj3
    rw [q1] at q1'; cases q1'
    rw [q3] at q3'; cases q3'
    have m1 := h1.all _ (List.getElem_mem hj)
    have m3 := h3.all _ (List.getElem_mem hj3)
    refine ⟨q5 hW, q6 hW, ?_⟩
    have hs := same9_any e1[j] e3[j] W (m1.1.below hW) (m3.1.below hW) m1.2 m3.2
    have heq : e1[j].c = e3[j].c := by
      have hz := List.IsPrefix.getElem hpre (show j < (consE e1).length by unfold consE; rw [List.length_map]; exact hj)
      unfold consE at hz
      rw [List.getElem_map, List.getElem_map] at hz
      exact hz
    rw [decide_eq_true heq] at hs
    exact hs
end Go.Proofs.Ytnnmigglcpkomaa.Dm

/- The walk of MethodHalves. -/
set_option maxRecDepth 100000
namespace Go.Proofs.Ytnnmigglcpkomaa.Dm
open Go Go.RowKit

theorem endsE_left (d : Option En) : endsE [none, d] = boundE d := by
  rw [endsE_two]
  have h0 : boundE none = 0 := rfl
  rw [h0]
  rcases boundE_cases d with h | h | h <;> simp [h]
theorem endsE_right (d : Option En) : endsE [d, none] = boundE d := by
  rw [endsE_two]
  have h0 : boundE none = 0 := rfl
  rw [h0]
  rcases boundE_cases d with h | h | h <;> simp [h]

/-- What stands behind the four ranges. -/
structure HvE (w w7 : World) (x : Int) (a' : Option Addr) (m c' : Nat) (d : En) (bk : Nat) (a1 : Option Addr) (n1 n2 : Nat) (a3 : Option Addr) (n3 : Nat) (a4 : Option Addr) : Prop where
  below : Below w.heap.size w w7
  ok : x = 0 → HvF w7 a1 n1 a3 n3 a4 ∧ Calls Try.prog 20 #[.slice a' m c', d.dv] w7 fun r w8 => ∃ ai ci its, r = .returned (.slice ai its ci) ∧ n1 + n2 = n3 + its ∧ Below w7.heap.size w7 w8
  bad : x ≠ 0 → Calls Try.prog 19 #[.pointer (some ⟨bk, 0, none⟩)] w7 fun r w8 => r = .returned (.int .i64 x) ∧ Below w7.heap.size w7 w8
  key : ∀ W, Below w7.heap.size w7 W → W.cell? ⟨bk, 0, none⟩ = some (.int .i64 d.k) ∧ W.cell? ⟨bk, 1, none⟩ = some (.int .i64 d.n) ∧ W.cell? ⟨bk, 2, none⟩ = some (.string d.s) ∧ W.cell? ⟨bk, 3, none⟩ = some (.slice d.a d.xs.length d.lc)
  small : n1 ≤ 2199023255540 ∧ n2 ≤ 2199023255540 ∧ n3 ≤ 2199023255540

theorem halves_chain {w w0 w3 : World} {P bk : Nat} {S' : Nat → Prop} {a' : Option Addr} {c' : Nat} {es' : List En} {d : En} (hE : ∀ W, Below w0.heap.size w0 W → BdW W (some ⟨bk, 0, none⟩) (some d)) (hin : d.In w0) (hw0 : Below w.heap.size w w0) (h3 : Below w0.heap.size w0 w3)
    (hst : PlSt P S' w3 (consE es')) (hrob : Rob S' w3 (fun w => EnsW w a' es')) (hl : es'.length ≤ 2199023255540) :
    Calls Try.prog 16 #[.pointer (some ⟨P, 0, none⟩), .pointer none, .pointer (some ⟨bk, 0, none⟩), .bool false] w3 fun r w4 => ∃ a1 n1 c1, r = .returned (.tuple #[.slice a1 n1 c1, .int .i64 (boundE (some d))]) ∧
      Hid (Calls Try.prog 16 #[.pointer (some ⟨P, 0, none⟩), .pointer (some ⟨bk, 0, none⟩), .pointer none, .bool false] w4 fun r w5 => ∃ a2 n2 c2, r = .returned (.tuple #[.slice a2 n2 c2, .int .i64 (boundE (some d))]) ∧
        Hid (Calls Try.prog 16 #[.pointer (some ⟨P, 0, none⟩), .pointer none, .pointer none, .bool false] w5 fun r w6 => ∃ a3 n3 c3, r = .returned (.tuple #[.slice a3 n3 c3, .int .i64 0]) ∧
          Hid (Calls Try.prog 16 #[.pointer (some ⟨P, 0, none⟩), .pointer none, .pointer none, .bool true] w6 fun r w7 => ∃ a4 c4, r = .returned (.tuple #[.slice a4 n3 c4, .int .i64 0]) ∧ Hid (HvE w w7 (boundE (some d)) a' es'.length c' d bk a1 n1 n2 a3 n3 a4)))) := by
  have hcl : (consE es').length = es'.length := by unfold consE; rw [List.length_map]
  have hl2 : (consE es').length < 2199023255552 := by rw [hcl]; omega
  have hn : ∀ W, BdW W none none := fun _ => rfl
  have e0 : endsE [none, none] = 0 := rfl
  have hlen : ∀ (es : List En) (x : Int) (df dt : Option En) (b : Bool), consE es = (if x = 0 then rangeE (consE es') df dt b else []) → es.length ≤ 2199023255540 := fun es x df dt b h => by
    have h1 := congrArg List.length h
    unfold consE at h1
    rw [List.length_map] at h1
    rw [h1]
    split
    · exact Nat.le_trans (rangeE_length _ _ _ _) (by rw [List.length_map]; exact hl)
    · exact Nat.zero_le _
  refine (range_st hst hl2 false (hn _) (hE w3 h3)).mono ?_
  rintro r w4 ⟨a1, c1, es1, rfl, s1, k1, b4⟩
  rw [endsE_left] at k1 ⊢
  have h4 := h3.trans (b4.mono h3.size)
  refine ⟨a1, _, c1, rfl, Lib.hid ?_⟩
  have hst4 := hst.below b4
  refine (range_st hst4 hl2 false (hE w4 h4) (hn _)).mono ?_
  rintro r w5 ⟨a2, c2, es2, rfl, s2, k2, b5⟩
  rw [endsE_right] at k2 ⊢
  have h5 := h4.trans (b5.mono h4.size)
  refine ⟨a2, _, c2, rfl, Lib.hid ?_⟩
  have hst5 := hst4.below b5
  refine (range_st hst5 hl2 false (hn _) (hn _)).mono ?_
  rintro r w6 ⟨a3, c3, es3, rfl, s3, k3, b6⟩
  have h6 := h5.trans (b6.mono h5.size)
  refine ⟨a3, _, c3, by rw [e0], Lib.hid ?_⟩
  have hst6 := hst5.below b6
  refine (range_st hst6 hl2 true (hn _) (hn _)).mono ?_
  rintro r w7 ⟨a4, c4, es4, rfl, s4, k4, b7⟩
  have h7 := h6.trans (b7.mono h6.size)
  have q1 : EnsW w7 a1 es1 := (((s1.ens2 hst.good k1).below b5).below b6).below b7
  have q3 : EnsW w7 a3 es3 := (s3.ens2 hst.good k3).below b7
  have q4 : EnsW w7 a4 es4 := s4.ens2 hst.good k4
  have k3' : consE es3 = rangeE (consE es') none none false := by rw [k3, if_pos e0]
  have k4' : consE es4 = rangeE (consE es') none none true := by rw [k4, if_pos e0]
  have hl4 : es4.length = es3.length := by
    have := congrArg List.length (show consE es4 = (consE es3).reverse by rw [k4', k3']; unfold rangeE; simp)
    unfold consE at this
    simpa using this
  refine ⟨a4, c4, by rw [e0, hl4], Lib.hid ⟨hw0.trans (h7.mono hw0.size), fun hx => ?_, fun hx => ?_, fun W hW => ?_, hlen _ _ _ _ _ k1, hlen _ _ _ _ _ k2, hlen _ _ _ _ _ k3⟩⟩
  · rw [if_pos hx] at k1 k2
    have hF := hvF_of hst.good q1 q3 q4 k1 k3' k4'
    refine ⟨hF.1, ?_⟩
    have hok := (boundE_zero hx).1
    have hin7 := hin.below h7
    refine (find9_any a' es' c' d w7 hin7 hok ((((hrob.below b4).below b5).below b6).below b7).now (by omega)).mono ?_
    rintro r w8 ⟨v, rfl, hr, hb⟩
    obtain ⟨ai, ci, rfl⟩ := hr.shape
    refine ⟨ai, ci, _, rfl, ?_, hb⟩
    have hh := halves_len hst.good hx (In_nums hin7)
    rw [← k1, ← k2, ← k3', findL_c] at hh
    unfold consE at hh
    simpa using hh
  · refine (bound9_any (some ⟨bk, 0, none⟩) (some d) w7 (hE w7 h7)).mono ?_
    rintro r w8 ⟨rfl, hb⟩
    exact ⟨rfl, hb⟩
  · obtain ⟨⟨b, off, q, _, x0, x1, x2, x3⟩, _⟩ := hE W (h7.trans (hW.mono h7.size))
    cases q
    exact ⟨x0, x1, x2, x3⟩
end Go.Proofs.Ytnnmigglcpkomaa.Dm

/- The walk of MethodHalves, whole. -/
set_option maxRecDepth 100000
namespace Go.Proofs.Ytnnmigglcpkomaa.Dm
open Go Go.RowKit

set_option maxHeartbeats 12800000 in
theorem methodHalves_walk (sa : Option Addr) (sc : Nat) (ops : List OpE) (d : En) (w : World) (h : OpsW w sa ops) (hbig : ops.length ≤ 2199023255540) (hd : d.In w) :
    Calls Try.prog 6 #[.slice sa ops.length sc, d.dv] w fun e w' => e = .returned (.bool true) ∧ Below w.heap.size w w' := by
  have HAW := Lib.hid awake_any
  unfold En.dv
  obtain ⟨w0, hw0⟩ : ∃ w0, w0 = w.alloc (.cells #[.int .i64 d.k, .int .i64 d.n, .string d.s, .slice d.a d.xs.length d.lc] 33) := ⟨_, rfl⟩
  have hb0 : Below w.heap.size w w0 := by rw [hw0]; exact (Below.refl _ _).alloc (Nat.le_refl _) _
  have hin0 : d.In w0 := hd.below hb0
  have HE : Hid (∀ W, Below w0.heap.size w0 W → BdW W (some ⟨w.heap.size, 0, none⟩) (some d)) := Lib.hid (fun W hW => by
    have hB : w0.heap[w.heap.size]? = some (.cells #[.int .i64 d.k, .int .i64 d.n, .string d.s, .slice d.a d.xs.length d.lc] 33) := by rw [hw0]; exact heap_alloc_new w _
    have hl : w.heap.size < w0.heap.size := (Array.getElem?_eq_some_iff.1 hB).1
    have hBW := (hW.block _ hl).trans hB
    have hs := hW.size
    refine ⟨⟨w.heap.size, 0, rfl, by omega, ?_, ?_, ?_, ?_⟩, hin0.below hW⟩ <;> (rw [Lib.cell_of_heap hBW]; rfl))
  have HPL : Hid (∀ w1, PlSt w0.heap.size (fun k => k = w0.heap.size) w1 [] → Below w0.heap.size w0 w1 → _) := Lib.hid (fun w1 hp hb => plays_law (sc := sc) (h.below hb0) hbig hp hb)
  obtain ⟨n, hn⟩ : ∃ n, n = ops.length := ⟨_, rfl⟩
  rw [← hn] at HPL ⊢
  have HB0 := Lib.hid hb0
  have HIN := Lib.hid hin0
  have HW0 := Lib.hid hw0
  obtain ⟨x, hx⟩ : ∃ x, x = boundE (some d) := ⟨_, rfl⟩
  have HCH : Hid (∀ w3 P S' a' c' es', Below w0.heap.size w0 w3 → PlSt P S' w3 (consE es') → Rob S' w3 (fun w => EnsW w a' es') → es'.length ≤ 2199023255540 → _) := Lib.hid (fun w3 P S' a' c' es' h3 hst hrob hl => halves_chain (c' := c') HE.out HIN.out HB0.out h3 hst hrob hl)
  rw [← hx] at HCH
  obtain ⟨dk, dn, ds, da, dxs, dlc, dt⟩ := d
  simp only [] at HW0 ⊢
  obtain ⟨dl, hdl⟩ : ∃ dl, dl = dxs.length := ⟨_, rfl⟩
  have HDL := Lib.hid hdl
  rw [← hdl] at HW0 ⊢
  clear h hbig hn hd hb0 hw0 hin0 hx hdl
  have hw0 := HW0.out
  go_enter Try.func6, Try.ntmps6
  go_wp2_with fail
  rw [← hw0]
  clear hw0
  refine (newPlain_any _).mono ?_
  rintro r w1 ⟨rfl, hp1, hb1⟩
  have HQ := Lib.hid (HPL.out w1 hp1 hb1)
  clear hp1 hb1 HPL
  obtain ⟨P, hP⟩ : ∃ P, P = w0.heap.size := ⟨_, rfl⟩
  have HPP := Lib.hid hP
  rw [← hP] at HQ ⊢
  clear hP
  go_wp2_with fail
  refine (law_all _).mono ?_
  rintro r w2 ⟨rfl, rfl⟩
  go_wp2_with fail
  refine HQ.out.mono ?_
  rintro r w3 ⟨S', a', c', es', rfl, hl, hrob, hst, hb3, hS⟩
  have HR1 := Lib.hid (HCH.out w3 P S' a' c' es' (by rw [← HPP.out]; exact hb3) hst hrob hl)
  obtain ⟨m, hm⟩ : ∃ m, m = es'.length := ⟨_, rfl⟩
  rw [← hm] at HR1 ⊢
  clear hrob hst hb3 hS hm hl HQ HCH HE
  go_wp2_with fail
  refine HR1.out.mono ?_
  rintro r w4 ⟨a1, n1, c1, rfl, HR2⟩
  clear HR1
  go_wp2_with fail
  refine HR2.out.mono ?_
  rintro r w5 ⟨a2, n2, c2, rfl, HR3⟩
  clear HR2
  go_wp2_with fail
  refine HR3.out.mono ?_
  rintro r w6 ⟨a3, n3, c3, rfl, HR4⟩
  clear HR3
  go_wp2_with fail
  refine HR4.out.mono ?_
  rintro r w7 ⟨a4, c4, rfl, HV⟩
  clear HR4
  by_cases hx0 : x = 0
  · subst hx0
    obtain ⟨hvf, hfind⟩ := HV.out.ok rfl
    have HVF := Lib.hid hvf
    unfold En.dv at hfind
    simp only [] at hfind
    rw [← HDL.out] at hfind
    have HFI := Lib.hid hfind
    obtain ⟨k0, k1, k2, k3⟩ := HV.out.key w7 (Below.refl _ _)
    simp only [] at k0 k1 k2 k3
    rw [← HDL.out] at k3
    clear hvf hfind
    go_wp2_with fail
    refine HFI.out.mono ?_
    rintro r w8 ⟨ai, ci, its, rfl, hsum, hb8⟩
    have HB8 : Hid (Below w7.heap.size w7 w8) := Lib.hid hb8
    have hs1 : IntKind.i64.wrap ((n1 : Int) + (n2 : Int)) = (n3 : Int) + (its : Int) := by
      have := HV.out.small
      rw [IntWalk.i64_in _ (by omega)]
      omega
    have hs2 : IntKind.i64.wrap ((n3 : Int) + (its : Int)) = (n3 : Int) + (its : Int) := by
      have := HV.out.small
      exact IntWalk.i64_in _ (by omega)
    have hs3 : (n1 : Int) + (n2 : Int) = (n3 : Int) + (its : Int) := by omega
    have hn3 : n3 ≤ 2199023255540 := HV.out.small.2.2
    have HNN : Hid (n1 ≤ n3) := Lib.hid HVF.out.few
    clear hb8 k0 k1 k2 k3 hsum HFI
    go_wp2
    clear hs1 hs2 hs3
    go_loopw [18] (fun i wr => ∃ j : Nat, j ≤ n3 ∧ i = .int .i64 j ∧ Hid (Below w7.heap.size w7 wr)) (fun i _ => n3 - (intOf i).toNat)
    case atStart => exact ⟨0, Nat.zero_le _, rfl, HB8⟩
    case round =>
      obtain ⟨j, hj, rfl, HB⟩ := hrel
      by_cases hjn : j < n3
      · have f3 : (j : Int) < (n3 : Int) := by omega
        obtain ⟨b3, o3, b4, o4, x3, x4, rfl, rfl, hb3w, hb4w, hall⟩ := HVF.out.two j hjn
        obtain ⟨q, hq⟩ : ∃ q, q = n3 - 1 - j := ⟨_, rfl⟩
        rw [← hq] at hall
        unfold En.v at hall
        have HC := Lib.hid hall
        have w1' : IntKind.i64.wrap ((n3 : Int) - 1) = (n3 : Int) - 1 := IntWalk.i64_in _ (by omega)
        have w2' : IntKind.i64.wrap ((n3 : Int) - 1 - (j : Int)) = (q : Int) := by rw [IntWalk.i64_in _ (by omega)]; omega
        have w3' : (n3 : Int) - 1 - (j : Int) = (q : Int) := by omega
        have w4' : IntKind.i64.wrap (q : Int) = (q : Int) := IntWalk.i64_in _ (by omega)
        have f4 : (q : Int) < (n3 : Int) := by omega
        have HS0 : Hid (Below w7.heap.size w7 wr.drew) := Lib.hid (HB.out.trans ((Below.refl _ _).drew.mono HB.out.size))
        clear hall hq
        by_cases hj1 : j < n1
        · have f5 : (j : Int) < (n1 : Int) := by omega
          obtain ⟨b1, o1, b3', o3', y1, y3, rfl, he3, hb1w, _, hall2⟩ := HVF.out.low j hj1
          cases he3
          unfold En.v at hall2
          have HD := Lib.hid hall2
          clear hall2
          go_wp2_with fail
          refine wp_region_held_drew (S := fun W => Below w7.heap.size w7 W) (by kernel_rfl) HS0.out (fun hHeld => ?_)
          refine wpAnyH_take (i := 0) (v := .slice (some ⟨b3, o3, none⟩) n3 c3) rfl (by kernel_rfl) (by kernel_rfl) (by kernel_rfl) (fun _ _ _ h => h) (Or.inl ⟨by unfold Region.wanted yielded; go_simp, fun W hW => by clear hW; go_simp⟩) HS0.out ?_
          refine wpAnyH_take (i := 1) (v := .int .i64 (j : Int)) rfl (by kernel_rfl) (by kernel_rfl) (by kernel_rfl) (fun _ _ _ h => h) (Or.inl ⟨by unfold Region.wanted yielded; go_simp, fun W hW => by clear hW; go_simp⟩) HS0.out ?_
          refine wpAnyH_take (i := 2) (v := .pointer (some ⟨b3, o3 + j * 5, none⟩)) rfl (by kernel_rfl) (by kernel_rfl) (by kernel_rfl) (fun _ _ _ h => h) (Or.inl ⟨by unfold Region.wanted yielded; go_simp, fun W hW => by clear hW; go_simp⟩) HS0.out ?_
          refine wpAnyH_take (i := 3) (v := .agg #[.int .i64 x3.k, .int .i64 x3.n, .string x3.s, .slice x3.a x3.xs.length x3.lc, .int .i64 x3.t]) rfl (by kernel_rfl) (by kernel_rfl) (by kernel_rfl) (fun _ _ _ h => h) (Or.inl ⟨by unfold Region.wanted yielded; go_simp, fun W hW => by obtain ⟨p0, p1, p2, p3, p4⟩ := (HC.out W hW).1; go_simp⟩) HS0.out ?_
          refine wpAnyH_take (i := 4) (v := .slice (some ⟨b4, o4, none⟩) n3 c4) rfl (by kernel_rfl) (by kernel_rfl) (by kernel_rfl) (fun _ _ _ h => h) (Or.inl ⟨by unfold Region.wanted yielded; go_simp, fun W hW => by clear hW; go_simp⟩) HS0.out ?_
          refine wpAnyH_take (i := 5) (v := .slice (some ⟨b3, o3, none⟩) n3 c3) rfl (by kernel_rfl) (by kernel_rfl) (by kernel_rfl) (fun _ _ _ h => h) (Or.inl ⟨by unfold Region.wanted yielded; go_simp, fun W hW => by clear hW; go_simp⟩) HS0.out ?_
          refine wpAnyH_take (i := 6) (v := .int .i64 (n3 : Int)) rfl (by kernel_rfl) (by kernel_rfl) (by kernel_rfl) (fun _ _ _ h => h) (Or.inl ⟨by unfold Region.wanted yielded; go_simp, fun W hW => by clear hW; go_simp⟩) HS0.out ?_
          refine wpAnyH_take (i := 7) (v := .int .i64 ((n3 : Int) - 1)) rfl (by kernel_rfl) (by kernel_rfl) (by kernel_rfl) (fun _ _ _ h => h) (Or.inl ⟨by unfold Region.wanted yielded; go_simp, fun W hW => by clear hW; go_simp⟩) HS0.out ?_
          refine wpAnyH_take (i := 8) (v := .int .i64 (j : Int)) rfl (by kernel_rfl) (by kernel_rfl) (by kernel_rfl) (fun _ _ _ h => h) (Or.inl ⟨by unfold Region.wanted yielded; go_simp, fun W hW => by clear hW; go_simp⟩) HS0.out ?_
          refine wpAnyH_take (i := 9) (v := .int .i64 (q : Int)) rfl (by kernel_rfl) (by kernel_rfl) (by kernel_rfl) (fun _ _ _ h => h) (Or.inl ⟨by unfold Region.wanted yielded; go_simp, fun W hW => by clear hW; go_simp⟩) HS0.out ?_
          refine wpAnyH_take (i := 10) (v := .pointer (some ⟨b4, o4 + q * 5, none⟩)) rfl (by kernel_rfl) (by kernel_rfl) (by kernel_rfl) (fun _ _ _ h => h) (Or.inl ⟨by unfold Region.wanted yielded; go_simp, fun W hW => by clear hW; go_simp⟩) HS0.out ?_
          refine wpAnyH_take (i := 11) (v := .agg #[.int .i64 x4.k, .int .i64 x4.n, .string x4.s, .slice x4.a x4.xs.length x4.lc, .int .i64 x4.t]) rfl (by kernel_rfl) (by kernel_rfl) (by kernel_rfl) (fun _ _ _ h => h) (Or.inl ⟨by unfold Region.wanted yielded; go_simp, fun W hW => by obtain ⟨p0, p1, p2, p3, p4⟩ := (HC.out W hW).2.1; go_simp⟩) HS0.out ?_
          refine wpAnyH_ready (rs := [12]) (by kernel_rfl) (by simp) ?_
          refine AllReadyH.cons rfl (fun K hK => ?_) AllReadyH.nil
          go_simp
          go_at_call 21
          refine (HC.out _ HS0.out).2.2.mono ?_
          rintro r w5 ⟨rfl, hb5⟩
          have HS5 : Hid (Below w7.heap.size w7 w5) := Lib.hid (HS0.out.trans (hb5.mono HS0.out.size))
          refine hK.out _ _ HS5.out (fun _ => ?_)
          clear hK K hb5
          refine wpAnyH_take (i := 13) (v := .bool false) rfl (by kernel_rfl) (by kernel_rfl) (by kernel_rfl) (fun _ _ _ h => h) (Or.inl ⟨by unfold Region.wanted yielded; go_simp, fun W hW => by clear hW; go_simp⟩) HS5.out ?_
          refine wpAnyH_take (i := 14) (v := .bool false) rfl (by kernel_rfl) (by kernel_rfl) (by kernel_rfl) (fun _ _ _ h => h) (Or.inl ⟨by unfold Region.wanted yielded; go_simp, fun W hW => by clear hW; go_simp⟩) HS5.out ?_
          refine wpAnyH_take (i := 15) (v := .int .i64 (j : Int)) rfl (by kernel_rfl) (by kernel_rfl) (by kernel_rfl) (fun _ _ _ h => h) (Or.inl ⟨by unfold Region.wanted yielded; go_simp, fun W hW => by clear hW; go_simp⟩) HS5.out ?_
          refine wpAnyH_take (i := 16) (v := .slice (some ⟨b1, o1, none⟩) n1 c1) rfl (by kernel_rfl) (by kernel_rfl) (by kernel_rfl) (fun _ _ _ h => h) (Or.inl ⟨by unfold Region.wanted yielded; go_simp, fun W hW => by clear hW; go_simp⟩) HS5.out ?_
          refine wpAnyH_take (i := 17) (v := .int .i64 (n1 : Int)) rfl (by kernel_rfl) (by kernel_rfl) (by kernel_rfl) (fun _ _ _ h => h) (Or.inl ⟨by unfold Region.wanted yielded; go_simp, fun W hW => by clear hW; go_simp⟩) HS5.out ?_
          refine wpAnyH_take (i := 18) (v := .bool true) rfl (by kernel_rfl) (by kernel_rfl) (by kernel_rfl) (fun _ _ _ h => h) (Or.inl ⟨by unfold Region.wanted yielded; go_simp, fun W hW => by clear hW; go_simp⟩) HS5.out ?_
          refine wpAnyH_take (i := 19) (v := .bool true) rfl (by kernel_rfl) (by kernel_rfl) (by kernel_rfl) (fun _ _ _ h => h) (Or.inl ⟨by unfold Region.wanted yielded; go_simp, fun W hW => by clear hW; go_simp⟩) HS5.out ?_
          refine wpAnyH_take (i := 20) (v := .slice (some ⟨b1, o1, none⟩) n1 c1) rfl (by kernel_rfl) (by kernel_rfl) (by kernel_rfl) (fun _ _ _ h => h) (Or.inl ⟨by unfold Region.wanted yielded; go_simp, fun W hW => by clear hW; go_simp⟩) HS5.out ?_
          refine wpAnyH_take (i := 21) (v := .int .i64 (j : Int)) rfl (by kernel_rfl) (by kernel_rfl) (by kernel_rfl) (fun _ _ _ h => h) (Or.inl ⟨by unfold Region.wanted yielded; go_simp, fun W hW => by clear hW; go_simp⟩) HS5.out ?_
          refine wpAnyH_take (i := 22) (v := .pointer (some ⟨b1, o1 + j * 5, none⟩)) rfl (by kernel_rfl) (by kernel_rfl) (by kernel_rfl) (fun _ _ _ h => h) (Or.inl ⟨by unfold Region.wanted yielded; go_simp, fun W hW => by clear hW; go_simp⟩) HS5.out ?_
          refine wpAnyH_take (i := 23) (v := .agg #[.int .i64 y1.k, .int .i64 y1.n, .string y1.s, .slice y1.a y1.xs.length y1.lc, .int .i64 y1.t]) rfl (by kernel_rfl) (by kernel_rfl) (by kernel_rfl) (fun _ _ _ h => h) (Or.inl ⟨by unfold Region.wanted yielded; go_simp, fun W hW => by obtain ⟨p0, p1, p2, p3, p4⟩ := (HD.out W hW).1; go_simp⟩) HS5.out ?_
          refine wpAnyH_take (i := 24) (v := .slice (some ⟨b3, o3, none⟩) n3 c3) rfl (by kernel_rfl) (by kernel_rfl) (by kernel_rfl) (fun _ _ _ h => h) (Or.inl ⟨by unfold Region.wanted yielded; go_simp, fun W hW => by clear hW; go_simp⟩) HS5.out ?_
          refine wpAnyH_take (i := 25) (v := .int .i64 (j : Int)) rfl (by kernel_rfl) (by kernel_rfl) (by kernel_rfl) (fun _ _ _ h => h) (Or.inl ⟨by unfold Region.wanted yielded; go_simp, fun W hW => by clear hW; go_simp⟩) HS5.out ?_
          refine wpAnyH_take (i := 26) (v := .pointer (some ⟨b3, o3 + j * 5, none⟩)) rfl (by kernel_rfl) (by kernel_rfl) (by kernel_rfl) (fun _ _ _ h => h) (Or.inl ⟨by unfold Region.wanted yielded; go_simp, fun W hW => by clear hW; go_simp⟩) HS5.out ?_
          refine wpAnyH_take (i := 27) (v := .agg #[.int .i64 y3.k, .int .i64 y3.n, .string y3.s, .slice y3.a y3.xs.length y3.lc, .int .i64 y3.t]) rfl (by kernel_rfl) (by kernel_rfl) (by kernel_rfl) (fun _ _ _ h => h) (Or.inl ⟨by unfold Region.wanted yielded; go_simp, fun W hW => by obtain ⟨p0, p1, p2, p3, p4⟩ := (HD.out W hW).2.1; go_simp⟩) HS5.out ?_
          refine wpAnyH_ready (rs := [28]) (by kernel_rfl) (by simp) ?_
          refine AllReadyH.cons rfl (fun K hK => ?_) AllReadyH.nil
          go_simp
          go_at_call 21
          refine (HD.out _ HS5.out).2.2.mono ?_
          rintro r w6 ⟨rfl, hb6⟩
          have HS6 : Hid (Below w7.heap.size w7 w6) := Lib.hid (HS5.out.trans (hb6.mono HS5.out.size))
          refine hK.out _ _ HS6.out (fun _ => ?_)
          clear hK K hb6
          refine wpAnyH_take (i := 29) (v := .bool false) rfl (by kernel_rfl) (by kernel_rfl) (by kernel_rfl) (fun _ _ _ h => h) (Or.inl ⟨by unfold Region.wanted yielded; go_simp, fun W hW => by clear hW; go_simp⟩) HS6.out ?_
          refine wpAnyH_take (i := 30) (v := .bool false) rfl (by kernel_rfl) (by kernel_rfl) (by kernel_rfl) (fun _ _ _ h => h) (Or.inl ⟨by unfold Region.wanted yielded; go_simp, fun W hW => by clear hW; go_simp⟩) HS6.out ?_
          refine wpAnyH_take (i := 31) (v := .bool false) rfl (by kernel_rfl) (by kernel_rfl) (by kernel_rfl) (fun _ _ _ h => h) (Or.inl ⟨by unfold Region.wanted yielded; go_simp, fun W hW => by clear hW; go_simp⟩) HS6.out ?_
          refine wpAnyH_done (by kernel_rfl) ?_ _
          clear hHeld
          go_simp
          go_wp2_with fail
          exact ⟨⟨j + 1, by omega, by go_num, HS6⟩, by simp [intOf]; omega⟩
        · have f5 : ¬ (j : Int) < (n1 : Int) := by omega
          go_wp2_with fail
          refine wp_region_held_drew (S := fun W => Below w7.heap.size w7 W) (by kernel_rfl) HS0.out (fun hHeld => ?_)
          refine wpAnyH_take (i := 0) (v := .slice (some ⟨b3, o3, none⟩) n3 c3) rfl (by kernel_rfl) (by kernel_rfl) (by kernel_rfl) (fun _ _ _ h => h) (Or.inl ⟨by unfold Region.wanted yielded; go_simp, fun W hW => by clear hW; go_simp⟩) HS0.out ?_
          refine wpAnyH_take (i := 1) (v := .int .i64 (j : Int)) rfl (by kernel_rfl) (by kernel_rfl) (by kernel_rfl) (fun _ _ _ h => h) (Or.inl ⟨by unfold Region.wanted yielded; go_simp, fun W hW => by clear hW; go_simp⟩) HS0.out ?_
          refine wpAnyH_take (i := 2) (v := .pointer (some ⟨b3, o3 + j * 5, none⟩)) rfl (by kernel_rfl) (by kernel_rfl) (by kernel_rfl) (fun _ _ _ h => h) (Or.inl ⟨by unfold Region.wanted yielded; go_simp, fun W hW => by clear hW; go_simp⟩) HS0.out ?_
          refine wpAnyH_take (i := 3) (v := .agg #[.int .i64 x3.k, .int .i64 x3.n, .string x3.s, .slice x3.a x3.xs.length x3.lc, .int .i64 x3.t]) rfl (by kernel_rfl) (by kernel_rfl) (by kernel_rfl) (fun _ _ _ h => h) (Or.inl ⟨by unfold Region.wanted yielded; go_simp, fun W hW => by obtain ⟨p0, p1, p2, p3, p4⟩ := (HC.out W hW).1; go_simp⟩) HS0.out ?_
          refine wpAnyH_take (i := 4) (v := .slice (some ⟨b4, o4, none⟩) n3 c4) rfl (by kernel_rfl) (by kernel_rfl) (by kernel_rfl) (fun _ _ _ h => h) (Or.inl ⟨by unfold Region.wanted yielded; go_simp, fun W hW => by clear hW; go_simp⟩) HS0.out ?_
          refine wpAnyH_take (i := 5) (v := .slice (some ⟨b3, o3, none⟩) n3 c3) rfl (by kernel_rfl) (by kernel_rfl) (by kernel_rfl) (fun _ _ _ h => h) (Or.inl ⟨by unfold Region.wanted yielded; go_simp, fun W hW => by clear hW; go_simp⟩) HS0.out ?_
          refine wpAnyH_take (i := 6) (v := .int .i64 (n3 : Int)) rfl (by kernel_rfl) (by kernel_rfl) (by kernel_rfl) (fun _ _ _ h => h) (Or.inl ⟨by unfold Region.wanted yielded; go_simp, fun W hW => by clear hW; go_simp⟩) HS0.out ?_
          refine wpAnyH_take (i := 7) (v := .int .i64 ((n3 : Int) - 1)) rfl (by kernel_rfl) (by kernel_rfl) (by kernel_rfl) (fun _ _ _ h => h) (Or.inl ⟨by unfold Region.wanted yielded; go_simp, fun W hW => by clear hW; go_simp⟩) HS0.out ?_
          refine wpAnyH_take (i := 8) (v := .int .i64 (j : Int)) rfl (by kernel_rfl) (by kernel_rfl) (by kernel_rfl) (fun _ _ _ h => h) (Or.inl ⟨by unfold Region.wanted yielded; go_simp, fun W hW => by clear hW; go_simp⟩) HS0.out ?_
          refine wpAnyH_take (i := 9) (v := .int .i64 (q : Int)) rfl (by kernel_rfl) (by kernel_rfl) (by kernel_rfl) (fun _ _ _ h => h) (Or.inl ⟨by unfold Region.wanted yielded; go_simp, fun W hW => by clear hW; go_simp⟩) HS0.out ?_
          refine wpAnyH_take (i := 10) (v := .pointer (some ⟨b4, o4 + q * 5, none⟩)) rfl (by kernel_rfl) (by kernel_rfl) (by kernel_rfl) (fun _ _ _ h => h) (Or.inl ⟨by unfold Region.wanted yielded; go_simp, fun W hW => by clear hW; go_simp⟩) HS0.out ?_
          refine wpAnyH_take (i := 11) (v := .agg #[.int .i64 x4.k, .int .i64 x4.n, .string x4.s, .slice x4.a x4.xs.length x4.lc, .int .i64 x4.t]) rfl (by kernel_rfl) (by kernel_rfl) (by kernel_rfl) (fun _ _ _ h => h) (Or.inl ⟨by unfold Region.wanted yielded; go_simp, fun W hW => by obtain ⟨p0, p1, p2, p3, p4⟩ := (HC.out W hW).2.1; go_simp⟩) HS0.out ?_
          refine wpAnyH_ready (rs := [12]) (by kernel_rfl) (by simp) ?_
          refine AllReadyH.cons rfl (fun K hK => ?_) AllReadyH.nil
          go_simp
          go_at_call 21
          refine (HC.out _ HS0.out).2.2.mono ?_
          rintro r w5 ⟨rfl, hb5⟩
          have HS5 : Hid (Below w7.heap.size w7 w5) := Lib.hid (HS0.out.trans (hb5.mono HS0.out.size))
          refine hK.out _ _ HS5.out (fun _ => ?_)
          clear hK K hb5
          refine wpAnyH_take (i := 13) (v := .bool false) rfl (by kernel_rfl) (by kernel_rfl) (by kernel_rfl) (fun _ _ _ h => h) (Or.inl ⟨by unfold Region.wanted yielded; go_simp, fun W hW => by clear hW; go_simp⟩) HS5.out ?_
          refine wpAnyH_take (i := 14) (v := .bool false) rfl (by kernel_rfl) (by kernel_rfl) (by kernel_rfl) (fun _ _ _ h => h) (Or.inl ⟨by unfold Region.wanted yielded; go_simp, fun W hW => by clear hW; go_simp⟩) HS5.out ?_
          refine wpAnyH_take (i := 15) (v := .int .i64 (j : Int)) rfl (by kernel_rfl) (by kernel_rfl) (by kernel_rfl) (fun _ _ _ h => h) (Or.inl ⟨by unfold Region.wanted yielded; go_simp, fun W hW => by clear hW; go_simp⟩) HS5.out ?_
          refine wpAnyH_take (i := 16) (v := .slice a1 n1 c1) rfl (by kernel_rfl) (by kernel_rfl) (by kernel_rfl) (fun _ _ _ h => h) (Or.inl ⟨by unfold Region.wanted yielded; go_simp, fun W hW => by clear hW; go_simp⟩) HS5.out ?_
          refine wpAnyH_take (i := 17) (v := .int .i64 (n1 : Int)) rfl (by kernel_rfl) (by kernel_rfl) (by kernel_rfl) (fun _ _ _ h => h) (Or.inl ⟨by unfold Region.wanted yielded; go_simp, fun W hW => by clear hW; go_simp⟩) HS5.out ?_
          refine wpAnyH_take (i := 18) (v := .bool false) rfl (by kernel_rfl) (by kernel_rfl) (by kernel_rfl) (fun _ _ _ h => h) (Or.inl ⟨by unfold Region.wanted yielded; go_simp, fun W hW => by clear hW; go_simp⟩) HS5.out ?_
          refine wpAnyH_take (i := 19) (v := .bool false) rfl (by kernel_rfl) (by kernel_rfl) (by kernel_rfl) (fun _ _ _ h => h) (Or.inl ⟨by unfold Region.wanted yielded; go_simp, fun W hW => by clear hW; go_simp⟩) HS5.out ?_
          refine wpAnyH_take (i := 20) (v := undef) rfl (by kernel_rfl) (by kernel_rfl) (by kernel_rfl) (fun _ _ _ h => h) (Or.inr ⟨by unfold Region.wanted yielded; go_simp, rfl⟩) HS5.out ?_
          refine wpAnyH_take (i := 21) (v := undef) rfl (by kernel_rfl) (by kernel_rfl) (by kernel_rfl) (fun _ _ _ h => h) (Or.inr ⟨by unfold Region.wanted yielded; go_simp, rfl⟩) HS5.out ?_
          refine wpAnyH_take (i := 22) (v := undef) rfl (by kernel_rfl) (by kernel_rfl) (by kernel_rfl) (fun _ _ _ h => h) (Or.inr ⟨by unfold Region.wanted yielded; go_simp, rfl⟩) HS5.out ?_
          refine wpAnyH_take (i := 23) (v := undef) rfl (by kernel_rfl) (by kernel_rfl) (by kernel_rfl) (fun _ _ _ h => h) (Or.inr ⟨by unfold Region.wanted yielded; go_simp, rfl⟩) HS5.out ?_
          refine wpAnyH_take (i := 24) (v := undef) rfl (by kernel_rfl) (by kernel_rfl) (by kernel_rfl) (fun _ _ _ h => h) (Or.inr ⟨by unfold Region.wanted yielded; go_simp, rfl⟩) HS5.out ?_
          refine wpAnyH_take (i := 25) (v := undef) rfl (by kernel_rfl) (by kernel_rfl) (by kernel_rfl) (fun _ _ _ h => h) (Or.inr ⟨by unfold Region.wanted yielded; go_simp, rfl⟩) HS5.out ?_
          refine wpAnyH_take (i := 26) (v := undef) rfl (by kernel_rfl) (by kernel_rfl) (by kernel_rfl) (fun _ _ _ h => h) (Or.inr ⟨by unfold Region.wanted yielded; go_simp, rfl⟩) HS5.out ?_
          refine wpAnyH_take (i := 27) (v := undef) rfl (by kernel_rfl) (by kernel_rfl) (by kernel_rfl) (fun _ _ _ h => h) (Or.inr ⟨by unfold Region.wanted yielded; go_simp, rfl⟩) HS5.out ?_
          refine wpAnyH_take (i := 28) (v := undef) rfl (by kernel_rfl) (by kernel_rfl) (by kernel_rfl) (fun _ _ _ h => h) (Or.inr ⟨by unfold Region.wanted yielded; go_simp, rfl⟩) HS5.out ?_
          refine wpAnyH_take (i := 29) (v := undef) rfl (by kernel_rfl) (by kernel_rfl) (by kernel_rfl) (fun _ _ _ h => h) (Or.inr ⟨by unfold Region.wanted yielded; go_simp, rfl⟩) HS5.out ?_
          refine wpAnyH_take (i := 30) (v := .bool false) rfl (by kernel_rfl) (by kernel_rfl) (by kernel_rfl) (fun _ _ _ h => h) (Or.inl ⟨by unfold Region.wanted yielded; go_simp, fun W hW => by clear hW; go_simp⟩) HS5.out ?_
          refine wpAnyH_take (i := 31) (v := .bool false) rfl (by kernel_rfl) (by kernel_rfl) (by kernel_rfl) (fun _ _ _ h => h) (Or.inl ⟨by unfold Region.wanted yielded; go_simp, fun W hW => by clear hW; go_simp⟩) HS5.out ?_
          refine wpAnyH_done (by kernel_rfl) ?_ _
          clear hHeld
          go_simp
          go_wp2_with fail
          exact ⟨⟨j + 1, by omega, by go_num, HS5⟩, by simp [intOf]; omega⟩
      · have f3 : ¬ (j : Int) < (n3 : Int) := by omega
        have HA6 := Lib.hid (HAW.out wr)
        go_wp2_with fail
        refine HA6.out.mono ?_
        rintro e w9 ⟨rfl, hb9⟩
        have HBE : Hid (Below w.heap.size w w9) := Lib.hid (by
          have h7 := HV.out.below
          have hr := h7.trans (HB.out.mono h7.size)
          exact hr.trans (hb9.mono hr.size))
        clear hb9
        go_wp2
        go_ret
        exact ⟨rfl, HBE.out⟩
  · have HBD := Lib.hid (HV.out.bad hx0)
    have hxb : (x == 0) = false := by rw [beq_eq_false_iff_ne]; exact hx0
    have hxb2 : (x != 0) = true := by rw [bne_iff_ne]; exact hx0
    go_wp2_with fail
    refine HBD.out.mono ?_
    rintro r w8 ⟨rfl, hb8⟩
    have HB8 : Hid (Below w.heap.size w w8) := Lib.hid (HV.out.below.trans (hb8.mono HV.out.below.size))
    have HA6 := Lib.hid (HAW.out w8)
    clear hb8
    go_wp2_with fail
    refine HA6.out.mono ?_
    rintro e w9 ⟨rfl, hb9⟩
    have HBE : Hid (Below w.heap.size w w9) := Lib.hid (HB8.out.trans (hb9.mono HB8.out.size))
    clear hb9
    go_wp2
    go_ret
    exact ⟨rfl, HBE.out⟩
end Go.Proofs.Ytnnmigglcpkomaa.Dm

/- A datum, and two data, that came in. -/
set_option maxRecDepth 100000
namespace Go.Proofs.Ytnnmigglcpkomaa.Dm
open Go Go.ChangeShapes Go.WideShapes Go.ChangeAt Go.RowKit Go.Deep Go.Joins

section
variable {H : Type} {enc : TypeId × Value → H} {W : World} {base : Nat} {sp : Nat → Bool} {held : Bool}

/-- The four cells of a datum. -/
theorem read_dt {n : Nat} {u0 u1 u2 u3 : Value} {y : DataW H × List MemPlace} (h : DataW.trod enc Try.prog W base sp held n 33 [u0, u1, u2, u3] = some y) : ∃ e : En, e.In W ∧ e.t = 0 ∧ u0 = .int .i64 e.k ∧ u1 = .int .i64 e.n ∧ u2 = .string e.s ∧ u3 = .slice e.a e.xs.length e.lc := by
  obtain ⟨zs, n2, _, _, _, hzl, hg⟩ := DataW.trod_struct Try.underlying33 h
  match zs, hzl with
  | [z0, z1, z2, z3], _ =>
    have g0 : DataW.trod enc Try.prog W base sp held n2 3 (([u0, u1, u2, u3].drop 0).take (Try.prog.cellsOf 3)) = some z0 := hg 0 _ rfl
    have g1 : DataW.trod enc Try.prog W base sp held n2 3 (([u0, u1, u2, u3].drop 1).take (Try.prog.cellsOf 3)) = some z1 := hg 1 _ rfl
    have g2 : DataW.trod enc Try.prog W base sp held n2 9 (([u0, u1, u2, u3].drop 2).take (Try.prog.cellsOf 9)) = some z2 := hg 2 _ rfl
    have g3 : DataW.trod enc Try.prog W base sp held n2 31 (([u0, u1, u2, u3].drop 3).take (Try.prog.cellsOf 31)) = some z3 := hg 3 _ rfl
    rw [cells3] at g0 g1
    rw [cells9] at g2
    rw [cellsDs] at g3
    obtain ⟨k, rfl, _⟩ := read_int (v := u0) (y := z0) g0
    obtain ⟨m, rfl, hm⟩ := read_int (v := u1) (y := z1) g1
    obtain ⟨s, rfl⟩ := read_text (v := u2) (y := z2) g2
    obtain ⟨b, xs, c, e, hS, hA⟩ := open_items g3
    obtain rfl : u3 = .slice b xs.length c := by simpa using e
    exact ⟨⟨k, m, s, b, xs, c, 0⟩, ⟨hS, hm, hA, (show I64 0 from ⟨by decide, by decide⟩)⟩, rfl, rfl, rfl, rfl, rfl⟩

theorem open_datum {r : Reach} {b0 : Nat} {v : Value} {d : DataW H} {p : List MemPlace} (hv : Value.okWide Try.prog W r b0 33 v) (hd : DataW.Trod enc Try.prog W base sp held 33 v d p) :
    ∃ e : En, v = e.dv ∧ e.In W := by
  obtain ⟨cs, rfl, hs⟩ := okWide_struct Try.underlying33 hv
  rw [cellsDt] at hs
  obtain ⟨fuel, h⟩ := hd
  obtain ⟨l⟩ := cs
  have hl : l.length = 4 := hs
  match l, hl with
  | [u0, u1, u2, u3], _ =>
    obtain ⟨e, hE, _, rfl, rfl, rfl, rfl⟩ := read_dt (u0 := u0) (u1 := u1) (u2 := u2) (u3 := u3) h
    exact ⟨e, rfl, hE⟩

theorem readRecDatum : Try.prog.readableRec 33 = true := by kernel_rfl
theorem cellsDt2 : Try.prog.cellsOf 39 = 8 := by kernel_rfl
theorem readRecPair : Try.prog.readableRec 39 = true := by kernel_rfl
theorem okWide_array2 {P : Program} {w : World} {r : Reach} {base : Nat} {t e : TypeId} {n : Nat} {v : Value} (ht : P.underlying t = some (.array n e)) (h : Value.okWide P w r base t v) : ∃ cs, v = .agg cs ∧ cs.size = P.cellsOf t := by
  simp only [Value.okWide, ht] at h
  obtain ⟨cs, h1, h2, _⟩ := h
  exact ⟨cs, h1, h2⟩
theorem open_pair {r : Reach} {b0 : Nat} {v : Value} {d : DataW H} {p : List MemPlace} (hv : Value.okWide Try.prog W r b0 39 v) (hd : DataW.Trod enc Try.prog W base sp held 39 v d p) :
    ∃ e f : En, v = .agg #[.int .i64 e.k, .int .i64 e.n, .string e.s, .slice e.a e.xs.length e.lc, .int .i64 f.k, .int .i64 f.n, .string f.s, .slice f.a f.xs.length f.lc] ∧ e.In W ∧ f.In W := by
  obtain ⟨cs, rfl, hs⟩ := okWide_array2 Try.underlying39 hv
  rw [cellsDt2] at hs
  obtain ⟨fuel, h⟩ := hd
  obtain ⟨l⟩ := cs
  have hl : l.length = 8 := hs
  match l, hl with
  | [u0, u1, u2, u3, u4, u5, u6, u7], _ =>
    obtain ⟨zs, n2, _, _, _, hzl, hg⟩ := DataW.trod_array Try.underlying39 h
    match zs, hzl with
    | [z0, z1], _ =>
      have g0 : DataW.trod enc Try.prog W base sp held n2 33 (([u0, u1, u2, u3, u4, u5, u6, u7].drop (0 * Try.prog.cellsOf 33)).take (Try.prog.cellsOf 33)) = some z0 := hg 0 (by omega)
      have g1 : DataW.trod enc Try.prog W base sp held n2 33 (([u0, u1, u2, u3, u4, u5, u6, u7].drop (1 * Try.prog.cellsOf 33)).take (Try.prog.cellsOf 33)) = some z1 := hg 1 (by omega)
      rw [cellsDt] at g0 g1
      obtain ⟨e, hE, _, rfl, rfl, rfl, rfl⟩ := read_dt (u0 := u0) (u1 := u1) (u2 := u2) (u3 := u3) g0
      obtain ⟨f, hF, _, rfl, rfl, rfl, rfl⟩ := read_dt (u0 := u4) (u1 := u5) (u2 := u6) (u3 := u7) g1
      exact ⟨e, f, rfl, hE, hF⟩
end
end Go.Proofs.Ytnnmigglcpkomaa.Dm
