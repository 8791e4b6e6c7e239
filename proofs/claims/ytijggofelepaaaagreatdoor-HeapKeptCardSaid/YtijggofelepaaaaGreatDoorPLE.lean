/- Texts of the same proof, one behind the other: CA, CB, JA. -/
import Derived.Test.YtijggofelepaaaaGreatDoorMAS
import Derived.Laws.StructEq
import Derived.Test.YtijggofelepaaaaGreatDoorMAT
/- What the patches of an action's drafts make of the pages, and how long their record is. -/
set_option maxRecDepth 100000
namespace Go.Proofs.YtijggofelepaaaaGreatDoor
open Go.RowKit

/-- Every place that has turned lies in a stretch; the stretches, with six bytes for each, are no longer than the page and six. -/
structure ChOk (was now : List UInt8) (q : Nat) (l : List (Nat × Nat)) : Prop where
  cov : ∀ i, i < q → now.getD i 0 ≠ was.getD i 0 → ∃ x ∈ l, x.1 ≤ i ∧ i < x.2
  sum : (l.map fun x => x.2 - x.1 + 6).sum ≤ match l.getLast? with | some x => x.2 + 6 | none => 0
theorem last_split {α : Type} {l : List α} {x : α} (h : l.getLast? = some x) : l = l.dropLast ++ [x] := by
  obtain ⟨ys, rfl⟩ := List.getLast?_eq_some_iff.1 h
  simp
theorem sum_snoc (l : List (Nat × Nat)) (y : Nat × Nat) : ((l ++ [y]).map fun x => x.2 - x.1 + 6).sum = (l.map fun x => x.2 - x.1 + 6).sum + (y.2 - y.1 + 6) := by
  rw [List.map_append, List.sum_append]; simp
theorem ChOk.step {was now : List UInt8} {l : List (Nat × Nat)} {q : Nat} (h : ChOk was now q l) (k : SgOk q l) : ChOk was now (q + 1) (chStep was now l q) := by
  obtain ⟨hc, hs⟩ := h
  unfold chStep
  split
  · rename_i he
    refine ⟨fun i hi hne => ?_, hs⟩
    by_cases hq : i = q
    · subst hq; exact absurd he hne
    · exact hc i (by omega) hne
  · split
    · rename_i x hx
      have hm := k.2 x (List.mem_of_getLast? hx)
      have hl := last_split hx
      rw [hx] at hs
      simp only at hs
      split
      · rename_i hle
        refine ⟨fun i hi hne => ?_, ?_⟩
        · by_cases hq : i = q
          · subst hq; exact ⟨(x.1, i + 1), by simp, by simp only; omega, by simp only; omega⟩
          · obtain ⟨y, hy, h1, h2⟩ := hc i (by omega) hne
            rw [hl] at hy
            rcases List.mem_append.1 hy with hy | hy
            · exact ⟨y, List.mem_append.2 (.inl hy), h1, h2⟩
            · rw [List.mem_singleton] at hy; subst hy
              exact ⟨(y.1, q + 1), by simp, h1, by simp only; omega⟩
        · rw [hl, sum_snoc] at hs
          rw [sum_snoc, List.getLast?_concat]
          simp only
          omega
      · rename_i hgt
        refine ⟨fun i hi hne => ?_, ?_⟩
        · by_cases hq : i = q
          · subst hq; exact ⟨(i, i + 1), by simp, Nat.le_refl _, by simp only; omega⟩
          · obtain ⟨y, hy, h1, h2⟩ := hc i (by omega) hne
            exact ⟨y, List.mem_append.2 (.inl hy), h1, h2⟩
        · rw [sum_snoc, List.getLast?_concat]
          simp only
          omega
    · rename_i hx
      refine ⟨fun i hi hne => ?_, ?_⟩
      · by_cases hq : i = q
        · subst hq; exact ⟨(i, i + 1), by simp, Nat.le_refl _, by simp only; omega⟩
        · obtain ⟨y, hy, h1, h2⟩ := hc i (by omega) hne
          exact ⟨y, List.mem_append.2 (.inl hy), h1, h2⟩
      · rw [hx] at hs
        simp only at hs
        rw [sum_snoc, List.getLast?_concat]
        simp only
        omega
theorem chUpto_cov (was now : List UInt8) (q : Nat) : ChOk was now q (chUpto was now q) := by
  induction q with
  | zero => exact ⟨fun i hi => by omega, by simp [chUpto]⟩
  | succ q ih => exact ih.step (chUpto_ok was now q)
theorem chUpto_sum (was now : List UInt8) (q : Nat) : ((chUpto was now q).map fun x => x.2 - x.1 + 6).sum ≤ q + 6 := by
  have h := (chUpto_cov was now q).sum
  cases hx : (chUpto was now q).getLast? with
  | none => rw [hx] at h; simp only at h; omega
  | some x =>
    rw [hx] at h
    simp only at h
    have := ((chUpto_ok was now q).2 x (List.mem_of_getLast? hx)).2
    omega

/-- Patches of one page. -/
def apB (c : List UInt8) (p : Pt) : List UInt8 := splice c p.at_ p.bytes
theorem upd_upd {α : Type} (F : Nat → α) (q : Nat) (x y : α) : upd (upd F q x) q y = upd F q y := by
  funext i
  by_cases h : i = q
  · subst h; rw [upd_same, upd_same]
  · rw [upd_other _ _ h, upd_other _ _ h, upd_other _ _ h]
theorem appC_one (q : Nat) : ∀ (ps : List Pt) (C : Nat → List UInt8), (∀ p ∈ ps, p.page = q) → appC C ps = upd C q (ps.foldl apB (C q))
  | [], C, _ => by
    funext i
    show C i = upd C q (C q) i
    by_cases h : i = q
    · subst h; rw [upd_same]
    · rw [upd_other _ _ h]
  | p :: r, C, h => by
    have hp := h p (by simp)
    show appC (appP C p) r = _
    rw [appC_one q r _ (fun x hx => h x (by simp [hx]))]
    unfold appP
    rw [hp, upd_same, upd_upd]
    rfl
theorem sgPt_bytes (q : Nat) (now : List UInt8) (x : Nat × Nat) (h : now.length = 512) (h1 : x.1 < x.2) (h2 : x.2 ≤ 512) : (sgPt q now x).bytes = (now.drop x.1).take (x.2 - x.1) ∧ ((now.drop x.1).take (x.2 - x.1)).length = x.2 - x.1 ∧ (sgPt q now x).s.size = x.2 - x.1 := by
  have hl : ((now.drop x.1).take (x.2 - x.1)).length = x.2 - x.1 := by simp [h]; omega
  have hz : (sgPt q now x).s.size = x.2 - x.1 := by rw [← hl]; simp [sgPt, ByteArray.size]
  refine ⟨?_, hl, hz⟩
  unfold Pt.bytes
  rw [if_neg (by omega)]
  rfl
/-- What stretches make of a page. -/
theorem fold_sg (q : Nat) (now : List UInt8) (h : now.length = 512) : ∀ (l : List (Nat × Nat)) (c : List UInt8), c.length = 512 → (∀ x ∈ l, x.1 < x.2 ∧ x.2 ≤ 512) →
    ((l.map (sgPt q now)).foldl apB c).length = 512 ∧ ∀ i, ((l.map (sgPt q now)).foldl apB c)[i]? = now[i]? ∨ ((l.map (sgPt q now)).foldl apB c)[i]? = c[i]? ∧ ∀ x ∈ l, ¬ (x.1 ≤ i ∧ i < x.2)
  | [], c, hc, _ => ⟨hc, fun i => .inr ⟨rfl, fun x hx => by cases hx⟩⟩
  | x :: r, c, hc, hl => by
    obtain ⟨h1, h2⟩ := hl x (by simp)
    obtain ⟨b1, b2, _⟩ := sgPt_bytes q now x h h1 h2
    have hat : (sgPt q now x).at_ = x.1 := rfl
    have hfit : x.1 + ((now.drop x.1).take (x.2 - x.1)).length ≤ c.length := by rw [b2, hc]; omega
    have hc1 : (apB c (sgPt q now x)).length = 512 := by
      unfold apB
      rw [hat, b1, length_splice _ _ _ hfit, hc]
    obtain ⟨r1, r2⟩ := fold_sg q now h r (apB c (sgPt q now x)) hc1 (fun y hy => hl y (by simp [hy]))
    refine ⟨r1, fun i => ?_⟩
    have hg : (apB c (sgPt q now x))[i]? = if x.1 ≤ i ∧ i < x.2 then now[i]? else c[i]? := by
      unfold apB
      rw [hat, b1, splice_get _ _ _ hfit, b2]
      by_cases hi : x.1 ≤ i ∧ i < x.2
      · rw [if_pos hi, if_pos (by omega), List.getElem?_take, if_pos (by omega), List.getElem?_drop, show x.1 + (i - x.1) = i by omega]
      · rw [if_neg hi, if_neg (by omega)]
    rcases r2 i with e | ⟨e, hno⟩
    · exact .inl e
    · rw [List.map_cons, List.foldl_cons, e, hg]
      by_cases hi : x.1 ≤ i ∧ i < x.2
      · rw [if_pos hi]; exact .inl rfl
      · rw [if_neg hi]
        refine .inr ⟨rfl, fun y hy => ?_⟩
        rcases List.mem_cons.1 hy with rfl | hy
        · exact hi
        · exact hno y hy
/-- The patches of a draft lead from the page as it was to the draft. -/
theorem drPts_app (C : Nat → List UInt8) (q : Nat) (x : Dr) (hC : (C q).length = 512) (hw : x.was = if x.fresh then noughts else C q) (h2 : x.now.length = 512) : appC C (drPts q x) = upd C q x.now := by
  have hp : ∀ p ∈ drPts q x, p.page = q := fun p hp => by
    unfold drPts at hp
    rcases List.mem_append.1 hp with hp | hp
    · unfold freshPt at hp
      split at hp
      · rw [List.mem_singleton] at hp; subst hp; rfl
      · cases hp
    · obtain ⟨y, _, rfl⟩ := List.mem_map.1 hp
      rfl
  rw [appC_one q _ C hp]
  congr 1
  have hbase : (freshPt q x.fresh).foldl apB (C q) = x.was := by
    rw [hw]
    cases x.fresh with
    | false => rfl
    | true =>
      show splice (C q) 0 noughts = noughts
      rw [splice_at0, List.drop_eq_nil_of_le (by rw [hC, noughts_length]; exact Nat.le_refl _), List.append_nil]
  have hwl : x.was.length = 512 := by
    rw [hw]
    cases x.fresh with
    | false => exact hC
    | true => exact noughts_length
  unfold drPts
  rw [List.foldl_append, hbase]
  obtain ⟨f1, f2⟩ := fold_sg q x.now h2 (chUpto x.was x.now 512) x.was hwl (chUpto_ok x.was x.now 512).2
  refine List.ext_getElem? fun i => ?_
  rcases f2 i with e | ⟨e, hno⟩
  · exact e
  · rw [e]
    by_cases hi : i < 512
    · by_cases he : x.now.getD i 0 = x.was.getD i 0
      · rw [List.getD_eq_getElem?_getD, List.getD_eq_getElem?_getD, List.getElem?_eq_getElem (by omega), List.getElem?_eq_getElem (by omega)] at he
        simp only [Option.getD_some] at he
        rw [List.getElem?_eq_getElem (by omega), List.getElem?_eq_getElem (by omega), he]
      · obtain ⟨y, hy, h3, h4⟩ := (chUpto_cov x.was x.now 512).cov i hi he
        exact absurd ⟨h3, h4⟩ (hno y hy)
    · rw [List.getElem?_eq_none (by omega), List.getElem?_eq_none (by omega)]
/-- What each draft's page was. -/
def DrWas (C : Nat → List UInt8) (D : Nat → Option Dr) : Prop := ∀ q x, D q = some x → x.was = if x.fresh then noughts else C q
theorem appC_append (C : Nat → List UInt8) (a b : List Pt) : appC C (a ++ b) = appC (appC C a) b := by unfold appC; rw [List.foldl_append]
theorem allPts_cons (D : Nat → Option Dr) (k : Nat) (r : List Nat) : allPts D (k :: r) = drPtsO k (D k) ++ allPts D r := by unfold allPts; rw [List.flatMap_cons]
theorem allPts_app (D : Nat → Option Dr) (hl : ∀ q x, D q = some x → x.was.length = 512 ∧ x.now.length = 512) : ∀ (ks : List Nat) (C : Nat → List UInt8), ks.Nodup → (∀ q, (C q).length = 512) → (∀ q ∈ ks, ∀ x, D q = some x → x.was = if x.fresh then noughts else C q) →
    ∀ r, appC C (allPts D ks) r = if r ∈ ks then (match D r with | some x => x.now | none => C r) else C r
  | [], C, _, _, _ => fun r => by simp [allPts, appC]
  | k :: ks, C, hn, hC, hw => fun r => by
    obtain ⟨hn1, hn2⟩ := List.nodup_cons.1 hn
    rw [allPts_cons, appC_append]
    cases hk : D k with
    | none =>
      have e : appC C (drPtsO k none) = C := rfl
      rw [e, allPts_app D hl ks C hn2 hC (fun q hq x hx => hw q (by simp [hq]) x hx) r]
      by_cases hr : r = k
      · subst hr; rw [if_neg hn1, if_pos (by simp), hk]
      · by_cases hm : r ∈ ks
        · rw [if_pos hm, if_pos (by simp [hm])]
        · rw [if_neg hm, if_neg (by simp [hr, hm])]
    | some x =>
      have e : appC C (drPtsO k (some x)) = upd C k x.now := drPts_app C k x (hC k) (hw k (by simp) x hk) (hl k x hk).2
      rw [e, allPts_app D hl ks (upd C k x.now) hn2 (fun q => by
        by_cases hq : q = k
        · subst hq; rw [upd_same]; exact (hl q x hk).2
        · rw [upd_other _ _ hq]; exact hC q) (fun q hq y hy => by
        rw [upd_other _ _ (show q ≠ k from fun e => hn1 (e ▸ hq))]
        exact hw q (by simp [hq]) y hy) r]
      by_cases hr : r = k
      · subst hr; rw [if_neg hn1, if_pos (by simp), hk, upd_same]
      · rw [upd_other _ _ hr]
        by_cases hm : r ∈ ks
        · rw [if_pos hm, if_pos (by simp [hm])]
        · rw [if_neg hm, if_neg (by simp [hr, hm])]
theorem KeysOf.nodup {D : Nat → Option Dr} {ks : List Nat} (h : KeysOf D ks) : ks.Nodup := h.1.imp (fun h => by omega)
theorem keys_app {D : Nat → Option Dr} {ks : List Nat} {C : Nat → List UInt8} (h : KeysOf D ks) (hl : ∀ q x, D q = some x → x.was.length = 512 ∧ x.now.length = 512) (hC : ∀ q, (C q).length = 512) (hw : DrWas C D) (r : Nat) :
    appC C (allPts D ks) r = match D r with | some x => x.now | none => C r := by
  rw [allPts_app D hl ks C h.nodup hC (fun q _ x hx => hw q x hx) r]
  by_cases hr : r ∈ ks
  · rw [if_pos hr]
  · rw [if_neg hr]
    cases hd : D r with
    | none => rfl
    | some x => exact absurd ((h.2 r).2 (by rw [hd]; rfl)) hr

/-! ### How long the record is -/
theorem hdB_le (h : Hd) (k : h.Ok) : (hdB h).length ≤ 600 := by
  have hc := k.cnt
  unfold hdB
  rw [List.length_append, List.length_append, numB_length, flat_length _ 4 (fun i => numB_length 4 _), flat_length _ 8 (fun i => numB_length 8 _)]
  omega
theorem sgs_len (q : Nat) (now : List UInt8) (h : now.length = 512) : ∀ (l : List (Nat × Nat)), (∀ x ∈ l, x.1 < x.2 ∧ x.2 ≤ 512) → ((l.map (sgPt q now)).flatMap ptB).length = (l.map fun x => x.2 - x.1 + 6).sum
  | [], _ => rfl
  | x :: r, hl => by
    obtain ⟨h1, h2⟩ := hl x (by simp)
    obtain ⟨_, _, b3⟩ := sgPt_bytes q now x h h1 h2
    rw [List.map_cons, List.flatMap_cons, List.length_append, ptB_length, b3, sgs_len q now h r (fun y hy => hl y (by simp [hy])), List.map_cons, List.sum_cons]
    omega
theorem drPts_bytes (q : Nat) (x : Dr) (h : x.now.length = 512) : ((drPts q x).flatMap ptB).length ≤ 524 := by
  unfold drPts
  rw [List.flatMap_append, List.length_append, sgs_len q x.now h _ (chUpto_ok x.was x.now 512).2]
  have h1 := chUpto_sum x.was x.now 512
  have h2 : ((freshPt q x.fresh).flatMap ptB).length ≤ 6 := by
    unfold freshPt
    split
    · rw [List.flatMap_cons, List.length_append, ptB_length]; simp [ByteArray.size]
    · simp
  omega
theorem allPts_bytes (D : Nat → Option Dr) (hl : ∀ q x, D q = some x → x.was.length = 512 ∧ x.now.length = 512) : ∀ ks : List Nat, ((allPts D ks).flatMap ptB).length ≤ 524 * ks.length
  | [] => by simp [allPts]
  | k :: r => by
    have h2 := allPts_bytes D hl r
    rw [allPts_cons, List.flatMap_append, List.length_append, List.length_cons]
    cases hk : D k with
    | none => simp only [drPtsO, List.flatMap_nil, List.length_nil]; omega
    | some x =>
      have := drPts_bytes k x (hl k x hk).2
      simp only [drPtsO]
      omega
theorem rec_len (h : Hd) (k : h.Ok) (D : Nat → Option Dr) (hl : ∀ q x, D q = some x → x.was.length = 512 ∧ x.now.length = 512) (ks : List Nat) : (recB h (allPts D ks)).length ≤ 600 + 524 * ks.length := by
  unfold recB
  rw [List.length_append]
  have := hdB_le h k
  have := allPts_bytes D hl ks
  omega
theorem allPts_fits {D : Nat → Option Dr} (hl : ∀ q x, D q = some x → x.was.length = 512 ∧ x.now.length = 512) (h4 : ∀ q x, D q = some x → q < 4096) : ∀ ks : List Nat, ∀ p ∈ allPts D ks, p.Fits
  | [], p, hp => by simp [allPts] at hp
  | k :: r, p, hp => by
    rw [allPts_cons] at hp
    rcases List.mem_append.1 hp with hp | hp
    · cases hk : D k with
      | none => rw [hk] at hp; cases hp
      | some x =>
        rw [hk] at hp
        have h2 := (hl k x hk).2
        have hq := h4 k x hk
        simp only [drPtsO, drPts] at hp
        rcases List.mem_append.1 hp with hp | hp
        · unfold freshPt at hp
          split at hp
          · rw [List.mem_singleton] at hp; subst hp
            exact ⟨hq, by show 0 + noughts.length ≤ 512; rw [noughts_length]; omega⟩
          · cases hp
        · obtain ⟨y, hy, rfl⟩ := List.mem_map.1 hp
          obtain ⟨y1, y2⟩ := (chUpto_ok x.was x.now 512).2 y hy
          obtain ⟨b1, b2, _⟩ := sgPt_bytes k x.now y h2 y1 y2
          refine ⟨hq, ?_⟩
          show y.1 + (sgPt k x.now y).bytes.length ≤ 512
          rw [b1, b2]; omega
    · exact allPts_fits hl h4 r p hp
end Go.Proofs.YtijggofelepaaaaGreatDoor

/- Commit of an action whatever it has to tell: of pages, of the head alone, or nothing. -/
set_option maxRecDepth 100000
namespace Go.Proofs.YtijggofelepaaaaGreatDoor
open Go Go.RowKit

theorem all_range_eqN : ∀ (xs ys : List Nat), xs.length = ys.length → ((List.range xs.length).all fun i => xs.getD i 0 == ys.getD i 0) = (xs == ys)
  | [], [], _ => rfl
  | x :: xs, y :: ys, h => by
    have ih := all_range_eqN xs ys (by simpa using h)
    rw [List.length_cons, List.range_succ_eq_map, List.all_cons, List.all_map]
    simp only [List.getD_cons_zero, Function.comp_def, List.getD_cons_succ, ih]
    simp [List.cons_beq_cons]
  | [], _ :: _, h => by simp at h
  | _ :: _, [], h => by simp at h
/-- Two rows of numbers are the same just where all numbers are. -/
theorem run_equalIn_ints {P : Program} (w : World) (d : Nat) (t e : TypeId) (n : Nat) (κ : IntKind) (ht : P.underlying t = some (.array n e)) (he : P.underlying e = some (.int κ)) (hsz : ∀ w, (sizeOf e).run P w = .ok 1 w)
    (xs ys : List Nat) (hx : xs.length = n) (hy : ys.length = n) :
    (Op.equalIn (d + 2) t (.agg (xs.map fun x : Nat => Value.int κ (x : Int)).toArray) (.agg (ys.map fun x : Nat => Value.int κ (x : Int)).toArray)).run P w = .ok (xs == ys) w := by
  rw [← all_range_eqN xs ys (hx.trans hy.symm), hx, List.range_eq_range', Op.equalIn]
  simp only [Sem.run_bind, run_underlying ht, Result.andThen_ok, hsz, Std.Legacy.Range.forIn_eq_forIn_range', Std.Legacy.Range.size, Nat.sub_zero, Nat.add_sub_cancel, Nat.div_one]
  have hl : ∀ i ∈ List.range' 0 n 1, i < n := fun i hi => by simpa using (List.mem_range'_1.1 hi).2
  generalize List.range' 0 n 1 = l at hl ⊢
  induction l with
  | nil => simp
  | cons i l ih =>
    have hi : i < n := hl i (by simp)
    have px : (part e (xs.map fun x : Nat => Value.int κ (x : Int)).toArray (i * 1)).run P w = .ok (.int κ ((xs.getD i 0 : Nat) : Int)) w := by
      simp [part, isAgg, run_underlying he, List.getD, List.getElem?_eq_getElem (show i < xs.length by omega)]
    have py : (part e (ys.map fun x : Nat => Value.int κ (x : Int)).toArray (i * 1)).run P w = .ok (.int κ ((ys.getD i 0 : Nat) : Int)) w := by
      simp [part, isAgg, run_underlying he, List.getD, List.getElem?_eq_getElem (show i < ys.length by omega)]
    have pe : (Op.equalIn (d + 1) e (.int κ ((xs.getD i 0 : Nat) : Int)) (.int κ ((ys.getD i 0 : Nat) : Int))).run P w = .ok (xs.getD i 0 == ys.getD i 0) w := by
      rw [run_equalIn_int w d e κ κ _ _ he]
      congr 1
      rw [Bool.eq_iff_iff]
      simp
      omega
    simp only [List.forIn_cons, Sem.run_bind, px, py, pe, Result.andThen_ok, List.all_cons]
    cases hb : (xs.getD i 0 == ys.getD i 0)
    · simp
    · simp only [Bool.not_true, Bool.false_eq_true, if_false, Sem.run_pure, Result.andThen_ok, Bool.true_and]
      exact ih fun j hj => hl j (by simp [hj])

theorem size_u64 (w : World) : (sizeOf 33).run Tryz.prog w = .ok 1 w := by
  obtain ⟨i, hi, hs⟩ := Option.map_eq_some_iff.1 (show (Tryz.prog.info? 33).map (·.size) = some 1 by kernel_rfl)
  simp [sizeOf, typeInfo, hi, hs]
theorem size_i64 (w : World) : (sizeOf 3).run Tryz.prog w = .ok 1 w := by
  obtain ⟨i, hi, hs⟩ := Option.map_eq_some_iff.1 (show (Tryz.prog.info? 3).map (·.size) = some 1 by kernel_rfl)
  simp [sizeOf, typeInfo, hi, hs]
theorem head_fields : ((Tryz.prog.fieldsOf 37).toList.map fun f => (decide (f.name ≠ "_"), f.type, f.offset)) = [(true, 3, 0), (true, 34, 1), (true, 35, 65)] := by kernel_rfl
theorem Hd.part0 (h : Hd) (w : World) : (part 3 h.cells.toArray 0).run Tryz.prog w = .ok (.int .i64 h.count) w := by
  simp [part, isAgg, run_underlying Tryz.underlying3, Hd.cells]
theorem Hd.part1 {h : Hd} (k : h.Ok) (w : World) : (part 34 h.cells.toArray 1).run Tryz.prog w = .ok (.agg (h.free.map fun x : Nat => Value.int .u64 (x : Int)).toArray) w := by
  have e : List.take 64 h.cells.tail = h.free.map fun x : Nat => Value.int .u64 (x : Int) := by
    show List.take 64 ((h.free.map fun x : Nat => Value.int .u64 (x : Int)) ++ _) = _
    rw [List.take_append_of_le_length (by simp [k.nf]), List.take_of_length_le (by simp [k.nf])]
  simp [part, isAgg, run_underlying Tryz.underlying34, e]
theorem Hd.part2 {h : Hd} (k : h.Ok) (w : World) : (part 35 h.cells.toArray 65).run Tryz.prog w = .ok (.agg (h.roots.map fun x : Nat => Value.int .i64 (x : Int)).toArray) w := by
  have e : List.take 16 (List.drop 65 h.cells) = h.roots.map fun x : Nat => Value.int .i64 (x : Int) := by
    show List.take 16 (List.drop 64 ((h.free.map fun x : Nat => Value.int .u64 (x : Int)) ++ _)) = _
    rw [List.drop_left' (by simp [k.nf]), List.take_of_length_le (by simp [k.nr])]
  simp [part, isAgg, run_underlying Tryz.underlying35, e]
/-- Two heads are the same just where all that they have is. -/
theorem run_eqHead {h k : Hd} (oh : h.Ok) (ok : k.Ok) (w : World) : ∃ b : Bool, (b = true ↔ h = k) ∧ (binOp .eql 37 (.agg h.cells.toArray) (.agg k.cells.toArray)).run Tryz.prog w = .ok (.bool b) w := by
  refine ⟨h.count == k.count && (h.free == k.free && h.roots == k.roots), ?_, ?_⟩
  · obtain ⟨c, f, r⟩ := h
    obtain ⟨c', f', r'⟩ := k
    simp
  · rw [run_eql_struct, show (10000 : Nat) = 9999 + 1 from rfl, run_equalIn_agg w 9999 37 _ _ (by kernel_rfl) (by kernel_rfl)]
    have hm := head_fields
    generalize (Tryz.prog.fieldsOf 37).toList = fs at hm
    obtain ⟨a, b, c, rfl⟩ : ∃ a b c, fs = [a, b, c] := by
      have hl : fs.length = 3 := by simpa using congrArg List.length hm
      match fs, hl with
      | [a, b, c], _ => exact ⟨a, b, c, rfl⟩
    · simp only [List.map_cons, List.map_nil, List.cons.injEq, Prod.mk.injEq, and_true, decide_eq_true_eq] at hm
      obtain ⟨⟨a1, a2, a3⟩, ⟨b1, b2, b3⟩, c1, c2, c3⟩ := hm
      have e1 : (Op.equalIn 9999 3 (.int .i64 (h.count : Int)) (.int .i64 (k.count : Int))).run Tryz.prog w = _ := run_equalIn_int (P := Tryz.prog) w 9998 3 .i64 .i64 (h.count : Int) (k.count : Int) Tryz.underlying3
      have e2 : (Op.equalIn 9999 34 (.agg (h.free.map fun x : Nat => Value.int .u64 (x : Int)).toArray) (.agg (k.free.map fun x : Nat => Value.int .u64 (x : Int)).toArray)).run Tryz.prog w = _ := run_equalIn_ints (P := Tryz.prog) w 9997 34 33 64 .u64 Tryz.underlying34 Tryz.underlying33 size_u64 h.free k.free oh.nf ok.nf
      have e3 : (Op.equalIn 9999 35 (.agg (h.roots.map fun x : Nat => Value.int .i64 (x : Int)).toArray) (.agg (k.roots.map fun x : Nat => Value.int .i64 (x : Int)).toArray)).run Tryz.prog w = _ := run_equalIn_ints (P := Tryz.prog) w 9997 35 3 16 .i64 Tryz.underlying35 Tryz.underlying3 size_i64 h.roots k.roots oh.nr ok.nr
      have ei : ((h.count : Int) == (k.count : Int)) = (h.count == k.count) := by rw [Bool.eq_iff_iff]; simp; omega
      simp only [Op.eqFields, a1, a2, a3, b1, b2, b3, c1, c2, c3, ne_eq, not_false_eq_true, if_true, Sem.run_bind, Hd.part0, Result.andThen_ok, e1, ei]
      cases h1 : (h.count == k.count) <;> cases h2 : (h.free == k.free) <;> cases h3 : (h.roots == k.roots) <;> simp [Result.andThen, Hd.part1 oh, Hd.part1 ok, Hd.part2 oh, Hd.part2 ok, e2, e3, h2, h3]

theorem exec_eqHead {a : Act} {o : Oper} {x y : Operand} {t' : TypeId} {X Y : Array Value} {b : Bool} (ho : o.op = .binOp .eql 37 x y t') (hx : a.eval x = .agg X) (hy : a.eval y = .agg Y) (W : World) (h : (binOp .eql 37 (.agg X) (.agg Y)).run Tryz.prog W = .ok (.bool b) W) : (execOp a.eval o).run Tryz.prog W = .ok (.value (.bool b)) W := by
  have hm : Tryz.prog.eqGuardType Tryz.prog.depth 37 = false := by kernel_rfl
  have hg := run_eqGuard_agg (P := Tryz.prog) W .eql 37 x y X Y hm
  unfold execOp
  simp only [ho, hx, hy]
  simp [hg, h]

theorem act_turn {K : Exit → Act → World → Prop} {x : Exit} {A A' : Act} {W : World} (h : A = A') (hk : K x A' W) : K x A W := h ▸ hk

def CmNone (B : Nat) (S : Nat → Prop) (a s d l p n : Nat) (C : Nat → List UInt8) (P : Nat → Nat) (N : Nat) (rs : List ByteArray) (f2 : List UInt8) (h : Hd) (w w' : World) : Prop :=
  ∃ S', Kept (fun k => S k ∨ k = s ∨ k = a) w w' ∧ (∀ k, k < w.heap.size → S' k → S k) ∧ PoolJ (JL rs f2) B S' p d n C P N w' ∧ SpaceAt w' s d l p h none ∧ ActAt w' a s h (.map none)

set_option maxHeartbeats 6400000 in
theorem acommit_none (B : Nat) (S : Nat → Prop) (a s d l p n db m : Nat) (C : Nat → List UInt8) (P : Nat → Nat) (N : Nat) (rs : List ByteArray) (f2 : List UInt8) (last h : Hd) (D : Nat → Option Dr) (ks : List Nat) (w : World)
    (x : ActSt w a s d l p db m last h D) (hs : ¬ S s) (ha : ¬ S a) (lg : LogOn l d w) (hl : ¬ S l) (hla : l ≠ a ∧ l ≠ s) (g : PoolJ (JL rs f2) B S p d n C P N w) (hks : KeysOf D ks) (hne : allPts D ks = []) (hsz : (recB h []).length ≤ 16777216)
    (hrs : Recs rs) (hc : appCode rs ⟨(recB h []).toArray⟩ = 0) (hP : pinnedN P ≠ n) (hN : N + 1 ≤ 4398046511104) :
    Calls Tryz.prog 16 #[.pointer (some ⟨a, 0, none⟩)] w fun e w' => e = .returned (.int .i64 0) ∧ (h = last ∧ CmNone B S a s d l p n C P N rs f2 h w w' ∨ CommitPost B S a s d l p n C P N rs f2 h [] w w') := by
  have HR := Lib.hid x.live
  unfold Refused at HR
  have hone : ∀ ks', KeysOf D ks' → ks' = ks := fun ks' hk' => List.Perm.eq_of_pairwise (le := fun a b => a < b) (fun a b _ _ h1 h2 => by omega) hk'.1 hks.1 ((List.perm_ext_iff_of_nodup (hk'.1.imp (fun h => by omega)) (hks.1.imp (fun h => by omega))).2 fun q => by rw [hk'.2, hks.2])
  have HAP : Hid (Calls Tryz.prog 47 #[.pointer (some ⟨a, 0, none⟩)] w fun e w' => ∃ al c, e = .returned (.slice al 0 c) ∧ PtsAt w.heap.size w' (.slice al 0 c) [] ∧ Below w.heap.size w w') := Lib.hid ((apatches_any a s db m h D w x.ac x.dr).mono fun e w' ⟨v, ks', h1, h2, h3, h4⟩ => by
    obtain rfl := hone ks' h2
    rw [hne] at h3
    obtain ⟨al, c, rfl⟩ := h3.shape
    exact ⟨al, c, h1, h3, h4⟩)
  have HFIN : Hid (∀ w1 v, PtsAt w.heap.size w1 v [] → Below w.heap.size w w1 → Calls Tryz.prog 40 #[.pointer (some ⟨a, 0, none⟩)] w1 fun e w2 => e = .returned (.tuple #[]) ∧ Hid (∀ W, Below w2.heap.size w2 W →
      ((W.cell? ⟨a, 1, none⟩ = some (.pointer (some ⟨s, 1, none⟩)) ∧ W.rangeAt a 2 h.cells ∧ W.rangeAt s 4 last.cells) ∧ Hid (h = last → CmNone B S a s d l p n C P N rs f2 h w W) ∧ Calls Tryz.prog 48 #[.pointer (some ⟨s, 1, none⟩), .agg h.cells.toArray, v] W fun e w' => e = .returned (.int .i64 0) ∧
        (w'.cell? ⟨a, 1, none⟩ = some (.pointer (some ⟨s, 1, none⟩)) ∧ w'.rangeAt a 2 h.cells) ∧ CommitPost B S a s d l p n C P N rs f2 h [] w w'))) := Lib.hid (fun w1 v hp1 hb1 => by
    have x1 := x.below hb1
    refine (end_any a s d l p h last _ (some a) w1 x1.ac x1.sp x1.ok x1.okl x1.ne.1).mono ?_
    rintro e w2 ⟨rfl, ha2, hs2, hk2⟩
    refine ⟨rfl, Lib.hid (fun W hbW => ?_)⟩
    have haW := ha2.below hbW
    have hsW := hs2.below hbW
    have g1 := g.below hb1
    have hkw : Kept (fun k => k = s ∨ k = a) w1 W := hk2.trans (Kept.ofBelow (S := fun k => k = s ∨ k = a) hbW) (fun _ hi => .inl hi)
    have g2 : PoolJ (JL rs f2) B S p d n C P N W := g1.kept hkw (fun k _ hk => by
      rintro (rfl | rfl)
      · exact hs hk
      · exact ha hk)
    have hkw0 : Kept (fun k => S k ∨ k = s ∨ k = a) w W := (Kept.ofBelow (S := fun k => S k ∨ k = s ∨ k = a) hb1).trans (hkw.mono (T := fun k => S k ∨ k = s ∨ k = a) (fun k hk => .inr hk)) (fun _ hi => .inl hi)
    refine ⟨⟨haW.st, haW.hd, hsW.hd⟩, Lib.hid (fun he => ⟨S, hkw0, fun _ _ h => h, g2, by rw [he]; exact hsW, haW⟩), ?_⟩
    have lg2 : LogOn l d W := (lg.below hb1).kept hkw (by rintro (h | h); exact hla.2 h; exact hla.1 h)
    have hown : ∀ b, v.ownBlock = some b → w.heap.size ≤ b ∧ b < w1.heap.size := fun b hb => World.ownsRow.lt hp1 b hb
    have hlts := x.sp.lt
    have hlta := x.ac.lt
    have hpW : PtsAt w.heap.size W v [] := ownsRow_of_block hp1 (fun b hb => hkw.block b (hown b hb).2 (by have := (hown b hb).1; omega))
    have hltS : ∀ b, S b → b < w.heap.size := fun b hb => (g.low b hb).2
    have hszs : w.heap.size ≤ W.heap.size := Nat.le_trans hb1.size hkw.size
    refine (finish_ok B S s d l p n C P N rs f2 last h none v [] w.heap.size W hsW x.okl.len x.ok hs lg2 hl g2 hpW (fun b hb hS => by have := hltS b hS; have := (hown b hb).1; omega) (fun p hp => by cases hp) hsz hrs hc hP (by simpa using hN)).mono ?_
    rintro e w' ⟨rfl, S', h1, h2, h3, h4⟩
    have haw' : ActAt w' a s h (.map none) := haW.kept h1 (by rintro (hh | hh); exact ha hh; exact x.ne.1 hh)
    refine ⟨rfl, ⟨haw'.st, haw'.hd⟩, S', ?_, fun k hk hh => h2 k (by omega) hh, h3, h4, haw'⟩
    exact hkw0.trans (h1.mono (T := fun k => S k ∨ k = s ∨ k = a) (fun k hk => hk.imp id .inl)) (fun _ hi => .inl hi))
  obtain ⟨X, hX⟩ : ∃ X : List Value, X = h.cells := ⟨_, rfl⟩
  obtain ⟨Y, hY⟩ : ∃ Y : List Value, Y = last.cells := ⟨_, rfl⟩
  have HXL : Hid ((Tryz.prog.info? 37).map (·.size) = some X.length) := Lib.hid (by rw [hX, Hd.cells_length x.ok]; exact sizeHd)
  have HYL : Hid ((Tryz.prog.info? 37).map (·.size) = some Y.length) := Lib.hid (by rw [hY, Hd.cells_length x.okl]; exact sizeHd)
  obtain ⟨bq, hbq, heq⟩ : ∃ bq : Bool, (bq = true ↔ h = last) ∧ ∀ W : World, (binOp .eql 37 (.agg X.toArray) (.agg Y.toArray)).run Tryz.prog W = .ok (.bool bq) W := by
    rw [hX, hY]
    obtain ⟨b0, h1, _⟩ := run_eqHead x.ok x.okl w
    refine ⟨b0, h1, fun W => ?_⟩
    obtain ⟨b1, h2, h3⟩ := run_eqHead x.ok x.okl W
    have : b1 = b0 := by rw [Bool.eq_iff_iff, h1, h2]
    rw [h3, this]
  have HBQ := Lib.hid hbq
  have HEQ := Lib.hid heq
  rw [← hX, ← hY] at HFIN
  clear x hs ha lg hl hla g hks hne hsz hrs hc hP hN hone hX hY hbq heq
  go_enter Tryz.func16, Tryz.ntmps16
  go_wp2_with fail
  refine HR.out.mono ?_
  rintro e w' ⟨rfl, hw⟩
  subst w'
  go_wp2_with fail
  refine HAP.out.mono ?_
  rintro e w1 ⟨al, c, rfl, hp1, hb1⟩
  have HEN := Lib.hid (HFIN.out w1 _ hp1 hb1)
  clear hp1 hb1 HFIN HAP HR
  go_wp2_with fail
  refine HEN.out.mono ?_
  rintro e w2 ⟨rfl, HW⟩
  clear HEN
  go_wp2
  have hbA : Below w2.heap.size w2 w2.drew := (Below.refl _ _).drew
  have hbB : Below w2.heap.size w2 w2.drew.drew := hbA.drew
  obtain ⟨hS0, hnone, -⟩ := HW.out _ hbA
  obtain ⟨hS1, -, hcall⟩ := HW.out _ hbB
  have HS0 := Lib.hid hS0
  have HS1 := Lib.hid hS1
  have HCA := Lib.hid hcall
  clear hbA hbB hS0 hS1 hcall HW
  refine wp_region_held_drew (S := fun W => W.cell? ⟨a, 1, none⟩ = some (.pointer (some ⟨s, 1, none⟩)) ∧ W.rangeAt a 2 X ∧ W.rangeAt s 4 Y) (by kernel_rfl) HS0.out (fun hHeld => ?_)
  refine wpAnyH_take (i := 0) (v := .slice al 0 c) rfl (by kernel_rfl) (by kernel_rfl) (by kernel_rfl) (fun _ _ _ h => h) (Or.inl ⟨by rfl, fun W hW => by clear hW; go_simp⟩) HS0.out ?_
  refine wpAnyH_take (i := 1) (v := .int .i64 0) rfl (by kernel_rfl) (by kernel_rfl) (by kernel_rfl) (fun _ _ _ h => h) (Or.inl ⟨by rfl, fun W hW => by clear hW; go_simp⟩) HS0.out ?_
  refine wpAnyH_take (i := 2) (v := .bool true) rfl (by kernel_rfl) (by kernel_rfl) (by kernel_rfl) (fun _ _ _ h => h) (Or.inl ⟨by rfl, fun W hW => by clear hW; go_simp⟩) HS0.out ?_
  refine wpAnyH_take (i := 3) (v := .bool true) rfl (by kernel_rfl) (by kernel_rfl) (by kernel_rfl) (fun _ _ _ h => h) (Or.inl ⟨by rfl, fun W hW => by clear hW; go_simp⟩) HS0.out ?_
  refine wpAnyH_take (i := 4) (v := .pointer (some ⟨a, 0, none⟩)) rfl (by kernel_rfl) (by kernel_rfl) (by kernel_rfl) (fun _ _ _ h => h) (Or.inl ⟨by unfold Region.wanted yielded; go_simp, fun W hW => by clear hW; go_simp⟩) HS0.out ?_
  refine wpAnyH_take (i := 5) (v := .pointer (some ⟨a, 0, none⟩)) rfl (by kernel_rfl) (by kernel_rfl) (by kernel_rfl) (fun _ _ _ h => h) (Or.inl ⟨by unfold Region.wanted yielded; go_simp, fun W hW => by clear hW; go_simp⟩) HS0.out ?_
  refine wpAnyH_take (i := 6) (v := .pointer (some ⟨a, 2, none⟩)) rfl (by kernel_rfl) (by kernel_rfl) (by kernel_rfl) (fun _ _ _ h => h) (Or.inl ⟨by unfold Region.wanted yielded; go_simp, fun W hW => by clear hW; go_simp⟩) HS0.out ?_
  refine wpAnyH_take (i := 7) (v := .agg X.toArray) rfl (by kernel_rfl) (by kernel_rfl) (by kernel_rfl) (fun _ _ _ h => h) (yieldsIf_load_mid (by kernel_rfl) 37 (.tmp 20) (by kernel_rfl) a 2 (by kernel_rfl) X _ (fun W hW => hW.2.1) Tryz.underlying37 rfl HXL.out) HS0.out ?_
  refine wpAnyH_take (i := 8) (v := .pointer (some ⟨a, 0, none⟩)) rfl (by kernel_rfl) (by kernel_rfl) (by kernel_rfl) (fun _ _ _ h => h) (Or.inl ⟨by unfold Region.wanted yielded; go_simp, fun W hW => by clear hW; go_simp⟩) HS0.out ?_
  refine wpAnyH_take (i := 9) (v := .pointer (some ⟨a, 0, none⟩)) rfl (by kernel_rfl) (by kernel_rfl) (by kernel_rfl) (fun _ _ _ h => h) (Or.inl ⟨by unfold Region.wanted yielded; go_simp, fun W hW => by clear hW; go_simp⟩) HS0.out ?_
  refine wpAnyH_take (i := 10) (v := .pointer (some ⟨a, 1, none⟩)) rfl (by kernel_rfl) (by kernel_rfl) (by kernel_rfl) (fun _ _ _ h => h) (Or.inl ⟨by unfold Region.wanted yielded; go_simp, fun W hW => by clear hW; go_simp⟩) HS0.out ?_
  refine wpAnyH_take (i := 11) (v := .pointer (some ⟨s, 1, none⟩)) rfl (by kernel_rfl) (by kernel_rfl) (by kernel_rfl) (fun _ _ _ h => h) (Or.inl ⟨by unfold Region.wanted yielded; go_simp, fun W hW => by have hh := hW.1; clear hW; go_simp⟩) HS0.out ?_
  refine wpAnyH_take (i := 12) (v := .pointer (some ⟨s, 1, none⟩)) rfl (by kernel_rfl) (by kernel_rfl) (by kernel_rfl) (fun _ _ _ h => h) (Or.inl ⟨by unfold Region.wanted yielded; go_simp, fun W hW => by clear hW; go_simp⟩) HS0.out ?_
  refine wpAnyH_take (i := 13) (v := .pointer (some ⟨s, 4, none⟩)) rfl (by kernel_rfl) (by kernel_rfl) (by kernel_rfl) (fun _ _ _ h => h) (Or.inl ⟨by unfold Region.wanted yielded; go_simp, fun W hW => by clear hW; go_simp⟩) HS0.out ?_
  refine wpAnyH_take (i := 14) (v := .agg Y.toArray) rfl (by kernel_rfl) (by kernel_rfl) (by kernel_rfl) (fun _ _ _ h => h) (yieldsIf_load_mid (by kernel_rfl) 37 (.tmp 27) (by kernel_rfl) s 4 (by kernel_rfl) Y _ (fun W hW => hW.2.2) Tryz.underlying37 rfl HYL.out) HS0.out ?_
  refine wpAnyH_take (i := 15) (v := .bool bq) rfl (by kernel_rfl) (by kernel_rfl) (by kernel_rfl) (fun _ _ _ h => h) (Or.inl ⟨by kernel_rfl, fun W _ => exec_eqHead (x := .tmp 21) (y := .tmp 28) (t' := 37) (X := X.toArray) (Y := Y.toArray) (by kernel_rfl) (by kernel_rfl) (by kernel_rfl) W (HEQ.out W)⟩) HS0.out ?_
  refine wpAnyH_take (i := 16) (v := .bool bq) rfl (by kernel_rfl) (by kernel_rfl) (by kernel_rfl) (fun _ _ _ h => h) (Or.inl ⟨by rfl, fun W hW => by clear hW; go_simp⟩) HS0.out ?_
  refine wpAnyH_done (by kernel_rfl) ?_ _
  clear hHeld
  refine act_turn (A' := ⟨#[.pointer (some ⟨a, 0, none⟩), undef, .int .i64 0, .int .i64 0, .slice al 0 c, .pointer (some ⟨a, 0, none⟩), .int .i64 0, .int .i64 0, .bool false, undef, .pointer (some ⟨a, 0, none⟩), .slice al 0 c, .pointer (some ⟨a, 0, none⟩), .tuple #[], .slice al 0 c, .int .i64 0, .bool true, .bool true, .pointer (some ⟨a, 0, none⟩), .pointer (some ⟨a, 0, none⟩), .pointer (some ⟨a, 2, none⟩), .agg X.toArray, .pointer (some ⟨a, 0, none⟩), .pointer (some ⟨a, 0, none⟩), .pointer (some ⟨a, 1, none⟩), .pointer (some ⟨s, 1, none⟩), .pointer (some ⟨s, 1, none⟩), .pointer (some ⟨s, 4, none⟩), .agg Y.toArray, .bool bq, .bool bq, undef, undef, undef, undef, undef, undef, undef, undef, undef, undef], []⟩) (by kernel_rfl) ?_
  cases bq with
  | true =>
    have HN2 : Hid (h = last ∧ CmNone B S a s d l p n C P N rs f2 h w w2.drew) := Lib.hid ⟨HBQ.out.1 rfl, hnone.out (HBQ.out.1 rfl)⟩
    clear hnone HS1 HCA HS0
    go_wp2
    go_ret
    exact ⟨rfl, .inl HN2.out⟩
  | false =>
    clear hnone HS0
    go_wp2
    refine wp_region_held_drew (S := fun W => W.cell? ⟨a, 1, none⟩ = some (.pointer (some ⟨s, 1, none⟩)) ∧ W.rangeAt a 2 X) (by kernel_rfl) ⟨HS1.out.1, HS1.out.2.1⟩ (fun hHeld => ?_)
    have HS2 : Hid (w2.drew.drew.cell? ⟨a, 1, none⟩ = some (.pointer (some ⟨s, 1, none⟩)) ∧ w2.drew.drew.rangeAt a 2 X) := Lib.hid ⟨HS1.out.1, HS1.out.2.1⟩
    refine wpAnyH_take (i := 0) (v := .pointer (some ⟨a, 0, none⟩)) rfl (by kernel_rfl) (by kernel_rfl) (by kernel_rfl) (fun _ _ _ h => h) (Or.inl ⟨by rfl, fun W hW => by clear hW; go_simp⟩) HS2.out ?_
    refine wpAnyH_take (i := 1) (v := .pointer (some ⟨a, 0, none⟩)) rfl (by kernel_rfl) (by kernel_rfl) (by kernel_rfl) (fun _ _ _ h => h) (Or.inl ⟨by rfl, fun W hW => by clear hW; go_simp⟩) HS2.out ?_
    refine wpAnyH_take (i := 2) (v := .pointer (some ⟨a, 1, none⟩)) rfl (by kernel_rfl) (by kernel_rfl) (by kernel_rfl) (fun _ _ _ h => h) (Or.inl ⟨by rfl, fun W hW => by clear hW; go_simp⟩) HS2.out ?_
    refine wpAnyH_take (i := 3) (v := .pointer (some ⟨s, 1, none⟩)) rfl (by kernel_rfl) (by kernel_rfl) (by kernel_rfl) (fun _ _ _ h => h) (Or.inl ⟨by rfl, fun W hW => by have hh := hW.1; clear hW; go_simp⟩) HS2.out ?_
    refine wpAnyH_take (i := 4) (v := .pointer (some ⟨a, 0, none⟩)) rfl (by kernel_rfl) (by kernel_rfl) (by kernel_rfl) (fun _ _ _ h => h) (Or.inl ⟨by rfl, fun W hW => by clear hW; go_simp⟩) HS2.out ?_
    refine wpAnyH_take (i := 5) (v := .pointer (some ⟨a, 0, none⟩)) rfl (by kernel_rfl) (by kernel_rfl) (by kernel_rfl) (fun _ _ _ h => h) (Or.inl ⟨by rfl, fun W hW => by clear hW; go_simp⟩) HS2.out ?_
    refine wpAnyH_take (i := 6) (v := .pointer (some ⟨a, 2, none⟩)) rfl (by kernel_rfl) (by kernel_rfl) (by kernel_rfl) (fun _ _ _ h => h) (Or.inl ⟨by rfl, fun W hW => by clear hW; go_simp⟩) HS2.out ?_
    refine wpAnyH_take (i := 7) (v := .agg X.toArray) rfl (by kernel_rfl) (by kernel_rfl) (by kernel_rfl) (fun _ _ _ h => h) (yieldsIf_load_mid (by rfl) 37 _ rfl a 2 rfl X _ (fun W hW => hW.2) Tryz.underlying37 rfl HXL.out) HS2.out ?_
    refine wpAnyH_take (i := 8) (v := .slice al 0 c) rfl (by kernel_rfl) (by kernel_rfl) (by kernel_rfl) (fun _ _ _ h => h) (Or.inl ⟨by rfl, fun W hW => by clear hW; go_simp⟩) HS2.out ?_
    refine wpAnyH_ready (rs := [9]) (by kernel_rfl) (by simp) ?_
    refine AllReadyH.cons rfl (fun K hK => ?_) AllReadyH.nil
    go_simp
    go_at_call 48
    refine HCA.out.mono ?_
    rintro e w4 ⟨rfl, hS4, hpost⟩
    have HPO := Lib.hid hpost
    clear hpost
    refine hK.out _ _ hS4 (fun hHeld2 => ?_)
    clear hK K
    refine wpAnyH_take (i := 10) (v := .int .i64 0) rfl (by kernel_rfl) (by kernel_rfl) (by kernel_rfl) (fun _ _ _ h => h) (Or.inl ⟨by rfl, fun W hW => by clear hW; go_simp⟩) hS4 ?_
    refine wpAnyH_done (by kernel_rfl) ?_ _
    clear hHeld hHeld2
    go_wp2
    go_ret
    exact ⟨rfl, .inr HPO.out⟩

section
variable {B a s d l p db m n N : Nat} {S : Nat → Prop} {C : Nat → List UInt8} {last h : Hd} {D : Nat → Option Dr} {w : World}
/-- Commit, whatever there is to tell, where the log has room. -/
theorem commit_all (rs : List ByteArray) (f2 : List UInt8) (ks : List Nat) (g : LiveSt (JL rs f2) B S a s d l p db m n C N last h D w) (hks : KeysOf D ks) (hf : ∀ p ∈ allPts D ks, p.Fits) (hsz : (recB h (allPts D ks)).length ≤ 16777216)
    (hrs : Recs rs) (hc : appCode rs ⟨(recB h (allPts D ks)).toArray⟩ = 0) (hN : N + 1 + 3 * (allPts D ks).length ≤ 4398046511104) :
    Calls Tryz.prog 16 #[.pointer (some ⟨a, 0, none⟩)] w fun e w' => e = .returned (.int .i64 0) ∧ ∃ S' rs', (rs' = rs ∧ allPts D ks = [] ∧ h = last ∨ rs' = rs ++ [⟨(recB h (allPts D ks)).toArray⟩]) ∧
      SpSt (JL rs' f2) B S' s d l p n (appC C (allPts D ks)) (N + 1 + 3 * (allPts D ks).length) h none w' ∧ ActAt w' a s h (.map none) ∧ Kept (fun k => S k ∨ k = s ∨ k = a) w w' ∧ ∀ k, k < w.heap.size → S' k → S k := by
  have h1 := g.act.sp.lt; have h4 := g.lg.lt
  have hmk : ∀ (rs' : List ByteArray) (S' : Nat → Prop) (C' : Nat → List UInt8) (M : Nat) (w' : World), Kept (fun k => S k ∨ k = s ∨ k = a) w w' → (∀ k, k < w.heap.size → S' k → S k) → PoolJ (JL rs' f2) B S' p d n C' P0 M w' → SpaceAt w' s d l p h none → SpSt (JL rs' f2) B S' s d l p n C' M h none w' := fun rs' S' C' M w' hk hS' hp hsp =>
    ⟨hsp, g.act.ok, hp, g.lg.kept hk (by rintro (hh | hh | hh); exact g.nl hh; exact g.ne.2.1 hh; exact g.ne.1 hh), fun hh => g.ns (hS' _ h1 hh), fun hh => g.nl (hS' _ h4 hh), g.ne.2.1, ⟨g.low.2.1, g.low.2.2.1⟩, g.n0⟩
  by_cases hne : allPts D ks = []
  · rw [hne] at hsz hc hN ⊢
    refine (acommit_none B S a s d l p n db m C P0 N rs f2 last h D ks w g.act g.ns g.na g.lg g.nl ⟨g.ne.1, g.ne.2.1⟩ g.pool hks hne hsz hrs hc (pinned0 g.n0) (by simpa using hN)).mono ?_
    rintro e w' ⟨rfl, ⟨hh, S', hk, hS', hp, hsp, hac⟩ | ⟨S', hk, hS', hp, hsp, hac⟩⟩
    · exact ⟨rfl, S', rs, .inl ⟨rfl, rfl, hh⟩, (hmk rs S' C N w' hk hS' hp hsp).more (by omega), hac, hk, hS'⟩
    · exact ⟨rfl, S', _, .inr rfl, hmk _ S' _ _ w' hk hS' hp hsp, hac, hk, hS'⟩
  · refine (acommit_some B S a s d l p n db m C P0 N rs f2 last h D ks w g.act g.ns g.na g.lg g.nl ⟨g.ne.1, g.ne.2.1⟩ g.pool hks hne hf hsz hrs hc (pinned0 g.n0) hN).mono ?_
    rintro e w' ⟨rfl, S', hk, hS', hp, hsp, hac⟩
    exact ⟨rfl, S', _, .inr rfl, hmk _ S' _ _ w' hk hS' hp hsp, hac, hk, hS'⟩
end
end Go.Proofs.YtijggofelepaaaaGreatDoor

/- Commit of an action as whoever uses it sees it; Begin behind it; Open on the disk that it leaves. -/
set_option maxRecDepth 100000
namespace Go.Proofs.YtijggofelepaaaaGreatDoor
open Go.RowKit

/-- What Commit leaves: the records, the patches that are told, the space at rest with the pages as the action had them. -/
structure Commd (f2 : List UInt8) (B : Nat) (S : Nat → Prop) (c : Ac) (rs : List ByteArray) (h : Hd) (G : Nat → List UInt8) (w w' : World) (S' : Nat → Prop) (rs' : List ByteArray) (ps : List Pt) : Prop where
  told : rs' = rs ∧ ps = [] ∧ h = c.last ∨ rs' = rs ++ [⟨(recB h ps).toArray⟩] ∧ 1 ≤ (⟨(recB h ps).toArray⟩ : ByteArray).size ∧ (⟨(recB h ps).toArray⟩ : ByteArray).size ≤ 1048576
  fits : ∀ p ∈ ps, p.Fits
  few : ps.length ≤ 1000000
  ok : h.Ok
  sp : SpSt (JL rs' f2) B S' c.s c.d c.l c.p c.n (appC c.C ps) (c.N + 1 + 3 * ps.length) h none w'
  act : ActAt w' c.a c.s h (.map none)
  is : ∀ q, h.has q → appC c.C ps q = G q
  anew : (∀ q, ¬ c.last.has q) → ∀ C2 : Nat → List UInt8, (∀ q, (C2 q).length = 512) → ∀ q, h.has q → appC C2 ps q = G q
  len : ∀ q, (appC c.C ps q).length = 512
  kept : Kept S w w'
  old : ∀ k, k < w.heap.size → S' k → S k
  na : ¬ S' c.a ∧ c.a ≠ c.s ∧ c.a ≠ c.l ∧ c.a < w.heap.size

section
variable {f2 : List UInt8} {rs : List ByteArray} {B : Nat} {S : Nat → Prop} {c : Ac} {h : Hd} {G : Nat → List UInt8} {w : World}
theorem commit_v (x : ActV (JL rs f2) B S c h G w) (hC : ∀ q, (c.C q).length = 512) (qs : List Nat) (hq : ∀ q, h.has q → q ∈ qs) (hqs : qs.length ≤ 1900) (hrs : Recs rs) (hroom : (logB rs).length ≤ 3000000) (hN : c.N ≤ 4398000000000) :
    Calls Tryz.prog 16 #[.pointer (some ⟨c.a, 0, none⟩)] w fun e w' => e = .returned (.int .i64 0) ∧ ∃ S' rs' ps, Commd f2 B S c rs h G w w' S' rs' ps := by
  obtain ⟨m, D, S0, hL, h1, h2, h3, h4⟩ := x.live
  obtain ⟨D0, _, _, hk⟩ := hL.act.dr.keys
  obtain ⟨ks, hks, _, _⟩ := hk _ (List.Perm.refl _)
  have hl : ∀ q x, D q = some x → x.was.length = 512 ∧ x.now.length = 512 := fun q y hy => by
    obtain ⟨_, _, _, g1, g2, _⟩ := hL.act.dr.at_ q y hy
    exact ⟨g1, g2⟩
  have h4096 : ∀ q x, D q = some x → q < 4096 := fun q y hy => (hL.act.dr.at_ q y hy).1
  have hkl : ks.length ≤ 1900 := by
    refine Nat.le_trans (List.Nodup.length_le_of_subset hks.nodup (fun q hm => ?_)) hqs
    obtain ⟨y, hy⟩ := Option.isSome_iff_exists.1 ((hks.2 q).1 hm)
    exact hq q (hL.act.has q y hy)
  have hok := hL.act.ok
  have hlen := rec_len h hok D hl ks
  have hfew : (allPts D ks).length ≤ 1000000 := by have := allPts_len D ks; omega
  have hz : (⟨(recB h (allPts D ks)).toArray⟩ : ByteArray).size = (recB h (allPts D ks)).length := by simp [ByteArray.size]
  have hpos : 1 ≤ (recB h (allPts D ks)).length := by
    unfold recB hdB
    rw [List.length_append, List.length_append, List.length_append, numB_length]
    omega
  have hc : appCode rs ⟨(recB h (allPts D ks)).toArray⟩ = 0 := by
    unfold appCode
    rw [if_neg (by rw [hz]; omega), if_neg (by rw [hz]; omega)]
  have hf := allPts_fits hl h4096 ks
  have hwas : DrWas c.C D := h3.1
  have happ := fun r => keys_app hks hl hC hwas r
  refine (commit_all rs f2 ks hL hks hf (by omega) hrs hc (by omega)).mono ?_
  rintro e w' ⟨rfl, S', rs', ht, hsp, hac, hkp, hold⟩
  have hn1 := hL.act.ac.lt
  refine ⟨rfl, S', rs', allPts D ks, ⟨?_, hf, hfew, hok, hsp, hac, fun q hh => ?_, fun hno C2 hC2 q hh => ?_, fun q => ?_, hkp.mono (fun k hk => ?_), fun k hk hS => h1 k (hold k hk hS), ⟨fun hS => hL.na (hold _ hn1 hS), hL.act.ne.1, fun e => hL.ne.1 e.symm, hn1⟩⟩⟩
  · rcases ht with ht | ht
    · exact .inl ht
    · exact .inr ⟨ht, by rw [hz]; omega, by rw [hz]; omega⟩
  · rw [happ q, h4 q hh]; rfl
  · have hfr : ∀ q y, D q = some y → y.fresh = true := fun q y hy => (h3.2.1 q y hy).resolve_right (hno q)
    have hw2 : DrWas C2 D := fun r y hy => by rw [h3.1 r y hy, if_pos (hfr r y hy), if_pos (hfr r y hy)]
    rw [keys_app hks hl hC2 hw2 q, h4 q hh]
    unfold pgD
    cases hd : D q with
    | none => exact absurd (h3.2.2 q hh hd) (hno q)
    | some y => rfl
  · rw [happ q]
    cases hd : D q with
    | none => exact hC q
    | some y => exact (hl q y hd).2
  · rcases hk with hk | rfl | rfl
    · exact h1 k hk
    · exact x.own.2.1
    · exact x.own.1

/-- Begin, behind Commit: the next action, as an action is seen; its blocks are the space's and new ones. -/
theorem begin_v {J : List RawOp → Prop} {s d l p n N : Nat} {S1 : Nat → Prop} {C : Nat → List UInt8} {last : Hd} (g : SpSt J B S1 s d l p n C N last none w) (hJ : Saves J) (hN : N ≤ 4398046511000) (hT : Tab w) (hB : 1 ≤ B) :
    Calls Tryz.prog 8 #[.pointer (some ⟨s, 0, none⟩)] w fun e w' => ∃ (c : Ac) (S : Nat → Prop), e = .returned (.tuple #[.pointer (some ⟨c.a, 0, none⟩), .int .i64 0]) ∧ c.s = s ∧ c.d = d ∧ c.l = l ∧ c.p = p ∧ c.n = n ∧ c.N = N ∧ c.C = C ∧ c.last = last ∧ ActV J B S c last C w' ∧ w.heap.size ≤ c.a ∧ (∀ k, k < w.heap.size → S k → S1 k ∨ k = s ∨ k = l) ∧ Kept (fun k => k = s) w w' := by
  refine (begin_ok s d l p last w g.sp g.ok).mono ?_
  rintro e w' ⟨a, db, rfl, hac, hm, hsp, ha, hdb, hne, hk⟩
  have hsz := g.size
  have hlS : ∀ k, S1 k → k < w.heap.size := fun k hk => (g.pool.low k hk).2
  have hll := g.lg.lt
  have hls := g.sp.lt
  have hL : LiveSt J B S1 a s d l p db 0 n C N last last (fun _ => none) w' := ⟨⟨hsp, hac, dr_none hm, g.ok, g.ok, (fun q x hq => by cases hq), ⟨by omega, hne, by omega⟩, (fun q x hq => by cases hq)⟩, g.pool.kept hk (fun k _ hS he => g.ns (he ▸ hS)), g.lg.kept hk g.ne, g.ns, fun hh => by have := hlS _ hh; omega, g.nl, fun hh => by have := hlS _ hh; omega, (fun q x hq => by cases hq), ⟨by omega, g.ne, by omega, (fun q x hq => by cases hq)⟩, ⟨by omega, g.low.1, g.low.2, by omega, (fun q x hq => by cases hq)⟩, g.n0⟩
  have hT' : Tab w' := hT.kept hk (fun h0 => by have h0' : 0 = s := h0; have := g.low.1; omega)
  refine ⟨⟨a, s, d, l, p, db, n, N, C, last⟩, _, rfl, rfl, rfl, rfl, rfl, rfl, rfl, rfl, rfl, live_actw (c := ⟨a, s, d, l, p, db, n, N, C, last⟩) hL hJ hN hT' hB (fun q hq => hq), ha, fun k hlt hS => ?_, hk⟩
  rcases hS with h1 | h1 | h1 | h1 | h1
  · exact .inl h1
  · simp only at h1; omega
  · exact .inr (.inl h1)
  · exact .inr (.inr h1)
  · simp only at h1; omega

/-- Open, on the disk that an action stands on that is not finished: what was committed. -/
theorem open_v (x : ActV (JL rs []) B S c h G w) (n : Nat) (xs : List (Hd × List Pt)) (hrs : Recs rs) (h1 : 4 ≤ n) (h2 : n ≤ 1024) (hlen : rs.length = xs.length) (hx : ∀ i (h1 : i < rs.length) (h2 : i < xs.length), Tells rs[i] xs[i]) (hN : resN c.N xs ≤ 4398046511104) (hok : (resH Hd.zero xs).Ok) :
    Calls Tryz.prog 6 #[.pointer (some ⟨c.d, 0, none⟩), .int .i64 n] w fun e w' => ∃ s l p S1 T C0, e = .returned (.tuple #[.pointer (some ⟨s, 0, none⟩), .int .i64 0]) ∧ (∀ q, (C0 q).length = 512) ∧ SpSt (JL rs []) B S1 s c.d l p n (resC C0 xs) (resN c.N xs) (resH Hd.zero xs) none w' ∧
      w.heap.size ≤ s ∧ w.heap.size ≤ l ∧ Kept T w w' ∧ (∀ k, T k → S k ∧ k ≠ c.a ∧ k ≠ c.s ∧ k ≠ c.l) ∧ ∀ k, k < w.heap.size → S1 k → T k := by
  obtain ⟨m, D, S0, hL, g1, _⟩ := x.live
  obtain ⟨Sd, ops, hJ, hD, hSd, hol, _⟩ := hL.pool.disk
  refine (sopen_ok (JL rs []) B c.d n c.N Sd ops rs xs w hD (fun k hk => hL.pool.low k (hSd k hk)) hJ.1 hrs h1 h2 hol hJ hlen hx hN (fun ops q bs h => JL.save ops q bs h) (fun ops h => short0 ops _ h)).mono ?_
  rintro e w' ⟨s, l, p, S', rfl, ⟨a1, a2, a3, a4, a5⟩, hlg, hsp, hpool, hk, ho⟩
  have hsz := hL.size
  exact ⟨s, l, p, S', Sd, _, rfl, fun q => pageOf_length _ _, ⟨hsp, hok, hpool, hlg, a4, a5, a3, ⟨by omega, by omega⟩, by omega⟩, a1, a2, hk, fun k hk => ⟨g1 k (hSd k hk), fun e => hL.na (e ▸ hSd k hk), fun e => hL.ns (e ▸ hSd k hk), fun e => hL.nl (e ▸ hSd k hk)⟩, ho⟩
end
end Go.Proofs.YtijggofelepaaaaGreatDoor
