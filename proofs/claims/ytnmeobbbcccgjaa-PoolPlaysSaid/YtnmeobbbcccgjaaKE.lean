/- The contract of a raw write done on a disk: its files are changed, it is kept. -/
import Derived.Test.YtnmeobbbcccgjaaKD
set_option maxRecDepth 100000
namespace Go.Proofs.Ytnmeobbbcccgjaa
open Go.RowKit

theorem infoIface : (Try.prog.info? 78).map (fun i => (i.zero, i.size, i.bytes)) = some (some .nilIface, 1, 16) := by kernel_rfl

theorem append_done (w : World) (v : Value) (ops : List RawOp) (o : RawOp) (h : w.ownsRow 0 78 1 v ops.length (ops.map RawOp.val)) (hlen : ops.length ≤ 4398046511104) (ad : Addr) (c : Nat) (hc : w.cell? ad = some o.val) (ty : TypeId) :
    ∃ v' w', (Builtin.append_ #[57, 57] ty #[v, .slice (some ad) 1 c]).run Try.prog w = .ok v' w' ∧ w'.ownsRow 0 78 1 v' (ops.length + 1) (ops.map RawOp.val ++ [o.val]) ∧ Grew w w' v v' := by
  obtain ⟨i, hi, hz, hs, hby⟩ := info_parts infoIface
  have hnews : ∀ j u, [o.val][j]? = some u → w.cell? (ad.add j) = some u := by
    intro j u hu
    have : j = 0 := by have := (List.getElem?_eq_some_iff.1 hu).1; simp at this; exact this
    subst this
    simp at hu
    subst hu
    rw [show ad.add 0 = ad by cases ad with | mk b o sp => cases sp <;> simp [Addr.add]]
    exact hc
  have h1 : ∀ u ∈ [o.val], u.oneCell' = true := by intro u hu; simp at hu; subst hu; cases o <;> rfl
  obtain ⟨v', w', hr, h2, h3, _⟩ := run_append_own (P := Try.prog) w 0 57 ty 78 i .nilIface 1 16 Try.underlying57 hi hz hs hby rfl (by decide) v ops.length (ops.map RawOp.val) h ad 1 c [o.val] rfl hnews h1 (by unfold maxLen; omega) (by omega) (Nat.zero_le _)
  refine ⟨v', w', hr, h2, h3, ?_⟩
  intro k hk
  rcases h.2 with ⟨rfl, h0⟩ | ⟨g, cap, cur, rfl, _, hg, hnc, hcm, hcs, ht⟩
  · obtain rfl : ops = [] := List.eq_nil_of_length_eq_zero h0
    obtain ⟨v2, w2, hr2, ho2, _⟩ := run_append_own (P := Try.prog) w w.heap.size 57 ty 78 i .nilIface 1 16 Try.underlying57 hi hz hs hby rfl (by decide) (.slice none 0 0) 0 [] (World.ownsRow_nil _ _ _ _) ad 1 c [o.val] rfl hnews h1 (by unfold maxLen; omega) (by omega) (Nat.le_refl _)
    rw [hr] at hr2
    cases hr2
    exact .inr (ho2.lt k hk).1
  · by_cases hroom : ops.length + 1 ≤ cap
    · have hr2 := run_append_room (P := Try.prog) w 57 ty 78 i Try.underlying57 hi g ops.length cap cur hg ad 1 c [o.val] (by rw [hs]; rfl) hnews h1 hroom (by rw [hs]; simp; omega)
      rw [hr] at hr2
      cases hr2
      exact .inl hk
    · have hr2 := run_append_grow (P := Try.prog) w 57 ty 78 i .nilIface Try.underlying57 hi hz ⟨g, 0, none⟩ ops.length cap (ops.map RawOp.val) (by rw [hs]; simp) (World.ownsRow.cells (w := w) h (g := g) rfl) ad 1 c [o.val] (by rw [hs]; rfl) hnews (by omega) (by omega) (growslice_fits (by omega) (by rw [hby]; omega))
      rw [hr] at hr2
      cases hr2
      simp [Value.ownBlock] at hk
      right; omega

/-- What either raw write does to a disk's files. -/
theorem fileDo (o : RawOp) (S : Nat → Prop) (d : Nat) (F : Nat → List UInt8) (ops : List RawOp) (vs : Nat → Value) (w : World) (h : DiskF S d F ops vs w) (hF : ∀ i, (F i).length ≤ 4194304) (ho : o.Ok F) :
    ∃ (t : TypeId) (xs : Array Value) (g : FuncId), o.val = .iface t (.agg xs) ∧ (t = 82 ∧ g = 76 ∨ t = 84 ∧ g = 77) ∧
      Calls Try.prog g #[.agg xs, .pointer (some ⟨d, 1, none⟩)] w fun e w' => e = .returned (.tuple #[]) ∧ ∃ vs', DiskF (More S w.heap.size) d (o.run F) ops vs' w' ∧ Kept S w w' := by
  cases o with
  | put f at' s =>
    obtain ⟨hf, hat⟩ := ho
    refine ⟨82, _, 76, rfl, .inl ⟨rfl, rfl⟩, ?_⟩
    refine (putDo d f at' s (vs f) (F f) w hf hat (hF f) (h.cellV (by omega)) (Lib.frozen_of_heap h.blk _) h.lt (h.file f hf) (fun e => (h.foot f d (by omega) e).2 rfl)).mono ?_
    rintro e w' ⟨rfl, v', w1, hB, hG, rfl⟩
    have := h.setFile hf hG hB
    exact ⟨rfl, _, this.1, this.2⟩
  | trim f n =>
    obtain ⟨hf, hn⟩ := ho
    refine ⟨84, _, 77, rfl, .inr ⟨rfl, rfl⟩, ?_⟩
    refine (trimDo d f n (vs f) (F f) w hf hn (hF f) (h.cellV (by omega)) (Lib.frozen_of_heap h.blk _) h.lt (h.file f hf)).mono ?_
    rintro e w' ⟨rfl, v', w1, hB, hG, rfl⟩
    have := h.setFile hf hG hB
    exact ⟨rfl, _, this.1, this.2⟩

theorem aheadPut (xs : Array Value) (w : World) : (nilAhead 227 82 (.agg xs) "vestibule/disk.do").run Try.prog w = .ok (some false) w := by kernel_rfl
theorem aheadTrim (xs : Array Value) (w : World) : (nilAhead 227 84 (.agg xs) "vestibule/disk.do").run Try.prog w = .ok (some false) w := by kernel_rfl
theorem methPut (xs : Array Value) (w : World) : (method 227 82 (.agg xs) "vestibule/disk.do").run Try.prog w = .ok (76, .agg xs) w := by kernel_rfl
theorem methTrim (xs : Array Value) (w : World) : (method 227 84 (.agg xs) "vestibule/disk.do").run Try.prog w = .ok (77, .agg xs) w := by kernel_rfl

set_option maxHeartbeats 1000000 in
theorem do_any (o : RawOp) (S : Nat → Prop) (d : Nat) (ops : List RawOp) (w : World) (h : DiskAt S d ops w) (ho : o.Ok (play ops)) (hlen : ops.length ≤ 4398046511104) :
    Calls Try.prog 37 #[.pointer (some ⟨d, 0, none⟩), o.val] w fun e w' => e = .returned (.tuple #[]) ∧ DiskAt (More S w.heap.size) d (ops ++ [o]) w' ∧ Kept S w w' := by
  obtain ⟨hok, vs, h⟩ := h
  have hF := play_length hok
  obtain ⟨t, xs, g, hv, htg, hc⟩ := fileDo o S d (play ops) ops vs w.drew (h.kept (w' := w.drew) (T := fun _ => False) ⟨rfl, rfl, rfl, Nat.le_refl _, fun _ _ _ => rfl⟩ (fun _ _ _ => id)) hF ho
  have HD := Lib.hid h; clear h
  have HO := Lib.hid ho; clear ho
  have HF := Lib.hid hF; clear hF
  have HC := Lib.hid hc; clear hc
  have HV := Lib.hid hv
  rw [hv]
  clear hv
  rcases htg with ⟨rfl, rfl⟩ | ⟨rfl, rfl⟩
  · have ha := aheadPut xs
    have hm := methPut xs
    go_enter Try.func37, Try.ntmps37
    go_wp2
    go_region_with (go_at_call 76; refine HC.out.mono ?_; rintro e w1 ⟨rfl, h1⟩)
    obtain ⟨vs', h1, hk1⟩ := h1
    have hcx : (w1.alloc (.cells #[Value.iface 82 (.agg xs)] 78)).cell? ⟨w1.heap.size, 0, none⟩ = some o.val := by
      rw [Lib.cell_of_heap (heap_alloc_new w1 _), HV.out]; rfl
    have h2 := h1.below (w' := w1.alloc (.cells #[Value.iface 82 (.agg xs)] 78)) ((Below.refl _ _).alloc (Nat.le_refl _) _)
    obtain ⟨v', w3, hr, how, hG⟩ := append_done (w1.alloc (.cells #[Value.iface 82 (.agg xs)] 78)) (vs' 4) ops o h2.done hlen ⟨w1.heap.size, 0, none⟩ 1 hcx 57
    obtain ⟨gg, nn, cc, rfl⟩ : ∃ gg nn cc, v' = .slice gg nn cc := by
      rcases how.2 with ⟨rfl, _⟩ | ⟨g, cap, cur, rfl, _⟩
      · exact ⟨_, _, _, rfl⟩
      · exact ⟨_, _, _, rfl⟩
    have c5 : w1.cell? ⟨d, 5, none⟩ = some (vs' 4) := h1.cellV (i := 4) (by omega)
    have hdlt := h1.lt
    have hb3 : w3.heap[d]? = some (.cells #[.pointer (some ⟨d, 0, none⟩), vs' 0, vs' 1, vs' 2, vs' 3, vs' 4] 59 (0, 0)) := by
      rw [hG.1.block d (by simp; omega) (fun e => (h1.foot 4 d (by omega) e.symm).2 rfl), Below.heap_alloc w1 _ d hdlt]
      exact h1.blk
    have d5 : w3.cell? ⟨d, 5, none⟩ = some (vs' 4) := by rw [Lib.cell_of_heap hb3]; rfl
    have f5 : w3.frozen? ⟨d, 5, none⟩ = false := Lib.frozen_of_heap hb3 5
    have h4 := h2.setDone hG how
    have H4 := Lib.hid h4; clear h4
    have HG := Lib.hid hG; clear hG
    have HW := Lib.hid how; clear how
    have HX := Lib.hid hcx; clear hcx
    have H2 := Lib.hid h2; clear h2
    have H1 := Lib.hid h1; clear h1
    have HK1 := Lib.hid hk1; clear hk1
    have HB3 := Lib.hid hb3; clear hb3
    go_wp2_with (at_builtin; refine Lib.wpList_append_run _ rfl _ _ 57 57 rfl _ _ rfl rfl _ _ hr ?_)
    go_end0
    have hsz : w.heap.size ≤ w1.heap.size := HK1.out.size
    have hk : Kept S w (w1.alloc (.cells #[Value.iface 82 (.agg xs)] 78)) := (Kept.trans' (S := S) ⟨HK1.out.os, HK1.out.tape, HK1.out.output, hsz, HK1.out.block⟩ (Kept.ofBelow ((Below.refl _ w1).alloc (Nat.le_refl _) _)))
    refine ⟨rfl, ⟨okAll_snoc hok HO.out, upd vs' 4 (.slice gg nn cc), ?_⟩, hk.trans' H4.out.2⟩
    rw [play_snoc]
    refine H4.out.1.mono ?_
    intro i hi
    rcases hi with hi | hi
    · exact hi
    · refine .inr ?_
      simp at hi
      omega
  · have ha := aheadTrim xs
    have hm := methTrim xs
    go_enter Try.func37, Try.ntmps37
    go_wp2
    go_region_with (go_at_call 77; refine HC.out.mono ?_; rintro e w1 ⟨rfl, h1⟩)
    obtain ⟨vs', h1, hk1⟩ := h1
    have hcx : (w1.alloc (.cells #[Value.iface 84 (.agg xs)] 78)).cell? ⟨w1.heap.size, 0, none⟩ = some o.val := by
      rw [Lib.cell_of_heap (heap_alloc_new w1 _), HV.out]; rfl
    have h2 := h1.below (w' := w1.alloc (.cells #[Value.iface 84 (.agg xs)] 78)) ((Below.refl _ _).alloc (Nat.le_refl _) _)
    obtain ⟨v', w3, hr, how, hG⟩ := append_done (w1.alloc (.cells #[Value.iface 84 (.agg xs)] 78)) (vs' 4) ops o h2.done hlen ⟨w1.heap.size, 0, none⟩ 1 hcx 57
    obtain ⟨gg, nn, cc, rfl⟩ : ∃ gg nn cc, v' = .slice gg nn cc := by
      rcases how.2 with ⟨rfl, _⟩ | ⟨g, cap, cur, rfl, _⟩
      · exact ⟨_, _, _, rfl⟩
      · exact ⟨_, _, _, rfl⟩
    have c5 : w1.cell? ⟨d, 5, none⟩ = some (vs' 4) := h1.cellV (i := 4) (by omega)
    have hdlt := h1.lt
    have hb3 : w3.heap[d]? = some (.cells #[.pointer (some ⟨d, 0, none⟩), vs' 0, vs' 1, vs' 2, vs' 3, vs' 4] 59 (0, 0)) := by
      rw [hG.1.block d (by simp; omega) (fun e => (h1.foot 4 d (by omega) e.symm).2 rfl), Below.heap_alloc w1 _ d hdlt]
      exact h1.blk
    have d5 : w3.cell? ⟨d, 5, none⟩ = some (vs' 4) := by rw [Lib.cell_of_heap hb3]; rfl
    have f5 : w3.frozen? ⟨d, 5, none⟩ = false := Lib.frozen_of_heap hb3 5
    have h4 := h2.setDone hG how
    have H4 := Lib.hid h4; clear h4
    have HG := Lib.hid hG; clear hG
    have HW := Lib.hid how; clear how
    have HX := Lib.hid hcx; clear hcx
    have H2 := Lib.hid h2; clear h2
    have H1 := Lib.hid h1; clear h1
    have HK1 := Lib.hid hk1; clear hk1
    have HB3 := Lib.hid hb3; clear hb3
    go_wp2_with (at_builtin; refine Lib.wpList_append_run _ rfl _ _ 57 57 rfl _ _ rfl rfl _ _ hr ?_)
    go_end0
    have hsz : w.heap.size ≤ w1.heap.size := HK1.out.size
    have hk : Kept S w (w1.alloc (.cells #[Value.iface 84 (.agg xs)] 78)) := (Kept.trans' (S := S) ⟨HK1.out.os, HK1.out.tape, HK1.out.output, hsz, HK1.out.block⟩ (Kept.ofBelow ((Below.refl _ w1).alloc (Nat.le_refl _) _)))
    refine ⟨rfl, ⟨okAll_snoc hok HO.out, upd vs' 4 (.slice gg nn cc), ?_⟩, hk.trans' H4.out.2⟩
    rw [play_snoc]
    refine H4.out.1.mono ?_
    intro i hi
    rcases hi with hi | hi
    · exact hi
    · refine .inr ?_
      simp at hi
      omega
end Go.Proofs.Ytnmeobbbcccgjaa
