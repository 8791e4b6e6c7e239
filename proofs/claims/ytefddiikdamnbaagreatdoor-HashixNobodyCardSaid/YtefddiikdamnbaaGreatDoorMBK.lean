/- Texts of the same proof, one behind the other: XT, XU, XV, XW, XX. -/
import Derived.Test.YtefddiikdamnbaaGreatDoorMBJ
import Derived.Test.YtefddiikdamnbaaGreatDoorMAH
/- Contracts: pages are taken, pages are given back. -/
set_option maxRecDepth 100000
namespace Go.Proofs.YtefddiikdamnbaaGreatDoor.Dm
open Go Go.RowKit

/-- Numbers in a row of one's own. -/
def NumsI (w : World) (v : Value) (l : List Nat) : Prop := w.ownsRow 0 3 1 v l.length (l.map fun k : Nat => Value.int .i64 (k : Int))
theorem NumsI.nil (w : World) : NumsI w (.slice none 0 0) [] := World.ownsRow_nil _ _ _ _
theorem NumsI.block {w : World} {v : Value} {l : List Nat} (h : NumsI w v l) : ∀ k, v.ownBlock = some k → ∃ cur, w.heap[k]? = some (.cells cur 3 (0, 0)) := by
  intro k hk
  rcases h.2 with ⟨rfl, _⟩ | ⟨g, cap, cur, rfl, _, hh, _⟩
  · simp [Value.ownBlock] at hk
  · simp only [Value.ownBlock, Option.some.injEq] at hk
    subst hk
    exact ⟨_, hh⟩
theorem NumsI.shape {w : World} {v : Value} {l : List Nat} (h : NumsI w v l) : ∃ a c, v = .slice a l.length c := by
  rcases h.2 with ⟨rfl, h0⟩ | ⟨g, cap, cur, rfl, _⟩
  · exact ⟨none, 0, by rw [h0]⟩
  · exact ⟨_, _, rfl⟩
theorem nums_push (w : World) (v : Value) (l : List Nat) (x : Nat) (h : NumsI w v l) (hl : l.length ≤ 1000000) (ty : TypeId) :
    ∃ v' w', (Builtin.append_ #[57, 57] ty #[v, .slice (some ⟨w.heap.size, 0, none⟩) 1 1]).run Tryz.prog (w.alloc (.cells #[.int .i64 x] 3)) = .ok v' w' ∧ NumsI w' v' (l ++ [x]) ∧ Grew (w.alloc (.cells #[.int .i64 x] 3)) w' v v' := by
  obtain ⟨i0, hi, q0, q1, q2⟩ := info_parts infoInt
  have hb := (Below.refl w.heap.size w).alloc (Nat.le_refl _) (.cells #[.int .i64 x] 3)
  have hn := heap_alloc_new w (.cells #[.int .i64 x] 3)
  have h2 : NumsI (w.alloc (.cells #[.int .i64 x] 3)) v l := ownsRow_of_block h (fun k hk => by
    obtain ⟨cur, hc⟩ := h.block k hk
    exact hb.block k (Array.getElem?_eq_some_iff.1 hc).1)
  obtain ⟨v', w', hr, h1, h3⟩ := append_own2 (w.alloc (.cells #[.int .i64 x] 3)) 57 ty 3 i0 (.int .i64 0) 1 8 Tryz.underlying57 hi q0 q1 q2 rfl (by decide) v l.length _ h2 ⟨w.heap.size, 0, none⟩ 1 1 [.int .i64 x] rfl (fun j u hu => by
    match j, hu with
    | 0, hu => rw [Addr.add_lit, Nat.zero_add, Lib.cell_of_heap hn]; simpa using hu
    | j + 1, hu => simp at hu) (fun u hu => by rw [List.mem_singleton] at hu; subst hu; rfl) (by unfold maxLen; omega) (by omega) (by omega)
  refine ⟨v', w', hr, ?_, h3⟩
  unfold NumsI
  rw [List.length_append, List.map_append]
  exact h1

theorem NumsI.kept {T : Nat → Prop} {w w' : World} {v : Value} {l : List Nat} (h : NumsI w v l) (hk : Kept T w w') (hT : ∀ g, v.ownBlock = some g → ¬ T g) : NumsI w' v l := ownsRow_of_block h (fun k hv => by
  obtain ⟨cur, hc⟩ := h.block k hv
  exact hk.block k (Array.getElem?_eq_some_iff.1 hc).1 (hT k hv))
/-- Pages were taken. -/
structure Took (h : Hd) (G : Nat → List UInt8) (ps : List Nat) (h' : Hd) (G' : Nat → List UInt8) : Prop where
  has : ∀ j, h'.has j ↔ h.has j ∨ j ∈ ps
  new : ∀ q ∈ ps, ¬ h.has q ∧ q < 4096
  nd : ps.Nodup
  roots : h'.roots = h.roots
  G : ∀ q, h.has q → G' q = G q
  len : ∀ q ∈ ps, (G' q).length = 512
theorem Took.nil (h : Hd) (G : Nat → List UInt8) : Took h G [] h G := ⟨fun j => by simp, (fun q hq => by cases hq), List.nodup_nil, rfl, fun _ _ => rfl, (fun q hq => by cases hq)⟩
theorem Took.snoc {h h' h'' : Hd} {G G' : Nat → List UInt8} {ps : List Nat} {q : Nat} (t : Took h G ps h' G') (k : h'.Ok) (hn : h'.NextIs q h'') : Took h G (ps ++ [q]) h'' (upd G' q noughts) := by
  obtain ⟨s1, s2, s3, s4, s5, s6⟩ := hn.spec k
  refine ⟨fun j => ?_, fun p hp => ?_, ?_, s6.trans t.roots, fun p hp => ?_, fun p hp => ?_⟩
  · rw [s5, t.has, List.mem_append, List.mem_singleton, or_assoc]
  · rcases List.mem_append.1 hp with hp | hp
    · exact t.new p hp
    · rw [List.mem_singleton.1 hp]
      exact ⟨fun hh => s4 ((t.has q).2 (.inl hh)), s3⟩
  · refine List.nodup_append.2 ⟨t.nd, by simp, fun a ha b hb e => ?_⟩
    rw [List.mem_singleton] at hb
    subst hb
    subst e
    exact s4 ((t.has a).2 (.inr ha))
  · have hpq : p ≠ q := fun e => s4 (e ▸ (t.has p).2 (.inl hp))
    rw [upd_other _ _ hpq]
    exact t.G p hp
  · by_cases hpq : p = q
    · rw [hpq, upd_same]; exact noughts_length
    · rw [upd_other _ _ hpq]
      rcases List.mem_append.1 hp with hp | hp
      · exact t.len p hp
      · exact absurd (List.mem_singleton.1 hp) hpq

section
variable {J : List RawOp → Prop} {B : Nat} {S : Nat → Prop} {c : Ac} {h : Hd} {G : Nat → List UInt8} {w : World} {hb r : Nat}
/-- What alloc leaves. -/
def AlPost (J : List RawOp → Prop) (B : Nat) (S : Nat → Prop) (c : Ac) (h : Hd) (G : Nat → List UInt8) (w : World) (n : Nat) (e : Ending) (w' : World) : Prop :=
  ∃ v ps h' G' S', e = .returned (.tuple #[v, .bool true]) ∧ ps.length = n ∧ Took h G ps h' G' ∧ NumsI w' v ps ∧ (∀ g, v.ownBlock = some g → ¬ S' g ∧ w.heap.size ≤ g) ∧ Turn S w S' w' ∧ ActV J B S' c h' G' w'
set_option maxHeartbeats 3200000 in
theorem alloc_h (x : ActV J B S c h G w) (ht : HxAt w hb c.a r) (hS : ¬ S hb) (n : Nat) (L : List Nat) (hL : ∀ q, h.has q → q ∈ L) (hn : L.length + n ≤ 4094) : Calls Tryz.prog 148 #[.pointer (some ⟨hb, 0, none⟩), .int .i64 n] w (AlPost J B S c h G w n) := by
  have HT := Lib.hid ht
  have HSb := Lib.hid hS
  have HL := Lib.hid hL
  have H0 : Hid (∃ ps h' G' S', ps.length = 0 ∧ Took h G ps h' G' ∧ NumsI w (.slice none 0 0) ps ∧ (∀ g, (Value.slice none 0 0).ownBlock = some g → ¬ S' g ∧ w.heap.size ≤ g) ∧ Turn S w S' w ∧ ActV J B S' c h' G' w) := Lib.hid ⟨[], h, G, S, rfl, Took.nil h G, NumsI.nil w, fun g hg => by simp [Value.ownBlock] at hg, Turn.refl S w, x⟩
  clear x ht hS hL
  go_enter Tryz.func148, Tryz.ntmps148
  go_wp2
  go_loopw [6, 10] (fun v vi wr => ∃ (k : Nat) (a : Option Addr) (cp : Nat), vi = .int .i64 k ∧ v = .slice a k cp ∧ k ≤ n ∧ Hid (∃ ps h' G' S', ps.length = k ∧ Took h G ps h' G' ∧ NumsI wr (.slice a k cp) ps ∧ (∀ g, (Value.slice a k cp).ownBlock = some g → ¬ S' g ∧ w.heap.size ≤ g) ∧ Turn S w S' wr ∧ ActV J B S' c h' G' wr)) (fun _ vi _ => n - (intOf vi).toNat)
  case atStart => exact ⟨0, none, 0, rfl, rfl, by omega, H0⟩
  case round =>
    clear H0
    obtain ⟨k, va, cp, rfl, rfl, hk, HR⟩ := hrel
    obtain ⟨v, hv⟩ : ∃ v, v = Value.slice va k cp := ⟨_, rfl⟩
    rw [← hv] at HR
    by_cases hlt : k < n
    · have hlt' : (k : Int) < (n : Int) := by omega
      obtain ⟨ps, h1, G1, S1, hps, tk, nu, ow, tu, x1⟩ := HR.out
      have hsz := tu.1.size
      have hhl := HT.out.lt
      have nsb : ¬ S1 hb := fun hs => HSb.out (tu.2 hb hhl hs)
      have ht1 := HT.out.kept tu.1 HSb.out
      have c1 := ht1.c1
      have hsp : ¬ ((∀ j, h1.isFree j = false) ∧ h1.count = 4095) := spare_of (L := L ++ ps) (fun q hq => by
        rcases (tk.has q).1 hq with h2 | h2
        · exact List.mem_append_left _ (HL.out q h2)
        · exact List.mem_append_right _ h2) (by rw [List.length_append]; omega)
      have HAL := Lib.hid (alloc_v x1)
      have HST := Lib.hid (And.intro hps (And.intro tk (And.intro nu (And.intro ow (And.intro tu (And.intro x1 hsp))))))
      clear hps tk nu ow tu x1 hsp HR nsb ht1
      go_wp2_with fail
      refine HAL.out.mono ?_
      obtain ⟨hps, tk, nu, ow, tu, x1, hsp⟩ := HST.out
      rintro e w1 (⟨q, h2, hnx, rfl, S2, hT2, x2⟩ | ⟨f1, f2, _, _⟩)
      · have nu2 := nu.kept hT2.1 (fun g hg => (ow g hg).1)
        obtain ⟨v', w3, hr3, nu3, gw⟩ := nums_push w1 v ps q nu2 (by omega) 57
        have hal : Below w1.heap.size w1 (w1.alloc (.cells #[.int .i64 q] 3)) := (Below.refl _ _).alloc (Nat.le_refl _) _
        have hvb : ∀ g, v.ownBlock = some g → ¬ S2 g := fun g hg hs => by
          obtain ⟨cur, hc⟩ := nu.block g hg
          exact (ow g hg).1 (hT2.2 g (Array.getElem?_eq_some_iff.1 hc).1 hs)
        have hk3 : Kept (fun g => v.ownBlock = some g) w1 w3 := by
          have g1 : Kept (fun g => v.ownBlock = some g) (w1.alloc (.cells #[.int .i64 q] 3)) w3 := ⟨gw.1.os, gw.1.tape, gw.1.output, gw.1.size, fun i hi hne => gw.1.block i hi (fun e => hne e.symm)⟩
          exact (Kept.ofBelow hal).trans g1 (fun _ e => .inl e)
        have x3 : ActV J B S2 c h2 (upd G1 q noughts) w3 := x2.kept hk3 (fun g hg _ => ⟨hvb g hg, by have := (ow g hg).2; have := HT.out.lt; omega⟩)
        have tu3 : Turn S w S2 w3 := by
          have t1 := tu.trans hT2
          refine ⟨⟨hk3.os.trans t1.1.os, hk3.tape.trans t1.1.tape, hk3.output.trans t1.1.output, Nat.le_trans t1.1.size hk3.size, fun j hj hs => ?_⟩, t1.2⟩
          rw [hk3.block j (Nat.lt_of_lt_of_le hj t1.1.size) (fun e => by have := (ow j e).2; omega)]
          exact t1.1.block j hj hs
        have ow3 : ∀ g, v'.ownBlock = some g → ¬ S2 g ∧ w.heap.size ≤ g := fun g hg => by
          rcases gw.2 g hg with h3 | h3
          · exact ⟨hvb g h3, (ow g h3).2⟩
          · rw [World.size_alloc] at h3
            have hz1 := hT2.1.size
            exact ⟨fun hs => by have := (x2.low g hs).2; omega, by omega⟩
        obtain ⟨a3, c3, hv3⟩ := nu3.shape
        rw [List.length_append, List.length_singleton, hps] at hv3
        subst hv3
        rw [hv] at hr3
        have HR3 := Lib.hid hr3
        have HNEW : Hid (∃ ps h' G' S', ps.length = k + 1 ∧ Took h G ps h' G' ∧ NumsI w3 (.slice a3 (k + 1) c3) ps ∧ (∀ g, (Value.slice a3 (k + 1) c3).ownBlock = some g → ¬ S' g ∧ w.heap.size ≤ g) ∧ Turn S w S' w3 ∧ ActV J B S' c h' G' w3) := Lib.hid ⟨ps ++ [q], h2, _, S2, by simp [hps], tk.snoc x1.ok hnx, nu3, ow3, tu3, x3⟩
        clear hps tk nu ow tu x1 hsp hnx hT2 x2 nu2 hr3 nu3 gw hal hvb hk3 x3 tu3 ow3 HST HAL hv
        go_wp2_with (at_builtin; refine Lib.wpList_append_run _ rfl _ _ 57 57 rfl _ _ rfl rfl _ _ HR3.out ?_)
        go_roundw
        case rel => exact ⟨k + 1, a3, c3, by go_num, rfl, by omega, HNEW⟩
        case measure => simp [intOf]; omega
      · exact absurd ⟨f1, f2⟩ hsp
    · obtain rfl : k = n := by omega
      rw [hv] at HR
      have HR2 := HR
      clear HR hv
      go_wp2
      go_ret2
      obtain ⟨ps, h1, G1, S1, hps, tk, nu, ow, tu, x1⟩ := HR2.out
      exact ⟨_, ps, h1, G1, S1, rfl, hps, tk, nu, ow, tu, x1⟩
end
end Go.Proofs.YtefddiikdamnbaaGreatDoor.Dm

/- Contracts: pages are given back; a bucket grows. -/
set_option maxRecDepth 100000
namespace Go.Proofs.YtefddiikdamnbaaGreatDoor.Dm
open Go Go.RowKit

/-- Page numbers that lie in memory beside S. -/
def PgsAt (S : Nat → Prop) (w : World) (v : Value) (ps : List Nat) : Prop :=
  ∃ a cp, v = .slice a ps.length cp ∧ (ps = [] ∨ ∃ g o, a = some ⟨g, o, none⟩ ∧ ¬ S g ∧ g < w.heap.size ∧ ∀ j q, ps[j]? = some q → w.cell? ⟨g, o + j, none⟩ = some (.int .i64 (q : Nat)))
theorem PgsAt.turn {S S' : Nat → Prop} {w w' : World} {v : Value} {ps : List Nat} (h : PgsAt S w v ps) (t : Turn S w S' w') : PgsAt S' w' v ps := by
  obtain ⟨a, cp, rfl, h0 | ⟨g, o, rfl, hS, hl, hc⟩⟩ := h
  · exact ⟨a, cp, rfl, .inl h0⟩
  · exact ⟨_, cp, rfl, .inr ⟨g, o, rfl, fun hs => hS (t.2 g hl hs), Nat.lt_of_lt_of_le hl t.1.size, fun j q hq => (World.cell?_of_block (w := w) (a := ⟨g, o + j, none⟩) (t.1.block g hl hS)).trans (hc j q hq)⟩⟩
theorem NumsI.pgs {S : Nat → Prop} {w : World} {v : Value} {ps : List Nat} (h : NumsI w v ps) (hS : ∀ g, v.ownBlock = some g → ¬ S g) : PgsAt S w v ps := by
  obtain ⟨a, cp, rfl⟩ := h.shape
  refine ⟨a, cp, rfl, ?_⟩
  rcases h.2 with ⟨_, h0⟩ | ⟨g, cap, cur, hv, _, hg, _⟩
  · exact .inl (List.eq_nil_of_length_eq_zero h0)
  · injection hv with hv _ _
    subst hv
    refine .inr ⟨g, 0, rfl, hS g rfl, (Array.getElem?_eq_some_iff.1 hg).1, fun j q hq => ?_⟩
    have := World.ownsRow.cells (w := w) h (g := g) rfl j (.int .i64 (q : Int)) (by simp [hq])
    rw [Addr.add_lit] at this
    rw [Nat.zero_add] at this ⊢
    exact this
/-- Pages were given back. -/
structure Gave (h : Hd) (ps : List Nat) (h' : Hd) : Prop where
  has : ∀ j, h'.has j ↔ h.has j ∧ j ∉ ps
  roots : h'.roots = h.roots
section
variable {J : List RawOp → Prop} {B : Nat} {S : Nat → Prop} {c : Ac} {h : Hd} {G : Nat → List UInt8} {w : World} {hb r : Nat}
end
end Go.Proofs.YtefddiikdamnbaaGreatDoor.Dm

/- Contract: a bucket grows by a sheet. -/
set_option maxRecDepth 100000
namespace Go.Proofs.YtefddiikdamnbaaGreatDoor.Dm
open Go Go.RowKit

section
variable {J : List RawOp → Prop} {B : Nat} {S : Nat → Prop} {c : Ac} {h : Hd} {G : Nat → List UInt8} {w : World} {hb r tb pg n cnt : Nat} {F : Nat → Nat}
/-- What grow leaves: a sheet of its own, which the bucket begins with. -/
def GrPost (J : List RawOp → Prop) (B : Nat) (S : Nat → Prop) (c : Ac) (h : Hd) (G : Nat → List UInt8) (w : World) (r tb pg n cnt : Nat) (F : Nat → Nat) (b : Nat) (e : Ending) (w' : World) : Prop :=
  ∃ sb q h1 h' G' S' pg' ps, e = .returned (.pointer (some ⟨sb, 0, none⟩)) ∧ w.heap.size ≤ sb ∧ ¬ S' sb ∧ ¬ S' tb ∧ Took h G ps h1 G' ∧
    ((pg ≠ 0 ∧ ps = [q] ∧ h' = h1 ∧ pg' = pg) ∨ (pg = 0 ∧ ps = [q, pg'] ∧ h' = h1.setRoot r pg')) ∧
    HsAt w' sb q (F b) [] ∧ TbAt w' tb pg' n cnt (upd F b q) ∧ TurnX (fun k => k = tb) S w S' w' ∧ ActV J B S' c h' G' w'
set_option maxHeartbeats 3200000 in
theorem grow_some (x : ActV J B S c h G w) (ht : HxAt w hb c.a r) (hS : ¬ S hb) (hT : TbAt w tb pg n cnt F) (hSt : ¬ S tb) (ht1 : 1 ≤ tb) (hpg : pg ≠ 0) (b : Nat) (hb2 : b < 250) (L : List Nat) (hL : ∀ q, h.has q → q ∈ L) (hn : L.length + 1 ≤ 4094) :
    Calls Tryz.prog 143 #[.pointer (some ⟨hb, 0, none⟩), .pointer (some ⟨tb, 0, none⟩), .int .i64 b] w (GrPost J B S c h G w r tb pg n cnt F b) := by
  have HAL := Lib.hid (alloc_h x ht hS 1 L hL hn)
  obtain ⟨t0, _, _⟩ := hT.cells
  have HT := Lib.hid hT
  have HSt := Lib.hid hSt
  have HX := Lib.hid x
  have hp0 : ¬ (pg : Int) = 0 := by omega
  have a0 : (0 : Int) ≤ (b : Int) := by omega
  have a1 : (b : Int) < 250 := by omega
  clear x ht hS hT hSt hL hn
  go_enter Tryz.func143, Tryz.ntmps143
  go_wp2_with fail
  refine HAL.out.mono ?_
  rintro e w1 ⟨v, ps, h1, G1, S1, rfl, hps, tk, nu, ow, tu, x1⟩
  obtain ⟨q, rfl⟩ : ∃ q, ps = [q] := by
    match ps, hps with
    | [q], _ => exact ⟨q, rfl⟩
  obtain ⟨va, vc, rfl, h0 | ⟨g, o, rfl, hSg, hgl, hcc⟩⟩ := nu.pgs (fun g hg => (ow g hg).1)
  · cases h0
  have cq := hcc 0 q rfl
  rw [Nat.add_zero] at cq
  have hT1 := HT.out.kept tu.1 HSt.out
  obtain ⟨t1, _, _⟩ := hT1.cells
  have tf := hT1.first hb2
  have tz := hT1.frozen (3 + b)
  have tl := hT1.lt
  have hqt : q < 4096 := (tk.new q (by simp)).2
  have hz1 := tu.1.size
  have HE : Hid (∀ w2, Below w1.heap.size w1 w2 → HsAt w2 w1.heap.size q (F b) [] → GrPost J B S c h G w r tb pg n cnt F b (.returned (.pointer (some ⟨w1.heap.size, 0, none⟩))) (w2.setCell ⟨tb, 3 + b, none⟩ (.int .i64 q))) := Lib.hid fun w2 hb2' hsb => by
    have hkc : Kept (fun k => k = tb) w2 (w2.setCell ⟨tb, 3 + b, none⟩ (.int .i64 q)) := Kept.setCell (fun k => k = tb) w2 (b := tb) (i := 3 + b) rfl _
    have nst : ¬ S1 tb := fun hs => HSt.out (tu.2 tb HT.out.lt hs)
    have htl : tb < w.heap.size := HT.out.lt
    have x2 := x1.below hb2'
    refine ⟨w1.heap.size, q, h1, h1, G1, S1, pg, [q], rfl, hz1, fun hs => by have := (x1.low _ hs).2; omega, nst, tk, .inl ⟨hpg, rfl, rfl, rfl⟩, hsb.kept hkc (by omega), (hT1.below hb2').setF b q, ⟨?_, fun k hk hs => tu.2 k hk hs⟩, x2.kept hkc (fun k e hk => by have e' : k = tb := e; rw [e']; exact ⟨nst, ht1⟩)⟩
    have k1 : Kept (fun k => S k ∨ k = tb) w w1 := tu.1.mono (fun _ h => .inl h)
    exact (k1.trans (Kept.ofBelow hb2') (fun _ e => .inl e)).trans hkc (fun _ e => .inl (.inr e))
  have HT1 := Lib.hid hT1
  clear hps tk nu ow tu x1 hSg hT1 HT HSt HX HAL t0
  clear hcc
  obtain ⟨W2, hW2⟩ : ∃ W2, W2 = (w1.alloc (.cells #[.int .i64 q, .int .i64 (F b : Nat), .string ⟨#[]⟩] 197)).drew := ⟨_, rfl⟩
  have hbw : Below w1.heap.size w1 W2 := by rw [hW2]; exact ((Below.refl _ _).alloc (Nat.le_refl _) _).drew
  have hrow : W2.heap[w1.heap.size]? = some (.cells #[.int .i64 q, .int .i64 (F b : Nat), .string ⟨#[]⟩] 197 (0, 0)) := by rw [hW2]; exact heap_alloc_new w1 _
  have d0 : W2.cell? ⟨w1.heap.size, 0, none⟩ = some (.int .i64 q) := (Lib.cell_of_heap hrow _).trans rfl
  have tf2 : W2.cell? ⟨tb, 3 + b, none⟩ = some (.int .i64 (F b : Nat)) := (hbw.cell (p := ⟨tb, 3 + b, none⟩) tl).trans tf
  have tz2 : W2.frozen? ⟨tb, 3 + b, none⟩ = false := (TbAt.below HT1.out hbw).frozen (3 + b)
  have HE2 : Hid (∀ i, GrPost J B S c h G w r tb pg n cnt F b (.returned (.pointer (some ⟨w1.heap.size, 0, none⟩))) ((W2.drewN i).setCell ⟨tb, 3 + b, none⟩ (.int .i64 q))) := Lib.hid fun i => HE.out _ (hbw.trans ((below_drewN W2 i).mono hbw.size)) (HsAt.below hrow (below_drewN W2 i))
  have HW2 := Lib.hid hW2
  clear hbw hrow hW2
  go_wp2_with fail
  go_still_tail 10, (by kernel_rfl)
  go_wp2_with fail
  rw [← HW2.out]
  go_still_tail 9, (by kernel_rfl)
  go_wp2
  go_ret
  exact HE2.out _
set_option maxHeartbeats 3200000 in
theorem grow_none (x : ActV J B S c h G w) (ht : HxAt w hb c.a r) (hS : ¬ S hb) (hr : r < 16) (hT : TbAt w tb 0 n cnt F) (hSt : ¬ S tb) (ht1 : 1 ≤ tb) (hne : hb ≠ tb) (b : Nat) (hb2 : b < 250) (L : List Nat) (hL : ∀ q, h.has q → q ∈ L) (hn : L.length + 2 ≤ 4094) :
    Calls Tryz.prog 143 #[.pointer (some ⟨hb, 0, none⟩), .pointer (some ⟨tb, 0, none⟩), .int .i64 b] w (GrPost J B S c h G w r tb 0 n cnt F b) := by
  have HAL := Lib.hid (alloc_h x ht hS 2 L hL hn)
  obtain ⟨t0, _, _⟩ := hT.cells
  have t0' : w.cell? ⟨tb, 0, none⟩ = some (.int .i64 0) := t0
  have HT := Lib.hid hT
  have HSt := Lib.hid hSt
  have HH := Lib.hid (And.intro ht hS)
  have a0 : (0 : Int) ≤ (b : Int) := by omega
  have a1 : (b : Int) < 250 := by omega
  clear x ht hS hT hSt hL hn t0
  go_enter Tryz.func143, Tryz.ntmps143
  go_wp2_with fail
  refine HAL.out.mono ?_
  rintro e w1 ⟨v, ps, h1, G1, S1, rfl, hps, tk, nu, ow, tu, x1⟩
  obtain ⟨q, p2, rfl⟩ : ∃ q p2, ps = [q, p2] := by
    match ps, hps with
    | [q, p2], _ => exact ⟨q, p2, rfl⟩
  have hpv := nu.pgs (S := S1) (fun g hg => (ow g hg).1)
  obtain ⟨va, vc, rfl, h0 | ⟨g, o, rfl, hSg, hgl, hcc⟩⟩ := hpv
  · cases h0
  have hgo : w.heap.size ≤ g := (ow g (by simp [Value.ownBlock])).2
  have cq0 := hcc 1 p2 rfl
  have hT1 := HT.out.kept tu.1 HSt.out
  obtain ⟨t1, _, _⟩ := hT1.cells
  have t1' : w1.cell? ⟨tb, 0, none⟩ = some (.int .i64 0) := t1
  have tz := hT1.frozen 0
  have tl := hT1.lt
  have hp2 : p2 < 4096 := (tk.new p2 (by simp)).2
  have hz1 := tu.1.size
  have nst : ¬ S1 tb := fun hs => HSt.out (tu.2 tb HT.out.lt hs)
  have nsh : ¬ S1 hb := fun hs => HH.out.2 (tu.2 hb HH.out.1.lt hs)
  obtain ⟨w2, hw2⟩ : ∃ w2, w2 = w1.setCell ⟨tb, 0, none⟩ (.int .i64 p2) := ⟨_, rfl⟩
  have hkc : Kept (fun k => k = tb) w1 w2 := by rw [hw2]; exact Kept.setCell (fun k => k = tb) w1 (b := tb) (i := 0) rfl _
  have x2 : ActV J B S1 c h1 G1 w2 := x1.kept hkc (fun k e hk => by have e' : k = tb := e; rw [e']; exact ⟨nst, ht1⟩)
  have hT2 : TbAt w2 tb p2 n cnt F := by rw [hw2]; exact hT1.setPage p2
  have hh2 := (HH.out.1.kept tu.1 HH.out.2).kept hkc hne
  have k1 := hh2.c1
  have k2 := hh2.c2
  obtain ⟨s0, _, _⟩ := hT2.cells
  have HSR := Lib.hid (setRoot_v (x2.below (Below.refl _ _).drew) r p2 hr (by omega))
  have htl : tb < w.heap.size := HT.out.lt
  have hpg2 : PgsAt S1 w2 (.slice (some ⟨g, o, none⟩) 2 vc) [q, p2] := ⟨_, vc, rfl, .inr ⟨g, o, rfl, hSg, Nat.lt_of_lt_of_le hgl hkc.size, fun j q' hq' => (World.cell?_of_block (w := w1) (a := ⟨g, o + j, none⟩) (hkc.block g hgl (by omega))).trans (hcc j q' hq')⟩⟩
  have HALL := Lib.hid (And.intro tk (And.intro tu (And.intro hT2 (And.intro hkc (And.intro hpg2 (And.intro nst nsh))))))
  have HW2 := Lib.hid hw2
  clear hps tk nu ow tu x1 hSg hT1 hgl hcc hkc x2 hT2 hh2 hw2 HAL t1 t0' hpg2 nsh
  go_wp2_with fail
  rw [← HW2.out]
  go_still_tail 12, (by kernel_rfl)
  go_wp2_with fail
  refine (HSR.out).mono ?_
  rintro e w3 ⟨rfl, S2, hT3, x3⟩
  obtain ⟨tk, tu, hT2, hkc, hpg2, nst, nsh⟩ := HALL.out
  have hT3' := hT2.kept (w' := w3) ((Kept.ofBelow (S := S1) (Below.refl _ w2).drew).trans hT3.1 (fun _ e => .inl e)) nst
  have hpg3 := (hpg2.turn (Turn.ofBelow (Below.refl _ w2).drew)).turn hT3
  obtain ⟨_, _, hve, h0 | ⟨g', o', hge, hSg, hgl, hcc⟩⟩ := hpg3
  · cases h0
  have e1 := (Value.slice.inj hve).1
  rw [hge] at e1
  have e2 := Option.some.inj e1
  injection e2 with e3 e4 _
  subst e3; subst e4
  have cq := hcc 0 q rfl
  rw [Nat.add_zero] at cq
  have tf := hT3'.first hb2
  have tl3 := hT3'.lt
  have hz3 : w1.heap.size ≤ w3.heap.size := Nat.le_trans hkc.size hT3.1.size
  obtain ⟨W2, hW2⟩ : ∃ W2, W2 = (w3.alloc (.cells #[.int .i64 q, .int .i64 (F b : Nat), .string ⟨#[]⟩] 197)).drew := ⟨_, rfl⟩
  have hbw : Below w3.heap.size w3 W2 := by rw [hW2]; exact ((Below.refl _ _).alloc (Nat.le_refl _) _).drew
  have hrow : W2.heap[w3.heap.size]? = some (.cells #[.int .i64 q, .int .i64 (F b : Nat), .string ⟨#[]⟩] 197 (0, 0)) := by rw [hW2]; exact heap_alloc_new w3 _
  have d0 : W2.cell? ⟨w3.heap.size, 0, none⟩ = some (.int .i64 q) := (Lib.cell_of_heap hrow _).trans rfl
  have tf2 : W2.cell? ⟨tb, 3 + b, none⟩ = some (.int .i64 (F b : Nat)) := (hbw.cell (p := ⟨tb, 3 + b, none⟩) tl3).trans tf
  have tz2 : W2.frozen? ⟨tb, 3 + b, none⟩ = false := (hT3'.below hbw).frozen (3 + b)
  have nst2 : ¬ S2 tb := fun hs => nst (hT3.2 tb hT2.lt hs)
  have HE2 : Hid (∀ i, GrPost J B S c h G w r tb 0 n cnt F b (.returned (.pointer (some ⟨w3.heap.size, 0, none⟩))) ((W2.drewN i).setCell ⟨tb, 3 + b, none⟩ (.int .i64 q))) := Lib.hid fun i => by
    have hb2' := hbw.trans ((below_drewN W2 i).mono hbw.size)
    have hsb : HsAt (W2.drewN i) w3.heap.size q (F b) [] := HsAt.below hrow (below_drewN W2 i)
    have hkc2 : Kept (fun k => k = tb) (W2.drewN i) ((W2.drewN i).setCell ⟨tb, 3 + b, none⟩ (.int .i64 q)) := Kept.setCell (fun k => k = tb) _ (b := tb) (i := 3 + b) rfl _
    refine ⟨w3.heap.size, q, h1, _, G1, S2, p2, [q, p2], rfl, by omega, fun hs => by have := (x3.low _ hs).2; omega, nst2, tk, .inr ⟨rfl, rfl, rfl⟩, hsb.kept hkc2 (by omega), (hT3'.below hb2').setF b q, ⟨?_, fun k hk hs => ?_⟩, (x3.below hb2').kept hkc2 (fun k e hk => by have e' : k = tb := e; rw [e']; exact ⟨nst2, ht1⟩)⟩
    · have k1 : Kept (fun k => S k ∨ k = tb) w w1 := tu.1.mono (fun _ h => .inl h)
      have k3 := (k1.trans hkc (fun _ e => .inl (.inr e))).trans (Kept.ofBelow (S := fun _ => False) (Below.refl _ w2).drew) (fun _ e => e.elim)
      have k4 := k3.trans hT3.1 (fun k hs => by
        by_cases hl : k < w.heap.size
        · exact .inl (.inl (tu.2 k hl hs))
        · exact .inr (by omega))
      exact (k4.trans (Kept.ofBelow (S := fun _ => False) hb2') (fun _ e => e.elim)).trans hkc2 (fun _ e => .inl (.inr e))
    · have h2 := hkc.size
      exact tu.2 k hk (hT3.2 k (Nat.lt_of_lt_of_le hk (Nat.le_trans hz1 h2)) hs)
  have HW3 := Lib.hid hW2
  clear tk tu hT2 hkc hpg2 nst nsh hT3 x3 hT3' hve hge hSg hgl hcc e1 hbw hrow hW2 nst2 HALL HSR k1 k2 s0
  go_wp2_with fail
  go_still_tail 10, (by kernel_rfl)
  go_wp2_with fail
  rw [← HW3.out]
  go_still_tail 9, (by kernel_rfl)
  go_wp2
  go_ret
  exact HE2.out _
end
end Go.Proofs.YtefddiikdamnbaaGreatDoor.Dm

/- Contracts: what is refused first; what is no index answers nothing. -/
set_option maxRecDepth 100000
namespace Go.Proofs.YtefddiikdamnbaaGreatDoor.Dm
open Go Go.RowKit

set_option maxHeartbeats 800000 in
theorem or_errs (b c : Nat) (x y : Int) (w : World) (h0 : w.cell? ⟨b, 0, none⟩ = some (.int .i64 x)) (h1 : w.cell? ⟨b, 1, none⟩ = some (.int .i64 y)) :
    Calls Tryz.prog 83 #[.slice (some ⟨b, 0, none⟩) 2 c] w fun e w' => e = .returned (.int .i64 (if x = 0 then y else x)) ∧ w' = w := by
  go_enter Tryz.func83, Tryz.ntmps83
  go_wp2
  go_loopw [8] (fun i wr => ∃ j : Nat, j ≤ 2 ∧ i = .int .i64 j ∧ wr = w ∧ (1 ≤ j → x = 0) ∧ (2 ≤ j → y = 0)) (fun i _ => 2 - (intOf i).toNat)
  case atStart => exact ⟨0, by omega, rfl, rfl, by omega, by omega⟩
  case round =>
    obtain ⟨j, hj, rfl, rfl, hx, hy⟩ := hrel
    have h3 : j = 0 ∨ j = 1 ∨ j = 2 := by omega
    rcases h3 with rfl | rfl | rfl
    · by_cases hx0 : x = 0
      · subst hx0
        go_wp2
        go_roundw
        case rel => exact ⟨1, by omega, rfl, by simp⟩
        case measure => simp [intOf]
      · have hb : (x != 0) = true := by simp [hx0]
        go_wp2
        go_ret
        exact ⟨by simp, rfl⟩
    · obtain rfl := hx (Nat.le_refl _)
      by_cases hy0 : y = 0
      · subst hy0
        go_wp2
        go_roundw
        case rel => exact ⟨2, by omega, rfl, by simp⟩
        case measure => simp [intOf]
      · have hb : (y != 0) = true := by simp [hy0]
        go_wp2
        go_ret
        exact ⟨by simp, rfl⟩
    · obtain rfl := hx (by omega)
      obtain rfl := hy (by omega)
      go_wp2
      go_ret
      exact ⟨by simp, rfl⟩

/-- What is no index, whatever is made since. -/
def NoHxB (v : Value) (w : World) : Prop := ∀ W, Below w.heap.size w W → NoHx v W
theorem NoHxB.below {v : Value} {w w' : World} (h : NoHxB v w) (hb : Below w.heap.size w w') : NoHxB v w' := fun W hW => h W (hb.trans (hW.mono hb.size))
theorem nohxB_nil (w : World) : NoHxB (.pointer none) w := fun W _ => nohx_nil W
theorem nohx_check (v : Value) (w : World) (h : NoHx v w) : Calls Tryz.prog 36 #[v] w fun e w' => e = .returned (.bool false) ∧ w' = w := by
  have H := Lib.hid (nohx_refuses v w h)
  clear h
  go_enter Tryz.func36, Tryz.ntmps36
  go_wp2_with fail
  refine H.out.mono ?_
  rintro e w1 ⟨rfl, hw⟩
  subst w1
  go_wp2
  go_ret
  exact ⟨rfl, rfl⟩
theorem nohx_drop (v : Value) (w : World) (h : NoHx v w) : Calls Tryz.prog 263 #[v] w fun e w' => e = .returned (.int .i64 1) ∧ w' = w := by
  have H := Lib.hid (nohx_refuses v w h)
  clear h
  go_enter Tryz.func263, Tryz.ntmps263
  go_wp2_with fail
  refine H.out.mono ?_
  rintro e w1 ⟨rfl, hw⟩
  subst w1
  go_wp2
  go_ret
  exact ⟨rfl, rfl⟩
theorem nohx_pages (v : Value) (w : World) (h : NoHx v w) : Calls Tryz.prog 264 #[v] w fun e w' => e = .returned (.slice none 0 0) ∧ w' = w := by
  have H := Lib.hid (nohx_refuses v w h)
  clear h
  go_enter Tryz.func264, Tryz.ntmps264
  go_wp2_with fail
  refine H.out.mono ?_
  rintro e w1 ⟨rfl, hw⟩
  subst w1
  go_wp2
  go_ret
  exact ⟨rfl, rfl⟩
theorem nohx_entries (v : Value) (w : World) (h : NoHx v w) : Calls Tryz.prog 35 #[v] w fun e w' => e = .returned (.slice none 0 0) ∧ w' = w := by
  have H := Lib.hid (nohx_refuses v w h)
  clear h
  go_enter Tryz.func35, Tryz.ntmps35
  go_wp2_with fail
  refine H.out.mono ?_
  rintro e w1 ⟨rfl, hw⟩
  subst w1
  go_wp2
  go_ret
  exact ⟨rfl, rfl⟩
theorem nohx_buckets (v : Value) (w : World) (h : NoHx v w) : Calls Tryz.prog 37 #[v] w fun e w' => e = .returned (.tuple #[.int .i64 0, .int .i64 0]) ∧ w' = w := by
  have H := Lib.hid (nohx_refuses v w h)
  clear h
  go_enter Tryz.func37, Tryz.ntmps37
  go_wp2_with fail
  refine H.out.mono ?_
  rintro e w1 ⟨rfl, hw⟩
  subst w1
  go_wp2
  go_ret2
  exact ⟨rfl, rfl⟩
end Go.Proofs.YtefddiikdamnbaaGreatDoor.Dm

/- Contract: an entry is cut out of a sheet. -/
set_option maxRecDepth 100000
namespace Go.Proofs.YtefddiikdamnbaaGreatDoor.Dm
open Go Go.RowKit

section
variable {w : World} {sb q nx : Nat} {le : List Et}
end
end Go.Proofs.YtefddiikdamnbaaGreatDoor.Dm
