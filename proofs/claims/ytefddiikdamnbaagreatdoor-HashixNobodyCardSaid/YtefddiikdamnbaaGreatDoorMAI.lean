/- Texts of the same proof, one behind the other: SQ, SR, ST, SU, SV, SW. -/
import Derived.Test.YtefddiikdamnbaaGreatDoorMAH
import Derived.Lib.AppendStr
import Derived.Lib.IndexBytes
/- A record of an action: its bytes. -/
set_option maxRecDepth 100000
namespace Go.Proofs.YtefddiikdamnbaaGreatDoor
open Go.RowKit

/-- A patch. -/
structure Pt where
  page : Nat
  at_ : Nat
  s : ByteArray
def Pt.cells (p : Pt) : List Value := [.int .i64 p.page, .int .i64 p.at_, .string p.s]
/-- Patches in a row of their own. -/
def PtsAt (B : Nat) (w : World) (v : Value) (ps : List Pt) : Prop := w.ownsRow B 226 3 v ps.length (ps.flatMap Pt.cells)
theorem PtsAt.below {B : Nat} {w w' : World} {v : Value} {ps : List Pt} (h : PtsAt B w v ps) (hb : Below w.heap.size w w') : PtsAt B w' v ps := ownsRow_below h hb
theorem PtsAt.shape {B : Nat} {w : World} {v : Value} {ps : List Pt} (h : PtsAt B w v ps) : ∃ a c, v = .slice a ps.length c := by
  rcases h.2 with ⟨h1, h0⟩ | ⟨g, cap, cur, hv, _⟩
  · exact ⟨none, 0, by rw [h1, h0]⟩
  · exact ⟨_, cap, hv⟩
theorem flat3 (ps : List Pt) (k : Nat) (hk : k < ps.length) (j : Nat) (hj : j < 3) : (ps.flatMap Pt.cells)[k * 3 + j]? = ps[k].cells[j]? := by
  induction ps generalizing k with
  | nil => simp at hk
  | cons p r ih =>
    rw [List.flatMap_cons]
    have hl : p.cells.length = 3 := rfl
    cases k with
    | zero => rw [List.getElem?_append_left (by omega)]; simp
    | succ k =>
      rw [List.getElem?_append_right (by omega), show (k + 1) * 3 + j - p.cells.length = k * 3 + j by omega, ih k (by simpa using hk)]
      rfl
/-- The cells of one. -/
theorem PtsAt.at {B : Nat} {w : World} {a : Option Addr} {n c : Nat} {ps : List Pt} (h : PtsAt B w (.slice a n c) ps) {k : Nat} (hk : k < ps.length) :
    ∃ g, a = some ⟨g, 0, none⟩ ∧ B ≤ g ∧ g < w.heap.size ∧ w.cell? ⟨g, k * 3, none⟩ = some (.int .i64 ps[k].page) ∧ w.cell? ⟨g, k * 3 + 1, none⟩ = some (.int .i64 ps[k].at_) ∧ w.cell? ⟨g, k * 3 + 2, none⟩ = some (.string ps[k].s) := by
  rcases h.2 with ⟨_, h0⟩ | ⟨g, cap, cur, hv, hB, hg, _⟩
  · omega
  · injection hv with hv _ _
    subst hv
    have hc : ∀ j, j < 3 → w.cell? ⟨g, k * 3 + j, none⟩ = ps[k].cells[j]? := fun j hj => by
      have := h.cells (g := g) rfl (k * 3 + j)
      cases hv : ps[k].cells[j]? with
      | none => have : ps[k].cells.length = 3 := rfl; rw [List.getElem?_eq_none_iff] at hv; omega
      | some u =>
        have := this u (by rw [flat3 ps k hk j hj, hv])
        rwa [add_lit', Nat.zero_add] at this
    exact ⟨g, rfl, hB, (Array.getElem?_eq_some_iff.1 hg).1, hc 0 (by omega), hc 1 (by omega), hc 2 (by omega)⟩

/-- A patch's bytes, a record's. -/
def ptB (p : Pt) : List UInt8 := numB 2 p.page ++ numB 2 p.at_ ++ numB 2 p.s.size ++ p.s.data.toList
def recB (h : Hd) (ps : List Pt) : List UInt8 := hdB h ++ ps.flatMap ptB

end Go.Proofs.YtefddiikdamnbaaGreatDoor

/- What is left of a record that is read: take, number. -/
set_option maxRecDepth 100000
namespace Go.Proofs.YtefddiikdamnbaaGreatDoor
open Go.RowKit

/-- What is left lies at block r. -/
structure RestAt (w : World) (r : Nat) (s : ByteArray) (sh : Bool) : Prop where
  b : w.cell? ⟨r, 0, none⟩ = some (.string s)
  short : w.cell? ⟨r, 1, none⟩ = some (.bool sh)
  froz : ∀ j, w.frozen? ⟨r, j, none⟩ = false
theorem RestAt.lt {w : World} {r : Nat} {s : ByteArray} {sh : Bool} (h : RestAt w r s sh) : r < w.heap.size := World.block_lt_of_cell? w _ h.b
theorem RestAt.block {w w' : World} {r : Nat} {s : ByteArray} {sh : Bool} (h : RestAt w r s sh) (hb : w'.heap[r]? = w.heap[r]?) : RestAt w' r s sh :=
  ⟨(World.cell?_of_block hb).trans h.b, (World.cell?_of_block hb).trans h.short, fun j => (World.frozen?_of_block hb).trans (h.froz j)⟩
theorem RestAt.below {w w' : World} {r : Nat} {s : ByteArray} {sh : Bool} (h : RestAt w r s sh) (hb : Below w.heap.size w w') : RestAt w' r s sh := h.block (hb.block r h.lt)

/-- What is taken, what is left. -/
def rTk (l : List UInt8) (sh : Bool) (n : Nat) : List UInt8 × List UInt8 × Bool := if l.length < n then ([], [], true) else (l.take n, l.drop n, sh)

/-- What a step of reading leaves. -/
def RestPost (r : Nat) (x : List UInt8 × Bool) (w w' : World) : Prop := (∃ s, RestAt w' r s x.2 ∧ s.data.toList = x.1) ∧ Kept (fun k => k = r) w w'

set_option maxHeartbeats 800000 in
theorem rtake_any (r : Nat) (s : ByteArray) (sh : Bool) (n : Nat) (w : World) (h : RestAt w r s sh) :
    Calls Tryz.prog 215 #[.pointer (some ⟨r, 0, none⟩), .int .i64 n] w fun e w' => ∃ t, e = .returned (.string t) ∧ t.data.toList = (rTk s.data.toList sh n).1 ∧ RestPost r (rTk s.data.toList sh n).2 w w' := by
  have c0 := h.b
  have f0 := h.froz 0
  have f1 := h.froz 1
  have c1 := h.short
  have hsl : s.data.toList.length = s.size := rfl
  by_cases hlt : s.size < n
  · have hr : rTk s.data.toList sh n = ([], [], true) := by rw [rTk, if_pos (by rw [hsl]; exact hlt)]
    rw [hr]
    have HE : Hid (RestPost r ([], true) w ((w.setCell ⟨r, 0, none⟩ (.string ⟨#[]⟩)).setCell ⟨r, 1, none⟩ (.bool true))) := Lib.hid ⟨⟨⟨#[]⟩, ⟨by
      rw [World.cell?_setCell_other _ _ _ _ (fun e => by injection e with _ e _; omega)]; exact World.cell?_setCell_same _ _ _ c0, World.cell?_setCell_same _ _ _ ((World.cell?_setCell_other w ⟨r, 0, none⟩ ⟨r, 1, none⟩ _ (fun e => by injection e with _ e _; omega)).trans c1), fun j => by rw [World.frozen?_setCell, World.frozen?_setCell]; exact h.froz j⟩, rfl⟩,
      (Kept.setCell (fun k => k = r) w (b := r) rfl _).trans (Kept.setCell (fun k => k = r) _ (b := r) rfl _) (fun _ hi => .inl hi)⟩
    have hgt : (s.size : Int) < n := by omega
    clear h hr hsl
    go_enter Tryz.func215, Tryz.ntmps215
    go_wp2
    go_ret
    exact ⟨⟨#[]⟩, rfl, rfl, HE.out⟩
  · have hr : rTk s.data.toList sh n = (s.data.toList.take n, s.data.toList.drop n, sh) := by rw [rTk, if_neg (by rw [hsl]; exact hlt)]
    rw [hr]
    have HE : Hid (∀ t, t = s.extract n s.size → RestPost r (s.data.toList.drop n, sh) w (w.setCell ⟨r, 0, none⟩ (.string t))) := Lib.hid (fun t ht => ⟨⟨t, ⟨World.cell?_setCell_same _ _ _ c0, (World.cell?_setCell_other _ _ _ _ (fun e => by injection e with _ e _; omega)).trans c1, fun j => by rw [World.frozen?_setCell]; exact h.froz j⟩, by rw [ht]; exact Lib.extract_to_end s n⟩, Kept.setCell (fun k => k = r) w (b := r) rfl _⟩)
    have HT : Hid ((s.extract 0 n).data.toList = s.data.toList.take n) := Lib.hid (by rw [Lib.extract_data]; simp)
    have hge : (n : Int) ≤ s.size := by omega
    clear h hr hsl
    go_enter Tryz.func215, Tryz.ntmps215
    go_wp2
    go_ret
    exact ⟨_, rfl, HT.out, HE.out _ rfl⟩

theorem ret_u64 {a b : Int} (h : a = b) : Ending.returned (.int .u64 a) = .returned (.int .u64 b) := by rw [h]
theorem or_u64 (N : Nat) (b : Nat) (hN : N < 72057594037927936) (hb : b < 256) : bits BinOp.or IntKind.u64 ((N : Int) * 256) (b : Int) = ((N * 256 + b : Nat) : Int) := by
  have e : (N : Int) * 256 = ((N * 256 : Nat) : Int) := by omega
  rw [e, bits_or_u64_nat _ _ (by omega) (by omega)]
  have : N * 256 ||| b = N * 256 + b := by
    have := Nat.shiftLeft_add_eq_or_of_lt (i := 8) (b := b) (by omega) N
    rw [Nat.shiftLeft_eq] at this
    exact this.symm
  rw [this]

set_option maxHeartbeats 1600000 in
theorem rnumber_any (r : Nat) (s : ByteArray) (sh : Bool) (k : Nat) (w : World) (h : RestAt w r s sh) (hk : k ≤ 8) :
    Calls Tryz.prog 214 #[.pointer (some ⟨r, 0, none⟩), .int .i64 k] w fun e w' => e = .returned (.int .u64 (v4 (rTk s.data.toList sh k).1)) ∧ RestPost r (rTk s.data.toList sh k).2 w w' := by
  have HT := Lib.hid (rtake_any r s sh k w h)
  have hlen : (rTk s.data.toList sh k).1.length ≤ 8 := by
    unfold rTk
    split
    · simp
    · have := List.length_take_le k s.data.toList; simp only; omega
  obtain ⟨l, hl⟩ : ∃ l, l = (rTk s.data.toList sh k).1 := ⟨_, rfl⟩
  rw [← hl] at HT hlen ⊢
  obtain ⟨x, hx⟩ : ∃ x, x = (rTk s.data.toList sh k).2 := ⟨_, rfl⟩
  rw [← hx] at HT ⊢
  clear h hl hx
  go_enter Tryz.func214, Tryz.ntmps214
  go_wp2_with fail
  refine HT.out.mono ?_
  rintro e w1 ⟨t, rfl, ht, hp⟩
  obtain ⟨c, W, hcv, hc, hR, hbW⟩ := bytesOf_reads w1 t
  rw [ht] at hR
  have hts : t.size = l.length := by rw [← ht]; rfl
  obtain ⟨L, hL⟩ : ∃ L, L = t.size := ⟨_, rfl⟩
  rw [← hL] at hcv hts
  have HLL := Lib.hid hts
  have hL8 : L ≤ 8 := by omega
  have HE : Hid (∀ n, RestPost r x w (W.drewN n)) := Lib.hid (fun n => by
    have hb := hbW.trans ((below_drewN W n).mono hbW.size)
    exact ⟨hp.1.imp (fun _ h => ⟨h.1.below hb, h.2⟩), hp.2.trans (Kept.ofBelow (S := fun k => k = r) hb) (fun _ hi => .inl hi)⟩)
  have HR := Lib.hid hR
  clear hp hc hR hbW ht hts hL
  go_wp2
  go_loop [5, 13] (fun n i => ∃ k : Nat, k ≤ L ∧ i = .int .i64 k ∧ n = .int .u64 (v4 (l.take k))) (fun _ i => L - (intOf i).toNat)
  case atStart => exact ⟨0, by omega, rfl, rfl⟩
  case round =>
    obtain ⟨k, hk, rfl, rfl⟩ := hrel
    by_cases hlt : k < L
    · have hlt2 : k < l.length := by have := HLL.out; omega
      obtain ⟨b, off, heq, _, hcc⟩ := HR.out.at (by omega)
      have hck := hcc k hlt2
      injection heq with heq
      injection heq with h1 h2 _
      subst h1
      subst h2
      rw [Nat.zero_add] at hck
      clear hcc
      have hN : v4 (l.take k) < 72057594037927936 := by
        refine Nat.lt_of_lt_of_le (v4_lt _ 7 ?_) (by decide)
        have := List.length_take_le k l
        have := HLL.out
        omega
      have hcb := l[k].toNat_lt
      have hor := or_u64 (v4 (l.take k)) l[k].toNat hN hcb
      have HS : Hid (v4 (l.take (k + 1)) = v4 (l.take k) * 256 + l[k].toNat) := Lib.hid (by rw [List.take_succ_eq_append_getElem hlt2, v4_snoc])
      have hw1 : IntKind.u64.wrap ((v4 (l.take k) : Int) * 256) = (v4 (l.take k) : Int) * 256 := by rw [IntKind.wrap_u64]; omega
      have hw2 : IntKind.u64.wrap ((l[k].toNat : Nat) : Int) = ((l[k].toNat : Nat) : Int) := by rw [IntKind.wrap_u64]; omega
      have HOR := Lib.hid hor; clear hor
      have hkL : (k : Int) < L := by omega
      go_wp2_with fail
      go_round
      case rel => exact ⟨k + 1, by omega, by go_num, by rw [HS.out, HOR.out]⟩
      case measure => simp [intOf]; omega
    · obtain rfl : k = L := by omega
      go_wp2
      go_ret
      exact ⟨ret_u64 (by rw [HLL.out, List.take_length]), HE.out 0⟩
end Go.Proofs.YtefddiikdamnbaaGreatDoor

/- Heads as variables: alloc, build, load, store of all their cells; a head that is read. -/
set_option maxRecDepth 100000
namespace Go.Proofs.YtefddiikdamnbaaGreatDoor
open Go.RowKit

def Hd.Len (h : Hd) : Prop := h.free.length = 64 ∧ h.roots.length = 16
theorem Hd.Ok.len {h : Hd} (k : h.Ok) : h.Len := ⟨k.nf, k.nr⟩
theorem Hd.zero_len : Hd.zero.Len := ⟨rfl, rfl⟩
theorem Hd.Len.cells {h : Hd} (k : h.Len) : h.cells.length = 81 := by simp [Hd.cells, k.1, k.2]
theorem Hd.Len.setCount {h : Hd} (k : h.Len) (n : Nat) : (h.setCount n).Len := k
theorem Hd.Len.setRoot {h : Hd} (k : h.Len) (i n : Nat) : (h.setRoot i n).Len := ⟨k.1, by simp [Hd.setRoot, k.2]⟩
theorem Hd.Len.setWord {h : Hd} (k : h.Len) (i n : Nat) : (h.setWord i n).Len := ⟨by simp [Hd.setWord, k.1], k.2⟩
theorem Hd.Len.cells_setWord {h : Hd} (k : h.Len) {i : Nat} (hi : i < 64) (x : Nat) : (h.setWord i x).cells = h.cells.set (1 + i) (.int .u64 (x : Int)) := by
  rw [show 1 + i = i + 1 by omega]
  simp only [Hd.setWord, Hd.cells, List.set_cons_succ]
  rw [List.set_append_left _ _ (by simp [k.1]; omega), List.map_set]
theorem Hd.Len.cells_setRoot {h : Hd} (k : h.Len) {i : Nat} (x : Nat) : (h.setRoot i x).cells = h.cells.set (65 + i) (.int .i64 (x : Int)) := by
  rw [show 65 + i = (64 + i) + 1 by omega]
  simp only [Hd.setRoot, Hd.cells, List.set_cons_succ]
  rw [List.set_append_right _ _ (by simp [k.1]), List.map_set]
  simp [k.1]

/-- A head lies in a block of its own. -/
def HvAt (w : World) (b : Nat) (h : Hd) : Prop := HdAt w b 0 h ∧ ∀ j, w.frozen? ⟨b, j, none⟩ = false
theorem HvAt.block {w w' : World} {b : Nat} {h : Hd} (x : HvAt w b h) (hb : w'.heap[b]? = w.heap[b]?) : HvAt w' b h := ⟨x.1.block hb, fun j => (World.frozen?_of_block hb).trans (x.2 j)⟩
theorem HvAt.lt {w : World} {b : Nat} {h : Hd} (x : HvAt w b h) : b < w.heap.size := World.block_lt_of_cell? w _ x.1.count
theorem HvAt.kept {S : Nat → Prop} {w w' : World} {b : Nat} {h : Hd} (x : HvAt w b h) (hk : Kept S w w') (hb : ¬ S b) : HvAt w' b h := x.block (hk.block b x.lt hb)
theorem HvAt.new (w : World) (h : Hd) : HvAt (w.alloc (.cells h.cells.toArray 37)) w.heap.size h := by
  have hg := heap_alloc_new w (.cells h.cells.toArray 37)
  exact ⟨fun j v hv => by rw [Nat.zero_add, Lib.cell_of_heap hg, List.getElem?_toArray]; exact hv, fun j => Lib.frozen_of_heap hg _⟩
theorem HvAt.there {w : World} {b : Nat} {h : Hd} (x : HvAt w b h) (k : h.Len) : w.there b 0 81 := fun j hj =>
  ⟨by rw [x.1 j _ (List.getElem?_eq_getElem (by rw [k.cells]; exact hj))]; rfl, x.2 _⟩
theorem there_setCells_hd {w : World} {b o : Nat} (ht : w.there b o 81) (h : Hd) (k : h.Len) : HdAt (w.setCells b o h.cells) b o h ∧ Touch b o 81 w (w.setCells b o h.cells) ∧ Kept (fun j => j = b) w (w.setCells b o h.cells) := by
  have hl := k.cells
  exact ⟨World.rangeAt_setCells_same w b o h.cells (by rw [hl]; exact ht), Touch.setCells w o _ (Nat.le_refl _) (by rw [hl]; exact Nat.le_refl _), Kept.setCells (fun j => j = b) w (fb := b) rfl _⟩
theorem HvAt.put {w : World} {b : Nat} {h h' : Hd} (x : HvAt w b h) (k : h.Len) (k' : h'.Len) : HvAt (w.setCells b 0 h'.cells) b h' ∧ Kept (fun j => j = b) w (w.setCells b 0 h'.cells) := by
  obtain ⟨h1, h2, h3⟩ := there_setCells_hd (x.there k) h' k'
  exact ⟨⟨h1, fun j => (h2.froz j).trans (x.2 j)⟩, h3⟩

theorem exec_alloc_head {a : Act} {o : Oper} (ho : o.op = .alloc 37) (W : World) : (execOp a.eval o).run Tryz.prog W = .ok (.value (.pointer (some ⟨W.heap.size, 0, none⟩))) (W.alloc (.cells Hd.zero.cells.toArray 37)) := by
  have hz : (zeroValue 37).run Tryz.prog W = .ok (.agg Hd.zero.cells.toArray) W := by kernel_rfl
  unfold execOp
  simp only [ho, Instr.alloc, Sem.run_bind, hz, Result.andThen_ok]
  simp [go_sem]
theorem built_head0 : Tryz.prog.built 37 [] = some Hd.zero.cells.toArray := by kernel_rfl
theorem built_head1 (c : Int) : Tryz.prog.built 37 [(0, .int .i64 c)] = some (.int .i64 c :: Hd.zero.cells.tail).toArray := by kernel_rfl
theorem Hd.zero_count (c : Nat) : (Hd.zero.setCount c).cells = .int .i64 (c : Int) :: Hd.zero.cells.tail := rfl
theorem Hd.all_one (h : Hd) : h.cells.toArray.all (·.oneCell') = true := all_oneCell_toArray h.one
theorem Hd.Len.size {h : Hd} (k : h.Len) : (Tryz.prog.info? 37).map (·.size) = some h.cells.toArray.size := by rw [List.size_toArray, k.cells]; exact sizeHd
theorem Hd.Len.size' {h : Hd} (k : h.Len) : (Tryz.prog.info? 37).map (·.size) = some h.cells.length := by rw [k.cells]; exact sizeHd

/-- A head that is the only result, in a variable of its own. -/
theorem results_head {fn : Func} {p : Tmp} (h : fn.results = #[.cell p 37]) (tmps : Array Value) (w : World) (g : Nat) (hh : Hd) (k : hh.Len) (hp : tmps.getD p undef = .pointer (some ⟨g, 0, none⟩)) (hg : HdAt w g 0 hh) :
    (results fn tmps).run Tryz.prog w = .ok (.agg hh.cells.toArray) w := by
  have hp' : tmps[p]?.getD undef = .pointer (some ⟨g, 0, none⟩) := by simpa using hp
  simp [results, h, hp', asAddr, run_loadVar_mid (P := Tryz.prog) w g 0 37 hh.cells _ hg Tryz.underlying37 rfl k.size']

theorem HvAt.cell {w : World} {b : Nat} {h : Hd} (x : HvAt w b h) (k : h.Len) {i : Nat} (hi : i < 81) : ∃ v, w.cell? ⟨b, i, none⟩ = some v := by
  have := x.1 i _ (List.getElem?_eq_getElem (by rw [k.cells]; exact hi))
  rw [Nat.zero_add] at this
  exact ⟨_, this⟩
theorem HvAt.setAt {w : World} {b : Nat} {h h' : Hd} (x : HvAt w b h) (k : h.Len) {i : Nat} {v : Value} (hi : i < 81) (he : h'.cells = h.cells.set i v) : HvAt (w.setCell ⟨b, i, none⟩ v) b h' ∧ Kept (fun j => j = b) w (w.setCell ⟨b, i, none⟩ v) := by
  have := x.1.set (h' := h') (i := i) (v := v) (by rw [k.cells]; exact hi) he
  rw [Nat.zero_add] at this
  exact ⟨⟨this, fun j => by rw [World.frozen?_setCell]; exact x.2 j⟩, Kept.setCell (fun j => j = b) w (b := b) rfl _⟩

set_option maxHeartbeats 400000 in
theorem words_len (b o : Nat) (h : Hd) (w : World) (a : HdAt w b o h) (hcnt : h.count < 4096) :
    Calls Tryz.prog 175 #[.pointer (some ⟨b, o, none⟩)] w fun e w' => e = .returned (.int .i64 ((h.count / 64 + 1 : Nat) : Int)) ∧ w' = w := by
  have hc := a.count
  obtain ⟨c, hce⟩ : ∃ c, c = h.count := ⟨_, rfl⟩
  rw [← hce] at hc hcnt ⊢
  clear a hce
  go_enter Tryz.func175, Tryz.ntmps175
  go_wp2
  go_ret
  exact ⟨ret_i64 (by omega), rfl⟩

/-! ### A head that is read -/
def rNum (x : List UInt8 × Bool) (k : Nat) : Nat × (List UInt8 × Bool) := (v4 (rTk x.1 x.2 k).1, (rTk x.1 x.2 k).2)
def rRoots : Nat → Hd × (List UInt8 × Bool) → Hd × (List UInt8 × Bool)
  | 0, y => y
  | k + 1, y => ((rRoots k y).1.setRoot k (rNum (rRoots k y).2 4).1, (rNum (rRoots k y).2 4).2)
def rWords : Nat → Hd × (List UInt8 × Bool) → Hd × (List UInt8 × Bool)
  | 0, y => y
  | k + 1, y => ((rWords k y).1.setWord k (rNum (rWords k y).2 8).1, (rNum (rWords k y).2 8).2)
/-- What is read as a head, and what is left. -/
def rHd (x : List UInt8 × Bool) : Hd × (List UInt8 × Bool) :=
  if 4096 ≤ (rNum x 2).1 then (Hd.zero, ((rNum x 2).2.1, true))
  else rWords ((rNum x 2).1 / 64 + 1) (rRoots 16 (Hd.zero.setCount (rNum x 2).1, (rNum x 2).2))
theorem rRoots_len (y : Hd × (List UInt8 × Bool)) (h : y.1.Len) : ∀ k, (rRoots k y).1.Len
  | 0 => h
  | k + 1 => (rRoots_len y h k).setRoot _ _
theorem rRoots_count (y : Hd × (List UInt8 × Bool)) : ∀ k, (rRoots k y).1.count = y.1.count
  | 0 => rfl
  | k + 1 => rRoots_count y k
theorem rWords_len (y : Hd × (List UInt8 × Bool)) (h : y.1.Len) : ∀ k, (rWords k y).1.Len
  | 0 => h
  | k + 1 => (rWords_len y h k).setWord _ _
theorem rHd_len (x : List UInt8 × Bool) : (rHd x).1.Len := by
  unfold rHd
  split
  · exact Hd.zero_len
  · exact rWords_len _ (rRoots_len _ (Hd.zero_len.setCount _) _) _
theorem rTk_length (l : List UInt8) (sh : Bool) (n : Nat) : (rTk l sh n).1.length ≤ n := by
  unfold rTk
  split
  · simp
  · exact List.length_take_le _ _
theorem rNum_lt (x : List UInt8 × Bool) (k : Nat) : (rNum x k).1 < 256 ^ k := v4_lt _ k (rTk_length _ _ _)
end Go.Proofs.YtefddiikdamnbaaGreatDoor

/- The contract of a rest's head. -/
set_option maxRecDepth 100000
namespace Go.Proofs.YtefddiikdamnbaaGreatDoor
open Go.RowKit

/-- What is left, as a pair of plain things. -/
def RestP (w : World) (r : Nat) (x : List UInt8 × Bool) : Prop := ∃ s, RestAt w r s x.2 ∧ s.data.toList = x.1
theorem RestP.block {w w' : World} {r : Nat} {x : List UInt8 × Bool} (h : RestP w r x) (hb : w'.heap[r]? = w.heap[r]?) : RestP w' r x := h.imp fun _ k => ⟨k.1.block hb, k.2⟩
theorem RestP.lt {w : World} {r : Nat} {x : List UInt8 × Bool} (h : RestP w r x) : r < w.heap.size := h.elim fun _ k => k.1.lt
theorem rnumber_p (r : Nat) (x : List UInt8 × Bool) (k : Nat) (w : World) (h : RestP w r x) (hk : k ≤ 8) :
    Calls Tryz.prog 214 #[.pointer (some ⟨r, 0, none⟩), .int .i64 k] w fun e w' => e = .returned (.int .u64 (rNum x k).1) ∧ RestP w' r (rNum x k).2 ∧ Kept (fun j => j = r) w w' := by
  obtain ⟨s, h1, h2⟩ := h
  obtain ⟨l, sh⟩ := x
  simp only at h1 h2
  subst h2
  exact (rnumber_any r s sh k w h1 hk).mono fun e w' ⟨g1, g2⟩ => ⟨g1, g2.1, g2.2⟩

set_option maxHeartbeats 3200000 in
theorem rhead_any (r : Nat) (x : List UInt8 × Bool) (w : World) (h : RestP w r x) :
    Calls Tryz.prog 159 #[.pointer (some ⟨r, 0, none⟩)] w fun e w' => e = .returned (.agg (rHd x).1.cells.toArray) ∧ RestP w' r (rHd x).2 ∧ Kept (fun j => j = r) w w' := by
  obtain ⟨Z, hZ⟩ : ∃ Z : Array Value, Z = Hd.zero.cells.toArray := ⟨_, rfl⟩
  have hex : ∀ (a : Act) (o : Oper) (_ : o.op = .alloc 37) (W : World), (execOp a.eval o).run Tryz.prog W = .ok (.value (.pointer (some ⟨W.heap.size, 0, none⟩))) (W.alloc (.cells Z 37)) := by rw [hZ]; exact fun _ _ ho W => exec_alloc_head ho W
  have HEX := Lib.hid hex
  have hrl := h.lt
  obtain ⟨w0, hw0⟩ : ∃ w0, w0 = w.alloc (.cells Z 37) := ⟨_, rfl⟩
  have hv0 : HvAt w0 w.heap.size Hd.zero := by rw [hw0, hZ]; exact HvAt.new w Hd.zero
  have hr0 : RestP w0 r x := by rw [hw0]; exact h.block (Below.heap_alloc _ _ _ hrl)
  have hs0 : w0.heap.size = w.heap.size + 1 := by rw [hw0]; simp
  have HB0 : Hid (Below w.heap.size w w0) := Lib.hid (by rw [hw0]; exact (Below.refl _ _).alloc (Nat.le_refl _) _)
  have HNUM := Lib.hid (rnumber_p r x 2 w0 hr0 (by omega))
  obtain ⟨c, hc⟩ : ∃ c, c = (rNum x 2).1 := ⟨_, rfl⟩
  obtain ⟨x1, hx1⟩ : ∃ x1, x1 = (rNum x 2).2 := ⟨_, rfl⟩
  have hclt : c < 65536 := by rw [hc]; exact rNum_lt x 2
  rw [← hc, ← hx1] at HNUM
  have HW0 := Lib.hid hw0
  rw [hw0] at HNUM
  have hwc : IntKind.i64.wrap (c : Int) = (c : Int) := IntWalk.i64_in _ (by omega)
  have HC := Lib.hid hc; have HX1 := Lib.hid hx1; have HV0 := Lib.hid hv0; have HS0 := Lib.hid hs0; have HZ := Lib.hid hZ
  obtain ⟨X1, hX1⟩ : ∃ X1 : Array Value, X1 = (Hd.zero.setCount c).cells.toArray := ⟨_, rfl⟩
  have HBT := Lib.hid (built_head1 (c : Int))
  rw [← Hd.zero_count, ← hX1] at HBT
  have HX1E := Lib.hid hX1
  have HI1 : Hid ((Tryz.prog.info? 37).map (·.size) = some X1.size) := Lib.hid (by rw [hX1]; exact (Hd.zero_len.setCount c).size)
  have HO1 : Hid (X1.all (·.oneCell') = true) := Lib.hid (by rw [hX1]; exact Hd.all_one _)
  have HT1 : Hid (∀ W : World, (W.alloc (.cells Z 37)).there W.heap.size 0 X1.size) := Lib.hid (fun W => by
    have := (HvAt.new W Hd.zero).there Hd.zero_len
    rw [← hZ] at this
    have e : X1.size = 81 := by rw [hX1, List.size_toArray, (Hd.zero_len.setCount c).cells]
    rw [e]; exact this)
  clear hex hw0 hv0 hr0 hs0 hc hx1 hX1 h hZ
  go_enter Tryz.func159, Tryz.ntmps159
  go_wp2_with (refine wpList_val rfl _ (HEX.out _ _ rfl _) ?_)
  refine HNUM.out.mono ?_
  rintro e w1 ⟨rfl, hr1, hk1⟩
  rw [← HW0.out] at hk1
  obtain ⟨b3, hb3⟩ : ∃ b3, b3 = w1.heap.size := ⟨_, rfl⟩
  obtain ⟨w2, hw2⟩ : ∃ w2, w2 = (w1.alloc (.cells Z 37)).setCells b3 0 X1.toList := ⟨_, rfl⟩
  have hv1 : HvAt (w1.alloc (.cells Z 37)) b3 Hd.zero := by rw [HZ.out, hb3]; exact HvAt.new w1 Hd.zero
  obtain ⟨hv2, hk2⟩ : HvAt w2 b3 (Hd.zero.setCount c) ∧ Kept (fun j => j = b3) (w1.alloc (.cells Z 37)) w2 := by
    have := hv1.put Hd.zero_len (Hd.zero_len.setCount c)
    rw [hw2, HX1E.out, List.toList_toArray]; exact this
  have hrl1 := hr1.lt
  have hk12 : Kept (fun j => j = r) w0 w2 := (hk1.trans (Kept.ofBelow (S := fun j => j = r) ((Below.refl _ w1).alloc (Nat.le_refl _) _)) (fun _ hi => .inl hi)).trans hk2 (fun i hi => .inr (by have := hk1.size; omega))
  have hr2 : RestP w2 r x1 := (hr1.block (Below.heap_alloc _ _ _ hrl1)).block (hk2.block r (by simp; omega) (by omega))
  have hlt3 : b3 < w2.heap.size := hv2.lt
  have cc := hv2.1.count
  have HW2 : Hid ((w1.alloc (.cells Z 37)).setCells w1.heap.size 0 X1.toList = w2) := Lib.hid (by rw [hw2, hb3])
  have cc' : w2.cell? ⟨w1.heap.size, 0, none⟩ = some (.int .i64 c) := by rw [← hb3]; exact cc
  have HR2 := Lib.hid hr2; have HK2 := Lib.hid hk12; have HV2 := Lib.hid hv2; have HB3 := Lib.hid hb3; have HL3 := Lib.hid hlt3
  have hb30 : w0.heap.size ≤ b3 := by rw [hb3]; exact hk1.size
  have HB30 := Lib.hid hb30
  clear hr1 hk1 hv1 hv2 hk2 hrl1 hk12 hr2 hlt3 cc hw2 hb3 hb30
  by_cases hbig : 4096 ≤ c
  · have hsm : decide ((4096 : Int) ≤ c) = true := decide_eq_true (by omega)
    have hsm1 : decide (4096 ≤ c) = true := decide_eq_true (by omega)
    have hfx : rHd x = (Hd.zero, (x1.1, true)) := by
      unfold rHd
      rw [← HC.out, if_pos hbig, ← HX1.out]
    obtain ⟨s, hs, hsl⟩ := HR2.out
    have k1 := hs.short
    have z1 := hs.froz 1
    have hr3 : RestP (w2.setCell ⟨r, 1, none⟩ (.bool true)) r (x1.1, true) := ⟨s, ⟨(World.cell?_setCell_other w2 ⟨r, 1, none⟩ ⟨r, 0, none⟩ _ (fun e => by injection e with _ e _; omega)).trans hs.b, World.cell?_setCell_same _ _ _ k1, fun j => by rw [World.frozen?_setCell]; exact hs.froz j⟩, hsl⟩
    have hw00 : w.heap.size < w0.heap.size := by have := HS0.out; omega
    have hne3 : r ≠ w.heap.size := by omega
    have hvr : HvAt (w2.setCell ⟨r, 1, none⟩ (.bool true)) w.heap.size Hd.zero := (HV0.out.kept HK2.out (by omega)).block (Below.heap_setCell _ _ _ _ (fun e => hne3 e.symm))
    obtain ⟨hv7, hk7⟩ := hvr.put Hd.zero_len Hd.zero_len
    have HE : Hid (HdAt ((w2.setCell ⟨r, 1, none⟩ (.bool true)).setCells w.heap.size 0 Hd.zero.cells) w.heap.size 0 Hd.zero ∧ RestP ((w2.setCell ⟨r, 1, none⟩ (.bool true)).setCells w.heap.size 0 Hd.zero.cells) r (x1.1, true) ∧ Kept (fun j => j = r) w ((w2.setCell ⟨r, 1, none⟩ (.bool true)).setCells w.heap.size 0 Hd.zero.cells)) := Lib.hid
      ⟨hv7.1, hr3.block (hk7.block r (by simpa using HR2.out.lt) hne3), (((Kept.ofBelow (S := fun j => j = r) HB0.out).trans HK2.out (fun _ hi => .inl hi)).trans (Kept.setCell (fun j => j = r) w2 (b := r) rfl _) (fun _ hi => .inl hi)).trans hk7 (fun i hi => .inr (by omega))⟩
    have HTH : Hid ((w2.setCell ⟨r, 1, none⟩ (.bool true)).there w.heap.size 0 Z.size) := Lib.hid (by
      have e : Z.size = 81 := by rw [HZ.out, List.size_toArray, Hd.zero_len.cells]
      rw [e]; exact hvr.there Hd.zero_len)
    have hs2 := Hd.zero_len.size
    have ha1 := Hd.all_one Hd.zero
    have hb0 := built_head0
    rw [← HZ.out] at hs2 ha1 hb0
    have hZl : Z.toList = Hd.zero.cells := by rw [HZ.out, List.toList_toArray]
    have HS2 := Lib.hid hs2; have HA1 := Lib.hid ha1; have HB00 := Lib.hid hb0; have HFX := Lib.hid hfx; have HZL := Lib.hid hZl
    clear hfx hs hsl hr3 hw00 hne3 hvr hv7 hk7 hs2 ha1 hb0 hZl
    go_wp2_with (first
      | (refine wpList_val rfl _ (exec_build rfl [(0, .int .i64 c)] (by simp [go_sem]) X1 HBT.out w1) ?_)
      | (refine wpList_val rfl _ (HEX.out _ _ rfl _) ?_)
      | (refine wpList_store_mid rfl 37 _ _ rfl w1.heap.size 0 X1 (by rfl) (by rfl) (HT1.out w1) HI1.out HO1.out ?_; rw [HW2.out])
      | (refine wpList_val rfl _ (exec_build rfl [] (by simp [go_sem]) Z HB00.out _) ?_)
      | (refine wpList_store_mid rfl 37 _ _ rfl w.heap.size 0 Z (by rfl) (by rfl) HTH.out HS2.out HA1.out ?_; rw [HZL.out]))
    refine bodyPost_ret (v := .agg Hd.zero.cells.toArray) (results_head Tryz.results159 _ _ w.heap.size Hd.zero Hd.zero_len (by rfl) HE.out.1) rfl ⟨by rw [HFX.out], by rw [HFX.out]; exact HE.out.2⟩
  · have hsm : decide ((4096 : Int) ≤ c) = false := decide_eq_false (by omega)
    have hsm1 : decide (4096 ≤ c) = false := decide_eq_false (by omega)
    obtain ⟨y, hy⟩ : ∃ y, y = (Hd.zero.setCount c, x1) := ⟨_, rfl⟩
    have hylen : y.1.Len := by rw [hy]; exact Hd.zero_len.setCount c
    have HY0 : Hid (y.1.count = c) := Lib.hid (by rw [hy]; rfl)
    have HR2' : Hid (RestP w2 r y.2) := Lib.hid (by rw [hy]; exact HR2.out)
    have HV2' : Hid (HvAt w2 b3 y.1) := Lib.hid (by rw [hy]; exact HV2.out)
    have HYE := Lib.hid hy; have HYL := Lib.hid hylen
    clear hy hylen
    go_wp2_with (first
      | (refine wpList_val rfl _ (exec_build rfl [(0, .int .i64 c)] (by simp [go_sem]) X1 HBT.out w1) ?_)
      | (refine wpList_val rfl _ (HEX.out _ _ rfl _) ?_)
      | (refine wpList_store_mid rfl 37 _ _ rfl w1.heap.size 0 X1 (by rfl) (by rfl) (HT1.out w1) HI1.out HO1.out ?_; rw [HW2.out]))
    go_loopw [17] (fun i wr => ∃ k : Nat, k ≤ 16 ∧ i = .int .i64 k ∧ Hid (RestP wr r (rRoots k y).2) ∧ Hid (HvAt wr b3 (rRoots k y).1) ∧ Hid (Kept (fun j => j = r) w0 wr)) (fun i _ => 16 - (intOf i).toNat)
    case atStart => exact ⟨0, by omega, rfl, HR2', HV2', HK2⟩
    case round =>
      obtain ⟨k, hk, rfl, hr, hv, hkp⟩ := hrel
      by_cases hlt : k < 16
      · have hn := rnumber_p r _ 4 wr hr.out (by omega)
        have hnl := rNum_lt (rRoots k y).2 4
        obtain ⟨z, hz⟩ : ∃ z, z = rRoots k y := ⟨_, rfl⟩
        have hnx : rRoots (k + 1) y = (z.1.setRoot k (rNum z.2 4).1, (rNum z.2 4).2) := by rw [hz]; rfl
        rw [← hz] at hn hnl hv
        obtain ⟨n, hne⟩ : ∃ n, n = (rNum z.2 4).1 := ⟨_, rfl⟩
        rw [← hne] at hn hnl hnx
        have HN := Lib.hid hn; have HNX := Lib.hid hnx
        have hzl : z.1.Len := by rw [hz]; exact rRoots_len y HYL.out k
        have HZL := Lib.hid hzl
        have hwn : IntKind.i64.wrap (n : Int) = (n : Int) := IntWalk.i64_in _ (by omega)
        have hk16 : (k : Int) < 16 := by omega
        clear hn hnx hne hz hzl hr
        go_wp2_with fail
        refine HN.out.mono ?_
        rintro e w4 ⟨rfl, hr4, hk4⟩
        have hbr : b3 ≠ r := by have h1 := HR2.out.lt; have h2 := HB30.out; have h3 := HS0.out; omega
        have hv4 := hv.out.kept hk4 hbr
        obtain ⟨u, hu⟩ := hv4.cell HZL.out (show 65 + k < 81 by omega)
        have hf := hv4.2 (65 + k)
        obtain ⟨hv5, hk5⟩ := hv4.setAt (h' := z.1.setRoot k n) HZL.out (show 65 + k < 81 by omega) (HZL.out.cells_setRoot n)
        have HV5 : Hid (HvAt (w4.setCell ⟨b3, 65 + k, none⟩ (.int .i64 n)) b3 (rRoots (k + 1) y).1) := Lib.hid (by rw [HNX.out]; exact hv5)
        have HR5 : Hid (RestP (w4.setCell ⟨b3, 65 + k, none⟩ (.int .i64 n)) r (rRoots (k + 1) y).2) := Lib.hid (by rw [HNX.out]; exact hr4.block (Below.heap_setCell _ _ _ _ (fun e => hbr e.symm)))
        have HK5 : Hid (Kept (fun j => j = r) w0 (w4.setCell ⟨b3, 65 + k, none⟩ (.int .i64 n))) := Lib.hid ((hkp.out.trans hk4 (fun i hi => .inl hi)).trans hk5 (fun i hi => .inr (by have h2 := HB30.out; omega)))
        rw [HB3.out] at hu hf HV5 HR5 HK5
        clear hr4 hk4 hbr hv4 hv5 hk5
        go_wp2
        go_roundw
        case rel => exact ⟨k + 1, by omega, by go_num, HR5, by rw [HB3.out]; exact HV5, HK5⟩
        case measure => simp [intOf]; omega
      · have hge : ¬ ((k : Int) < 16) := by omega
        obtain ⟨y2, hy2⟩ : ∃ y2, y2 = rRoots 16 y := ⟨_, rfl⟩
        have hk16 : k = 16 := by omega
        have hr2 := hr.out
        have hv2 := hv.out
        rw [hk16, ← hy2] at hr2 hv2
        have hyl2 : y2.1.Len := by rw [hy2]; exact rRoots_len y HYL.out 16
        have hyc2 : y2.1.count = c := by rw [hy2, rRoots_count]; exact HY0.out
        have HYL2 := Lib.hid hyl2; have HYC2 := Lib.hid hyc2; have HY2 := Lib.hid hy2
        obtain ⟨n, hn⟩ : ∃ n, n = c / 64 + 1 := ⟨_, rfl⟩
        have hn64 : n ≤ 64 := by omega
        have HNE := Lib.hid hn
        have hwd := words_len b3 0 y2.1 wr hv2.1 (by rw [hyc2]; omega)
        rw [hyc2, ← hn, HB3.out] at hwd
        have HWD := Lib.hid hwd
        have hsl := fun W => run_sliceWords W w1.heap.size 1 n hn64
        have HR3 := Lib.hid hr2; have HV3 := Lib.hid hv2
        clear hlt hk16 hr2 hv2 hyl2 hyc2 hy2 hn hwd hr hv hk
        go_wp2_with fail
        refine HWD.out.mono ?_
        rintro e w5 ⟨rfl, hw⟩
        subst w5
        go_wp2
        go_loopw [31] (fun i wr => ∃ k : Nat, k ≤ n ∧ i = .int .i64 k ∧ Hid (RestP wr r (rWords k y2).2) ∧ Hid (HvAt wr b3 (rWords k y2).1) ∧ Hid (Kept (fun j => j = r) w0 wr)) (fun i _ => n - (intOf i).toNat)
        case atStart => exact ⟨0, by omega, rfl, HR3, HV3, hkp⟩
        case round =>
          obtain ⟨k, hk, rfl, hr, hv, hkp⟩ := hrel
          by_cases hlt : k < n
          · have hnn := rnumber_p r _ 8 wr hr.out (by omega)
            obtain ⟨z, hz⟩ : ∃ z, z = rWords k y2 := ⟨_, rfl⟩
            have hnx : rWords (k + 1) y2 = (z.1.setWord k (rNum z.2 8).1, (rNum z.2 8).2) := by rw [hz]; rfl
            rw [← hz] at hnn hv
            obtain ⟨u8, hne⟩ : ∃ u8, u8 = (rNum z.2 8).1 := ⟨_, rfl⟩
            rw [← hne] at hnn hnx
            have HN := Lib.hid hnn; have HNX := Lib.hid hnx
            have hzl : z.1.Len := by rw [hz]; exact rWords_len y2 HYL2.out k
            have HZL := Lib.hid hzl
            have hkn : (k : Int) < n := by omega
            have hk64 : (k : Int) < 64 := by omega
            clear hnn hnx hne hz hzl hr
            go_wp2_with fail
            refine HN.out.mono ?_
            rintro e w4 ⟨rfl, hr4, hk4⟩
            have hbr : b3 ≠ r := by have h1 := HR2.out.lt; have h2 := HB30.out; have h3 := HS0.out; omega
            have hv4 := hv.out.kept hk4 hbr
            obtain ⟨u, hu⟩ := hv4.cell HZL.out (show 1 + k < 81 by omega)
            have hf := hv4.2 (1 + k)
            obtain ⟨hv5, hk5⟩ := hv4.setAt (h' := z.1.setWord k u8) HZL.out (show 1 + k < 81 by omega) (HZL.out.cells_setWord (by omega) u8)
            have HV5 : Hid (HvAt (w4.setCell ⟨b3, 1 + k, none⟩ (.int .u64 u8)) b3 (rWords (k + 1) y2).1) := Lib.hid (by rw [HNX.out]; exact hv5)
            have HR5 : Hid (RestP (w4.setCell ⟨b3, 1 + k, none⟩ (.int .u64 u8)) r (rWords (k + 1) y2).2) := Lib.hid (by rw [HNX.out]; exact hr4.block (Below.heap_setCell _ _ _ _ (fun e => hbr e.symm)))
            have HK5 : Hid (Kept (fun j => j = r) w0 (w4.setCell ⟨b3, 1 + k, none⟩ (.int .u64 u8))) := Lib.hid ((hkp.out.trans hk4 (fun i hi => .inl hi)).trans hk5 (fun i hi => .inr (by have h2 := HB30.out; omega)))
            rw [HB3.out] at hu hf HV5 HR5 HK5
            clear hr4 hk4 hbr hv4 hv5 hk5
            go_wp2
            go_roundw
            case rel => exact ⟨k + 1, by omega, by go_num, HR5, by rw [HB3.out]; exact HV5, HK5⟩
            case measure => simp [intOf]; omega
          · have hge2 : ¬ ((k : Int) < n) := by omega
            obtain ⟨f, hf⟩ : ∃ f, f = (rHd x).1 := ⟨_, rfl⟩
            have hfx : rHd x = rWords k y2 := by
              unfold rHd
              rw [← HC.out, if_neg hbig, ← HX1.out, ← HYE.out, ← HNE.out, show n = k by omega, HY2.out]
            have hv6 : HvAt wr b3 f := by rw [hf, hfx]; exact hv.out
            have hr6 : RestP wr r (rHd x).2 := by rw [hfx]; exact hr.out
            have hfl : f.Len := by rw [hf]; exact rHd_len x
            have hw00 : w.heap.size < w0.heap.size := by have := HS0.out; omega
            have hvr : HvAt wr w.heap.size Hd.zero := HV0.out.kept hkp.out (by omega)
            obtain ⟨hv7, hk7⟩ := hvr.put Hd.zero_len hfl
            have hne3 : r ≠ w.heap.size := by omega
            have HE : Hid (HdAt (wr.setCells w.heap.size 0 f.cells) w.heap.size 0 f ∧ RestP (wr.setCells w.heap.size 0 f.cells) r (rHd x).2 ∧ Kept (fun j => j = r) w (wr.setCells w.heap.size 0 f.cells)) := Lib.hid ⟨hv7.1, hr6.block (hk7.block r hr6.lt hne3), ((Kept.ofBelow (S := fun j => j = r) HB0.out).trans hkp.out (fun _ hi => .inl hi)).trans hk7 (fun i hi => .inr (by omega))⟩
            have HFL := Lib.hid hfl
            have HRG : Hid (wr.rangeAt w1.heap.size 0 f.cells) := Lib.hid (by rw [← HB3.out]; exact hv6.1)
            have HTH : Hid (wr.there w.heap.size 0 f.cells.toArray.size) := Lib.hid (by
              have e : f.cells.toArray.size = 81 := by rw [List.size_toArray, hfl.cells]
              rw [e]; exact hvr.there Hd.zero_len)
            have HF := Lib.hid hf
            obtain ⟨fc, hfc⟩ : ∃ fc, fc = f.cells := ⟨_, rfl⟩
            have hs1 := hfl.size'
            have hs2 := hfl.size
            have ha1 := Hd.all_one f
            rw [← hfc] at hs1 hs2 ha1 HRG HTH HE
            have HS1 := Lib.hid hs1; have HS2 := Lib.hid hs2; have HA1 := Lib.hid ha1; have HFC := Lib.hid hfc
            clear hf hfx hv6 hr6 hfl hvr hv7 hk7 hne3 hfc hs1 hs2 ha1 hw00
            go_wp2_with (first
              | (refine wpList_load_mid rfl 37 _ rfl w1.heap.size 0 (by rfl) fc _ HRG.out Tryz.underlying37 rfl HS1.out ?_)
              | (refine wpList_store_mid rfl 37 _ _ rfl w.heap.size 0 fc.toArray (by rfl) (by rfl) HTH.out HS2.out HA1.out ?_; rw [List.toList_toArray]))
            refine bodyPost_ret (v := .agg f.cells.toArray) (results_head Tryz.results159 _ _ w.heap.size f HFL.out (by rfl) (by have := HE.out.1; rw [HFC.out] at this ⊢; exact this)) rfl ⟨by rw [HF.out], HE.out.2⟩
end Go.Proofs.YtefddiikdamnbaaGreatDoor

/- A patch that is read. -/
set_option maxRecDepth 100000
namespace Go.Proofs.YtefddiikdamnbaaGreatDoor
open Go.RowKit

theorem rtake_p (r : Nat) (x : List UInt8 × Bool) (n : Nat) (w : World) (h : RestP w r x) :
    Calls Tryz.prog 215 #[.pointer (some ⟨r, 0, none⟩), .int .i64 n] w fun e w' => ∃ t, e = .returned (.string t) ∧ t.data.toList = (rTk x.1 x.2 n).1 ∧ RestP w' r (rTk x.1 x.2 n).2 ∧ Kept (fun j => j = r) w w' := by
  obtain ⟨s, h1, h2⟩ := h
  obtain ⟨l, sh⟩ := x
  simp only at h1 h2
  subst h2
  exact (rtake_any r s sh n w h1).mono fun e w' ⟨t, g1, g2, g3⟩ => ⟨t, g1, g2, g3.1, g3.2⟩

/-- What is read as a patch, and what is left. -/
def rPt (x : List UInt8 × Bool) : (Nat × Nat × List UInt8) × (List UInt8 × Bool) :=
  let p1 := rNum x 2
  let p2 := rNum p1.2 2
  let p3 := rNum p2.2 2
  let t := rTk p3.2.1 p3.2.2 p3.1
  ((p1.1, p2.1, t.1), t.2)

theorem results_pt {fn : Func} {p : Tmp} (h : fn.results = #[.cell p 226]) (tmps : Array Value) (w : World) (g : Nat) (cs : List Value) (k : cs.length = 3) (hp : tmps.getD p undef = .pointer (some ⟨g, 0, none⟩)) (hg : w.rangeAt g 0 cs) :
    (results fn tmps).run Tryz.prog w = .ok (.agg cs.toArray) w := by
  have hp' : tmps[p]?.getD undef = .pointer (some ⟨g, 0, none⟩) := by simpa using hp
  simp [results, h, hp', asAddr, run_loadVar_mid (P := Tryz.prog) w g 0 226 cs _ hg Tryz.underlying226 rfl (by rw [k]; kernel_rfl)]

theorem range3 (W : World) (g : Nat) (u0 u1 u2 x y z : Value) (h0 : W.cell? ⟨g, 0, none⟩ = some u0) (h1 : W.cell? ⟨g, 1, none⟩ = some u1) (h2 : W.cell? ⟨g, 2, none⟩ = some u2) :
    (((W.setCell ⟨g, 0, none⟩ x).setCell ⟨g, 1, none⟩ y).setCell ⟨g, 2, none⟩ z).rangeAt g 0 [x, y, z] := by
  have ne : ∀ {i j : Nat}, i ≠ j → (⟨g, i, none⟩ : Addr) ≠ ⟨g, j, none⟩ := fun h e => by injection e with _ e _; exact h e
  have c1 : (W.setCell ⟨g, 0, none⟩ x).cell? ⟨g, 1, none⟩ = some u1 := (World.cell?_setCell_other _ _ _ _ (ne (by omega))).trans h1
  have c2 : ((W.setCell ⟨g, 0, none⟩ x).setCell ⟨g, 1, none⟩ y).cell? ⟨g, 2, none⟩ = some u2 := (World.cell?_setCell_other _ _ _ _ (ne (by omega))).trans ((World.cell?_setCell_other _ _ _ _ (ne (by omega))).trans h2)
  intro j v hv
  have hj : j = 0 ∨ j = 1 ∨ j = 2 := by have := (List.getElem?_eq_some_iff.1 hv).1; simp at this; omega
  rw [Nat.zero_add]
  rcases hj with rfl | rfl | rfl
  · simp at hv; subst hv
    exact (World.cell?_setCell_other _ _ _ _ (ne (by omega))).trans ((World.cell?_setCell_other _ _ _ _ (ne (by omega))).trans (World.cell?_setCell_same _ _ _ h0))
  · simp at hv; subst hv
    exact (World.cell?_setCell_other _ _ _ _ (ne (by omega))).trans (World.cell?_setCell_same _ _ _ c1)
  · simp at hv; subst hv
    exact World.cell?_setCell_same _ _ _ c2

set_option maxHeartbeats 1600000 in
theorem rpatch_any (r : Nat) (x : List UInt8 × Bool) (w : World) (h : RestP w r x) :
    Calls Tryz.prog 160 #[.pointer (some ⟨r, 0, none⟩)] w fun e w' => ∃ t : ByteArray, e = .returned (.agg #[.int .i64 (rPt x).1.1, .int .i64 (rPt x).1.2.1, .string t]) ∧ t.data.toList = (rPt x).1.2.2 ∧ RestP w' r (rPt x).2 ∧ Kept (fun j => j = r) w w' := by
  have hrl := h.lt
  obtain ⟨w0, hw0⟩ : ∃ w0, w0 = w.alloc (.cells #[.int .i64 0, .int .i64 0, .string ⟨#[]⟩] 226) := ⟨_, rfl⟩
  have hr0 : RestP w0 r x := by rw [hw0]; exact h.block (Below.heap_alloc _ _ _ hrl)
  have hg0 : w0.heap[w.heap.size]? = some (.cells #[.int .i64 0, .int .i64 0, .string ⟨#[]⟩] 226 (0, 0)) := by rw [hw0]; exact heap_alloc_new w _
  have hb0 : Below w.heap.size w w0 := by rw [hw0]; exact (Below.refl _ _).alloc (Nat.le_refl _) _
  have hs0 : w0.heap.size = w.heap.size + 1 := by rw [hw0]; simp
  have HN1 := Lib.hid (rnumber_p r x 2 w0 hr0 (by omega))
  rw [hw0] at HN1
  obtain ⟨n1, hn1⟩ : ∃ n, n = (rNum x 2).1 := ⟨_, rfl⟩
  obtain ⟨x1, hx1⟩ : ∃ y, y = (rNum x 2).2 := ⟨_, rfl⟩
  obtain ⟨n2, hn2⟩ : ∃ n, n = (rNum x1 2).1 := ⟨_, rfl⟩
  obtain ⟨x2, hx2⟩ : ∃ y, y = (rNum x1 2).2 := ⟨_, rfl⟩
  obtain ⟨n3, hn3⟩ : ∃ n, n = (rNum x2 2).1 := ⟨_, rfl⟩
  obtain ⟨x3, hx3⟩ : ∃ y, y = (rNum x2 2).2 := ⟨_, rfl⟩
  have l1 : n1 < 65536 := by rw [hn1]; exact rNum_lt x 2
  have l2 : n2 < 65536 := by rw [hn2]; exact rNum_lt x1 2
  have l3 : n3 < 65536 := by rw [hn3]; exact rNum_lt x2 2
  have hpt : rPt x = ((n1, n2, (rTk x3.1 x3.2 n3).1), (rTk x3.1 x3.2 n3).2) := by
    unfold rPt
    simp only
    rw [← hx1, ← hx2, ← hx3, ← hn1, ← hn2, ← hn3]
  rw [hpt]
  rw [← hn1, ← hx1] at HN1
  have HX2 : Hid (n2 = (rNum x1 2).1 ∧ x2 = (rNum x1 2).2 ∧ n3 = (rNum x2 2).1 ∧ x3 = (rNum x2 2).2) := Lib.hid ⟨hn2, hx2, hn3, hx3⟩
  have v1 : IntKind.i64.wrap (n1 : Int) = (n1 : Int) := IntWalk.i64_in _ (by omega)
  have v2 : IntKind.i64.wrap (n2 : Int) = (n2 : Int) := IntWalk.i64_in _ (by omega)
  have v3 : IntKind.i64.wrap (n3 : Int) = (n3 : Int) := IntWalk.i64_in _ (by omega)
  have HW0 := Lib.hid hw0; have HG0 := Lib.hid hg0; have HB0 := Lib.hid hb0; have HS0 := Lib.hid hs0
  clear h hw0 hr0 hg0 hb0 hs0 hn1 hx1 hn2 hx2 hn3 hx3 hpt
  go_enter Tryz.func160, Tryz.ntmps160
  go_wp2_with fail
  refine HN1.out.mono ?_
  rintro e w1 ⟨rfl, hr1, hk1⟩
  rw [← HW0.out] at hk1
  have hn := rnumber_p r x1 2 w1 hr1 (by omega)
  rw [← HX2.out.1, ← HX2.out.2.1] at hn
  have HN2 := Lib.hid hn
  have HK1 := Lib.hid hk1
  clear hn hr1 hk1
  go_wp2_with fail
  refine HN2.out.mono ?_
  rintro e w2 ⟨rfl, hr2, hk2⟩
  have hk02 := HK1.out.trans hk2 (fun _ hi => .inl hi)
  have hk2s := Lib.hid hk2.size
  have hrl2 := hr2.lt
  obtain ⟨w3, hw3⟩ : ∃ w3, w3 = w2.alloc (.cells #[.int .i64 n1, .int .i64 n2, .string ⟨#[]⟩] 226) := ⟨_, rfl⟩
  have hr3 : RestP w3 r x2 := by rw [hw3]; exact hr2.block (Below.heap_alloc _ _ _ hrl2)
  have hg3 : w3.heap[w2.heap.size]? = some (.cells #[.int .i64 n1, .int .i64 n2, .string ⟨#[]⟩] 226 (0, 0)) := by rw [hw3]; exact heap_alloc_new w2 _
  have hk03 : Kept (fun j => j = r) w0 w3 := hk02.trans (Kept.ofBelow (S := fun j => j = r) (by rw [hw3]; exact (Below.refl _ _).alloc (Nat.le_refl _) _)) (fun _ hi => .inl hi)
  have hn := rnumber_p r x2 2 w3 hr3 (by omega)
  rw [← HX2.out.2.2.1, ← HX2.out.2.2.2, hw3] at hn
  have HN3 := Lib.hid hn
  have HW3 := Lib.hid hw3; have HG3 := Lib.hid hg3; have HK3 := Lib.hid hk03; have HRL2 := Lib.hid hrl2
  clear hn hk2 hk02 hr2 hrl2 hw3 hr3 hg3 hk03
  go_wp2_with fail
  refine HN3.out.mono ?_
  rintro e w4 ⟨rfl, hr4, hk4⟩
  rw [← HW3.out] at hk4
  have HT := Lib.hid (rtake_p r x3 n3 w4 hr4)
  have HK4 := Lib.hid hk4
  clear hr4 hk4
  go_wp2_with fail
  refine HT.out.mono ?_
  rintro e w5 ⟨t, rfl, ht, hr5, hk5⟩
  have hk35 := HK4.out.trans hk5 (fun _ hi => .inl hi)
  have h2r : w2.heap.size ≠ r := by have := HRL2.out; omega
  have hg5 : w5.heap[w2.heap.size]? = some (.cells #[.int .i64 n1, .int .i64 n2, .string ⟨#[]⟩] 226 (0, 0)) := (hk35.block w2.heap.size (by rw [HW3.out]; simp) h2r).trans HG3.out
  have hk05 := HK3.out.trans hk35 (fun _ hi => .inl hi)
  have hwr : w.heap.size ≠ r := by omega
  have hg50 : w5.heap[w.heap.size]? = some (.cells #[.int .i64 0, .int .i64 0, .string ⟨#[]⟩] 226 (0, 0)) := (hk05.block w.heap.size (by have := HS0.out; omega) hwr).trans HG0.out
  have hAR : ¬ w2.heap.size = w.heap.size := by
    have h1 := HK3.out.size
    have h2 := HK1.out.size
    have h3 := HS0.out
    have h4 := hk2s.out
    omega
  have hRA : ¬ w.heap.size = w2.heap.size := fun e => hAR e.symm
  have a0 : w5.cell? ⟨w2.heap.size, 0, none⟩ = some (.int .i64 n1) := by rw [Lib.cell_of_heap hg5]; rfl
  have a1 : w5.cell? ⟨w2.heap.size, 1, none⟩ = some (.int .i64 n2) := by rw [Lib.cell_of_heap hg5]; rfl
  have a2 : w5.cell? ⟨w2.heap.size, 2, none⟩ = some (.string ⟨#[]⟩) := by rw [Lib.cell_of_heap hg5]; rfl
  have f2 : w5.frozen? ⟨w2.heap.size, 2, none⟩ = false := Lib.frozen_of_heap hg5 _
  have b0 : w5.cell? ⟨w.heap.size, 0, none⟩ = some (.int .i64 0) := by rw [Lib.cell_of_heap hg50]; rfl
  have b1 : w5.cell? ⟨w.heap.size, 1, none⟩ = some (.int .i64 0) := by rw [Lib.cell_of_heap hg50]; rfl
  have b2 : w5.cell? ⟨w.heap.size, 2, none⟩ = some (.string ⟨#[]⟩) := by rw [Lib.cell_of_heap hg50]; rfl
  have e0 : w5.frozen? ⟨w.heap.size, 0, none⟩ = false := Lib.frozen_of_heap hg50 _
  have e1 : w5.frozen? ⟨w.heap.size, 1, none⟩ = false := Lib.frozen_of_heap hg50 _
  have e2 : w5.frozen? ⟨w.heap.size, 2, none⟩ = false := Lib.frozen_of_heap hg50 _
  have HE : Hid (RestP ((((w5.setCell ⟨w2.heap.size, 2, none⟩ (.string t)).setCell ⟨w.heap.size, 0, none⟩ (.int .i64 n1)).setCell ⟨w.heap.size, 1, none⟩ (.int .i64 n2)).setCell ⟨w.heap.size, 2, none⟩ (.string t)) r (rTk x3.1 x3.2 n3).2 ∧
      Kept (fun j => j = r) w ((((w5.setCell ⟨w2.heap.size, 2, none⟩ (.string t)).setCell ⟨w.heap.size, 0, none⟩ (.int .i64 n1)).setCell ⟨w.heap.size, 1, none⟩ (.int .i64 n2)).setCell ⟨w.heap.size, 2, none⟩ (.string t))) := Lib.hid (by
    have hn1 : r ≠ w2.heap.size := fun e => h2r e.symm
    have hn2 : r ≠ w.heap.size := fun e => hwr e.symm
    refine ⟨(((hr5.block (Below.heap_setCell _ _ _ _ hn1)).block (Below.heap_setCell _ _ _ _ hn2)).block (Below.heap_setCell _ _ _ _ hn2)).block (Below.heap_setCell _ _ _ _ hn2), ?_⟩
    have hA2 : w.heap.size ≤ w2.heap.size := by
      have h2 := HK1.out.size
      have h3 := HS0.out
      have h4 := hk2s.out
      omega
    have k0 : Kept (fun j => j = r) w w5 := (Kept.ofBelow (S := fun j => j = r) HB0.out).trans hk05 (fun _ hi => .inl hi)
    exact (((k0.trans (Kept.setCell (fun j => j = w2.heap.size) _ (b := w2.heap.size) rfl _) (fun i hi => .inr (by omega))).trans (Kept.setCell (fun j => j = w.heap.size) _ (b := w.heap.size) rfl _) (fun i hi => .inr (by omega))).trans (Kept.setCell (fun j => j = w.heap.size) _ (b := w.heap.size) rfl _) (fun i hi => .inr (by omega))).trans (Kept.setCell (fun j => j = w.heap.size) _ (b := w.heap.size) rfl _) (fun i hi => .inr (by omega)))
  have HTT := Lib.hid ht
  clear hk5 hk35 hg5 hk05 hg50 hr5 ht h2r hwr
  go_wp2
  refine bodyPost_ret (v := .agg #[.int .i64 n1, .int .i64 n2, .string t]) ?_ rfl ⟨t, rfl, HTT.out, HE.out⟩
  refine results_pt Tryz.results160 _ _ w.heap.size [.int .i64 n1, .int .i64 n2, .string t] rfl (by rfl) ?_
  have hoo : ∀ i, (w5.setCell ⟨w2.heap.size, 2, none⟩ (.string t)).cell? ⟨w.heap.size, i, none⟩ = w5.cell? ⟨w.heap.size, i, none⟩ := fun i => World.cell?_setCell_other _ _ _ _ (fun e => by injection e with e _ _; exact hAR e)
  exact range3 _ _ _ _ _ _ _ _ ((hoo 0).trans b0) ((hoo 1).trans b1) ((hoo 2).trans b2)
end Go.Proofs.YtefddiikdamnbaaGreatDoor

/- What a record tells: all patches; headOf where there is no head. -/
set_option maxRecDepth 100000
namespace Go.Proofs.YtefddiikdamnbaaGreatDoor
open Go.RowKit

theorem results_head2 {fn : Func} {p q : Tmp} (h : fn.results = #[.cell p 37, .tmp q]) (tmps : Array Value) (w : World) (g : Nat) (hh : Hd) (k : hh.Len) (v : Value) (hp : tmps.getD p undef = .pointer (some ⟨g, 0, none⟩)) (hq : tmps.getD q undef = v) (hg : HdAt w g 0 hh) :
    (results fn tmps).run Tryz.prog w = .ok (.tuple #[.agg hh.cells.toArray, v]) w := by
  have hp' : tmps[p]?.getD undef = .pointer (some ⟨g, 0, none⟩) := by simpa using hp
  have hq' : tmps[q]?.getD undef = v := by simpa using hq
  simp [results, h, hp', hq', asAddr, run_loadVar_mid (P := Tryz.prog) w g 0 37 hh.cells _ hg Tryz.underlying37 rfl k.size']
theorem results_head3 {fn : Func} {p q u : Tmp} (h : fn.results = #[.cell p 37, .tmp q, .tmp u]) (tmps : Array Value) (w : World) (g : Nat) (hh : Hd) (k : hh.Len) (v y : Value) (hp : tmps.getD p undef = .pointer (some ⟨g, 0, none⟩)) (hq : tmps.getD q undef = v) (hu : tmps.getD u undef = y) (hg : HdAt w g 0 hh) :
    (results fn tmps).run Tryz.prog w = .ok (.tuple #[.agg hh.cells.toArray, v, y]) w := by
  have hp' : tmps[p]?.getD undef = .pointer (some ⟨g, 0, none⟩) := by simpa using hp
  have hq' : tmps[q]?.getD undef = v := by simpa using hq
  have hu' : tmps[u]?.getD undef = y := by simpa using hu
  simp [results, h, hp', hq', hu', asAddr, run_loadVar_mid (P := Tryz.prog) w g 0 37 hh.cells _ hg Tryz.underlying37 rfl k.size']

set_option maxHeartbeats 1600000 in
theorem headOf_short (s : ByteArray) (w : World) (h : (rHd (s.data.toList, false)).2.2 = true) :
    Calls Tryz.prog 103 #[.string s] w fun e w' => e = .returned (.tuple #[.agg Hd.zero.cells.toArray, .bool false]) ∧ Below w.heap.size w w' := by
  obtain ⟨Z, hZ⟩ : ∃ Z : Array Value, Z = Hd.zero.cells.toArray := ⟨_, rfl⟩
  have HEX : Hid (∀ (a : Act) (o : Oper) (_ : o.op = .alloc 37) (W : World), (execOp a.eval o).run Tryz.prog W = .ok (.value (.pointer (some ⟨W.heap.size, 0, none⟩))) (W.alloc (.cells Z 37))) := Lib.hid (by rw [hZ]; exact fun _ _ ho W => exec_alloc_head ho W)
  obtain ⟨w1, hw1⟩ : ∃ w1, w1 = (w.alloc (.cells Z 37)).alloc (.cells #[.string s, .bool false] 223) := ⟨_, rfl⟩
  have hs1 : w1.heap.size = w.heap.size + 2 := by rw [hw1]; simp
  have hb1 : Below w.heap.size w w1 := by rw [hw1]; exact ((Below.refl _ _).alloc (Nat.le_refl _) _).alloc (by simp) _
  have hg1 : w1.heap[w.heap.size + 1]? = some (.cells #[.string s, .bool false] 223 (0, 0)) := by rw [hw1]; exact heap_alloc2_new w _ _
  have hv1 : HvAt w1 w.heap.size Hd.zero := by rw [hw1, hZ]; exact (HvAt.new w Hd.zero).block (Below.heap_alloc _ _ _ (by simp))
  have hr1 : RestP w1 (w.heap.size + 1) (s.data.toList, false) := ⟨s, ⟨by rw [Lib.cell_of_heap hg1]; rfl, by rw [Lib.cell_of_heap hg1]; rfl, fun j => Lib.frozen_of_heap hg1 _⟩, rfl⟩
  have HRH := Lib.hid (rhead_any (w.heap.size + 1) _ w1 hr1)
  rw [hw1] at HRH
  obtain ⟨f, hf⟩ : ∃ f, f = (rHd (s.data.toList, false)).1 := ⟨_, rfl⟩
  obtain ⟨y, hy⟩ : ∃ y, y = (rHd (s.data.toList, false)).2 := ⟨_, rfl⟩
  have hfl : f.Len := by rw [hf]; exact rHd_len _
  rw [← hf, ← hy] at HRH
  rw [← hy] at h
  obtain ⟨F, hF⟩ : ∃ F : Array Value, F = f.cells.toArray := ⟨_, rfl⟩
  rw [← hF] at HRH
  have HS2 : Hid ((Tryz.prog.info? 37).map (·.size) = some F.size) := Lib.hid (by rw [hF]; exact hfl.size)
  have HA2 : Hid (F.all (·.oneCell') = true) := Lib.hid (by rw [hF]; exact Hd.all_one _)
  have HT2 : Hid (∀ W : World, (W.alloc (.cells Z 37)).there W.heap.size 0 F.size) := Lib.hid (fun W => by
    have := (HvAt.new W Hd.zero).there Hd.zero_len
    have e : F.size = 81 := by rw [hF, List.size_toArray, hfl.cells]
    rw [← hZ] at this
    rw [e]; exact this)
  have HK : Hid (∀ W : World, Kept (fun j => j = W.heap.size) (W.alloc (.cells Z 37)) ((W.alloc (.cells Z 37)).setCells W.heap.size 0 F.toList)) := Lib.hid (fun W => Kept.setCells (fun j => j = W.heap.size) _ (fb := W.heap.size) rfl _)
  have HH := Lib.hid h; have HW1 := Lib.hid hw1; have HB1 := Lib.hid hb1; have HV1 := Lib.hid hv1; have HS1 := Lib.hid hs1
  have hs2 := Hd.zero_len.size
  have ha1 := Hd.all_one Hd.zero
  have hb0 := built_head0
  rw [← hZ] at hs2 ha1 hb0
  have HZ2 := Lib.hid hs2; have HZA := Lib.hid ha1; have HB00 := Lib.hid hb0
  have hZl : Z.toList = Hd.zero.cells := by rw [hZ, List.toList_toArray]
  have HZL := Lib.hid hZl; have HZ := Lib.hid hZ
  clear h hZ hw1 hs1 hb1 hg1 hv1 hr1 hf hy hfl hF hs2 ha1 hb0 hZl
  go_enter Tryz.func103, Tryz.ntmps103
  go_wp2_with (refine wpList_val rfl _ (HEX.out _ _ rfl _) ?_)
  refine HRH.out.mono ?_
  rintro e w2 ⟨rfl, hr2, hk2⟩
  rw [← HW1.out] at hk2
  obtain ⟨w3, hw3⟩ : ∃ w3, w3 = (w2.alloc (.cells Z 37)).setCells w2.heap.size 0 F.toList := ⟨_, rfl⟩
  have hk13 : Kept (fun j => j = w.heap.size + 1) w1 w3 := by
    rw [hw3]
    exact (hk2.trans (Kept.ofBelow (S := fun j => j = w.heap.size + 1) ((Below.refl _ w2).alloc (Nat.le_refl _) _)) (fun _ hi => .inl hi)).trans (HK.out w2) (fun i hi => .inr (by have := hk2.size; omega))
  have hs2' := hk2.size
  have hr3 : RestP w3 (w.heap.size + 1) y := by
    have h1 := hr2.block (Below.heap_alloc w2 (.cells Z 37) _ hr2.lt)
    rw [hw3]
    exact h1.block ((HK.out w2).block (w.heap.size + 1) (by have := hr2.lt; simp; omega) (by have := hr2.lt; omega))
  obtain ⟨s3, hs3, _⟩ := hr3
  have c1 := hs3.short
  rw [HH.out] at c1
  have hv3 : HvAt w3 w.heap.size Hd.zero := HV1.out.kept hk13 (by omega)
  obtain ⟨hv4, hk4⟩ := hv3.put Hd.zero_len Hd.zero_len
  have HTH : Hid (w3.there w.heap.size 0 Z.size) := Lib.hid (by
    have e : Z.size = 81 := by rw [HZ.out, List.size_toArray, Hd.zero_len.cells]
    rw [e]; exact hv3.there Hd.zero_len)
  have HE : Hid (HdAt (w3.setCells w.heap.size 0 Hd.zero.cells) w.heap.size 0 Hd.zero ∧ Below w.heap.size w (w3.setCells w.heap.size 0 Hd.zero.cells)) := Lib.hid ⟨hv4.1, by
    have h0 := HS1.out
    have h1 : Below w.heap.size w1 w3 := hk13.toBelow (by omega) (fun i hi => by omega)
    exact (HB1.out.trans h1).trans (hk4.toBelow (Nat.le_trans (by omega) h1.size) (fun i hi => by omega))⟩
  have HW3 : Hid ((w2.alloc (.cells Z 37)).setCells w2.heap.size 0 F.toList = w3) := Lib.hid hw3.symm
  clear hr2 hk2 hw3 hk13 hs2' hs3 hv3 hv4 hk4
  go_wp2_with (first
    | (refine wpList_val rfl _ (HEX.out _ _ rfl _) ?_)
    | (refine wpList_store_mid rfl 37 _ _ rfl w2.heap.size 0 F (by rfl) (by rfl) (HT2.out w2) HS2.out HA2.out ?_; rw [HW3.out])
    | (refine wpList_val rfl _ (exec_build rfl [] (by simp [go_sem]) Z HB00.out _) ?_)
    | (refine wpList_store_mid rfl 37 _ _ rfl w.heap.size 0 Z (by rfl) (by rfl) HTH.out HZ2.out HZA.out ?_; rw [HZL.out]))
  exact bodyPost_ret (v := .tuple #[.agg Hd.zero.cells.toArray, .bool false]) (results_head2 Tryz.results103 _ _ w.heap.size Hd.zero Hd.zero_len _ (by rfl) (by rfl) HE.out.1) rfl ⟨rfl, HE.out.2⟩
end Go.Proofs.YtefddiikdamnbaaGreatDoor
