/- Texts of the same proof, one behind the other: SZM, XAR, XBC, XBD. -/
import Derived.Test.YtefddiikdamnbaaGreatDoorMAL
import Derived.Test.YtefddiikdamnbaaGreatDoorMBO
import Derived.Test.YtefddiikdamnbaaGreatDoorMBL
import Derived.Deep.CutRange
import Derived.Deep.RegionHeld
/- The law's awake. -/
set_option maxRecDepth 100000
namespace Go.Proofs.YtefddiikdamnbaaGreatDoor
open Go.RowKit

def aS : ByteArray := ⟨#[97]⟩
def nowA : List UInt8 := splice noughts 0 aS.data.toList
def hA : Hd := (Hd.zero.setCount 1).setRoot 3 1
def psA : List Pt := [⟨1, 0, ⟨#[]⟩⟩, ⟨1, 0, aS⟩]
def yA (b : Nat) : Dr := Dr.put ⟨b, true, noughts, noughts⟩ 0 aS.data.toList
theorem short0 (ops : List RawOp) (rs : List ByteArray) (h : JL rs [] ops) : (rHd (play ops 2, false)).2.2 = true := by rw [h.2]; decide +kernel

end Go.Proofs.YtefddiikdamnbaaGreatDoor

/- A space on an empty disk, and an action of it, by the book. -/
set_option maxRecDepth 100000
namespace Go.Proofs.YtefddiikdamnbaaGreatDoor
open Go.RowKit

theorem zero_has (q : Nat) : ¬ Hd.zero.has q := fun h => by
  have h1 := h.1; have h2 := h.2.1
  have h3 : Hd.zero.count = 0 := rfl
  omega
theorem zero_root (r : Nat) : Hd.zero.root r = 0 := by
  unfold Hd.root Hd.zero
  simp only [List.getD_eq_getElem?_getD]
  rcases Nat.lt_or_ge r 16 with h | h
  · rw [List.getElem?_replicate, if_pos h]; rfl
  · rw [List.getElem?_eq_none (by simpa using h)]; rfl

/-- A space on an empty disk, and an action of it, as an action is seen. -/
def Fresh (B : Nat) (c : Ac) (S : Nat → Prop) (w : World) : Prop := ActV (JL [] []) B S c Hd.zero c.C w ∧ ∀ q, (c.C q).length = 512
theorem live_actw {B : Nat} {S3 : Nat → Prop} {c : Ac} {h : Hd} {w : World} {m : Nat} {J : List RawOp → Prop} (h3 : LiveSt J B S3 c.a c.s c.d c.l c.p c.db m c.n c.C c.N c.last h (fun _ => none) w) (hJ : Saves J) (hN : c.N ≤ 4398046511000) (hT : Tab w) (hB : 1 ≤ B) (hh : ∀ q, h.has q → c.last.has q) : ActV J B (fun k => S3 k ∨ k = c.a ∨ k = c.s ∨ k = c.l ∨ k = c.db) c h c.C w := by
  have hlt : c.a < w.heap.size ∧ c.s < w.heap.size ∧ c.l < w.heap.size ∧ c.db < w.heap.size := ⟨h3.act.ac.lt, h3.act.sp.lt, h3.lg.lt, h3.act.dr.ltM⟩
  obtain ⟨l1, l2, l3, l4, _⟩ := h3.low
  refine ⟨⟨m, fun _ => none, S3, h3, fun k hk => .inl hk, (fun q x hq => by cases hq), ⟨(fun q x hq => by cases hq), (fun q x hq => by cases hq), fun q hq _ => hh q hq⟩, fun q _ => rfl⟩, ⟨.inr (.inl rfl), .inr (.inr (.inl rfl)), .inr (.inr (.inr (.inl rfl))), .inr (.inr (.inr (.inr rfl)))⟩, fun k hk => ?_, hJ, hN, hT, hB⟩
  rcases hk with hk | rfl | rfl | rfl | rfl
  · exact h3.pool.low k hk
  · exact ⟨l1, hlt.1⟩
  · exact ⟨l2, hlt.2.1⟩
  · exact ⟨l3, hlt.2.2.1⟩
  · exact ⟨l4, hlt.2.2.2⟩
theorem live_actv {B : Nat} {S3 : Nat → Prop} {c : Ac} {h : Hd} {w : World} {m : Nat} {J : List RawOp → Prop} (h3 : LiveSt J B S3 c.a c.s c.d c.l c.p c.db m c.n c.C c.N c.last h (fun _ => none) w) (hJ : Saves J) (hN : c.N ≤ 4398046511000) (hT : Tab w) (hB : 1 ≤ B) (hh : ∀ q, h.has q → c.last.has q) : ∃ S, ActV J B S c h c.C w :=
  ⟨_, live_actw h3 hJ hN hT hB hh⟩
set_option maxHeartbeats 1600000 in
theorem begun_ok0 (w : World) (hT : Tab w) : Calls Tryz.prog 26 #[] w fun e w' => ∃ (c : Ac) (S : Nat → Prop), e = .returned (.tuple #[.pointer (some ⟨c.d, 0, none⟩), .pointer (some ⟨c.s, 0, none⟩), .pointer (some ⟨c.a, 0, none⟩), .bool true]) ∧ Fresh w.heap.size c S w' ∧ Below w.heap.size w w' ∧ c.last = Hd.zero ∧ c.N = 0 := by
  obtain ⟨B, hBe⟩ : ∃ B, B = w.heap.size := ⟨_, rfl⟩
  have hB1 : 1 ≤ B := by rw [hBe]; exact hT.1
  have HT := Lib.hid hT
  have HBE := Lib.hid hBe
  clear hBe hT
  go_enter Tryz.func26, Tryz.ntmps26
  go_wp2_with fail
  refine (new_disk _).mono ?_
  rintro e w1 ⟨rfl, hd1, hb1⟩
  rw [← HBE.out] at hd1 hb1 ⊢
  have HB1 := Lib.hid hb1
  have HD1 := Lib.hid hd1.bound; clear hd1 hb1
  go_wp2_with fail
  refine (open_sp (J := JL [] []) (B := B) (n := 16) (N := 0) [] [] [] HD1.out (fun k hk => hk) rfl (fun r hr => by cases hr) (by omega) (by omega) (by simp) ⟨rfl, rfl⟩ rfl (fun i h1 => by simp at h1) (by decide) Hd.zero_ok (Saves.jl _ _) (fun ops h => short0 ops _ h) (by have := HB1.out.size; have := HBE.out; omega)).mono ?_
  rintro e w2 ⟨s, l, p, S2, rfl, hs2, hb2⟩
  have HB2 := Lib.hid (HB1.out.trans hb2); have HS2 := Lib.hid hs2; clear hs2 hb2
  go_wp2_with fail
  refine (begin_sp HS2.out).mono ?_
  rintro e w3 ⟨a, db, rfl, h3, hb3, _⟩
  have HB3 := Lib.hid (HB2.out.trans hb3); have H3 := Lib.hid h3; clear h3 hb3 HS2
  have hT3 : Tab w3 := HT.out.below (HB3.out.mono (by have := HBE.out; omega)) (by have := HBE.out; have := HT.out.1; omega)
  have HAV := Lib.hid (live_actv (c := ⟨a, s, B, l, p, db, 16, resN 0 [], resC (fun q => pageOf (play [] 1) q) [], resH Hd.zero []⟩) H3.out (Saves.jl _ _) (by show resN 0 [] ≤ _; decide) hT3 hB1 (fun q hq => hq))
  clear hT3
  go_wp2
  refine bodyPost_ret (v := .tuple #[.pointer (some ⟨B, 0, none⟩), .pointer (some ⟨s, 0, none⟩), .pointer (some ⟨a, 0, none⟩), .bool true]) (by simp [results, Tryz.results26, go_sem]) rfl ?_
  obtain ⟨S, hA⟩ := HAV.out
  refine ⟨⟨a, s, B, l, p, db, 16, resN 0 [], resC (fun q => pageOf (play [] 1) q) [], resH Hd.zero []⟩, S, rfl, ⟨?_, fun q => ?_⟩, by rw [← HBE.out]; exact HB3.out, rfl, rfl⟩
  · rw [← HBE.out]; exact hA
  · exact pageOf_length _ _
theorem begun_ok (w : World) (hT : Tab w) : Calls Tryz.prog 26 #[] w fun e w' => ∃ (c : Ac) (S : Nat → Prop), e = .returned (.tuple #[.pointer (some ⟨c.d, 0, none⟩), .pointer (some ⟨c.s, 0, none⟩), .pointer (some ⟨c.a, 0, none⟩), .bool true]) ∧ Fresh w.heap.size c S w' ∧ Below w.heap.size w w' :=
  (begun_ok0 w hT).mono fun _ _ ⟨c, S, h1, h2, h3, _⟩ => ⟨c, S, h1, h2, h3⟩
end Go.Proofs.YtefddiikdamnbaaGreatDoor

/- An index as what it holds; New, Insert and Find by that; what must come whatever the arguments are. -/
set_option maxRecDepth 100000
namespace Go.Proofs.YtefddiikdamnbaaGreatDoor.Dm
open Go Go.RowKit

theorem turn_below {S S' : Nat → Prop} {B : Nat} {w0 w w' : World} (h0 : Below B w0 w) (hB : B ≤ w0.heap.size) (hlow : ∀ k, S k → B ≤ k) (h : Turn S w S' w') : Below B w0 w' :=
  h0.trans (h.1.toBelow (Nat.le_trans hB h0.size) hlow)
/-- An index that holds the entries l, in n buckets. -/
def HxL (J : List RawOp → Prop) (B : Nat) (c : Ac) (hb r : Nat) (UL : List Nat) (S : Nat → Prop) (l : List Et) (n : Nat) (w : World) : Prop :=
  ∃ h G ch, ActV J B S c h G w ∧ HxAt w hb c.a r ∧ ¬ S hb ∧ HxOn h G (h.root r) n ch UL ∧ (∀ y, y ∈ l ↔ Holds ch y) ∧ l.Nodup ∧ cntE n ch = l.length
section
variable {J : List RawOp → Prop} {B : Nat} {S S' : Nat → Prop} {c : Ac} {w0 w w' : World} {hb r n : Nat} {UL : List Nat} {l : List Et} {x : En}
/-- How the memory has come to an index. -/
def HxB (w0 : World) (J : List RawOp → Prop) (B : Nat) (c : Ac) (hb r : Nat) (l : List Et) (n : Nat) (w : World) : Prop := ∃ S, HxL J B c hb r [] S l n w ∧ Below B w0 w ∧ B ≤ w0.heap.size ∧ ∀ k, S k → B ≤ k
theorem HxB.bel (x : HxB w0 J B c hb r l n w) : Below B w0 w := by
  obtain ⟨S, _, h2, _⟩ := x
  exact h2
theorem HxB.below (x : HxB w0 J B c hb r l n w) (h : Below w.heap.size w w') : HxB w0 J B c hb r l n w' := by
  obtain ⟨S, ⟨hd, G, ch, h1, h2, h3, h4⟩, h5, h6, h7⟩ := x
  exact ⟨S, ⟨hd, G, ch, h1.below h, h2.below h, h3, h4⟩, h5.trans (h.mono (Nat.le_trans h6 h5.size)), h6, h7⟩
theorem hb_insert (act : HxB w0 J B c hb r l n w) (hr : r < 16) (hl : l.length ≤ 4000) (hx : x.In w) (hi : InE x.c) (hnin : x.c ∉ l) (hd : l.length + 1 ≤ 16 * n) :
    Calls Tryz.prog 42 #[.pointer (some ⟨hb, 0, none⟩), x.v] w fun y w' => y = .returned (.int .i64 0) ∧ Hid (HxB w0 J B c hb r (l ++ [x.c]) n w') := by
  obtain ⟨S, ⟨h, G, ch, h1, h2, h3, h4, h5, h6, h7⟩, h8, h9, h10⟩ := act
  refine (insert_h h1 h2 h3 hr h4 (by simp; omega) hx (fun e => by omega)).mono ?_
  rintro y w' ⟨S', tu, ⟨e1, _, _⟩ | ⟨_, e1, _, _⟩ | ⟨_, _, rfl, h', G', x', n', ch', on', _, _, hm, hc, hn⟩⟩
  · exact absurd ((refE_zero (In_nums hx)).2 hi) e1
  · exact absurd ((h5 _).2 e1) hnin
  · have hn2 : n' = n := by rw [hn, if_neg (by omega)]
    subst hn2
    refine ⟨rfl, Lib.hid ⟨S', ⟨h', G', ch', x', h2.kept tu.1 h3, fun e => h3 (tu.2 hb h2.lt e), on', fun y => ?_, ?_, by rw [hc, h7]; simp⟩, turn_below h8 h9 h10 tu, h9, fun k hk => (x'.low k hk).1⟩⟩
    · rw [List.mem_append, List.mem_singleton, hm y, h5 y]
    · exact List.nodup_append.2 ⟨h6, by simp, fun a ha b hb e => by rw [List.mem_singleton.1 hb] at e; exact hnin (e ▸ ha)⟩
/-- An index, and numbers beside it. -/
def HxN (w0 : World) (J : List RawOp → Prop) (B : Nat) (c : Ac) (hb r : Nat) (l : List Et) (n : Nat) (v : Value) (m : List Nat) (w : World) : Prop := ∃ S, HxL J B c hb r [] S l n w ∧ Below B w0 w ∧ B ≤ w0.heap.size ∧ (∀ k, S k → B ≤ k) ∧ NumsI w v m ∧ ∀ g, v.ownBlock = some g → ¬ S g
theorem HxN.to {v : Value} {m : List Nat} (x : HxN w0 J B c hb r l n v m w) : HxB w0 J B c hb r l n w := by
  obtain ⟨S, h1, h2, h3, h4, _⟩ := x
  exact ⟨S, h1, h2, h3, h4⟩
theorem hb_find (act : HxB w0 J B c hb r l n w) (hr : r < 16) (hl : l.length ≤ 4000) (hx : ∀ W, x.In W) (hk : KeyE x.d) :
    Calls Tryz.prog 43 #[.pointer (some ⟨hb, 0, none⟩), x.dv] w fun y w' => ∃ a m cp, y = .returned (.tuple #[.slice a (m : List Nat).length cp, .int .i64 0]) ∧ Hid (m.Pairwise (fun a b => a ≤ b) ∧ m.Perm (tidsE l x.d) ∧ HxN w0 J B c hb r l n (.slice a m.length cp) m w') := by
  obtain ⟨S, ⟨h, G, ch, h1, h2, h3, h4, h5, h6, h7⟩, h8, h9, h10⟩ := act
  refine (callsIn_wide.1 (find_ix h1 h2 h3 hr h4 (by simp; omega) (fun W _ => hx W))).mono ?_
  rintro y w' ⟨S', a, m, cp, rfl, m1, m2, m3, _, tu, x', mo⟩
  have h0 : refK x.d = 0 := (refK_key (In_nums (hx w))).2 hk
  rw [h0]
  refine ⟨a, m, cp, rfl, Lib.hid ⟨m2, ?_, S', ⟨h, G, ch, x', h2.kept tu.1 h3, fun e => h3 (tu.2 hb h2.lt e), h4, h5, h6, h7⟩, turn_below h8 h9 h10 tu, h9, fun k hk => (x'.low k hk).1, m1, mo⟩⟩
  refine (m3 h0).trans ?_
  unfold tidsE
  refine List.Perm.map _ ?_
  refine (List.perm_ext_iff_of_nodup ((h4.once _).filter _) (h6.filter _)).2 fun z => ?_
  simp only [List.mem_filter, decide_eq_true_eq]
  rw [h5 z, holds_bkt h4]
  constructor
  · rintro ⟨z1, z2⟩
    rw [z2]; exact ⟨z1, rfl⟩
  · rintro ⟨z1, z2⟩
    rw [z2] at z1; exact ⟨z1, z2⟩
theorem hb_buckets {v : Value} {m : List Nat} (act : HxN w0 J B c hb r l n v m w) (hr : r < 16) (hl : l.length ≤ 4000) :
    Calls Tryz.prog 37 #[.pointer (some ⟨hb, 0, none⟩)] w fun y w' => y = .returned (.tuple #[.int .i64 n, .int .i64 ((n - whole n : Nat) : Int)]) ∧ Hid (HxN w0 J B c hb r l n v m w') := by
  obtain ⟨S, ⟨h, G, ch, h1, h2, h3, h4, h5, h6, h7⟩, h8, h9, h10, h11, h12⟩ := act
  refine (buckets_h h1 h2 h3 hr h4 (by omega)).mono ?_
  rintro y w' ⟨rfl, S', tu, x'⟩
  exact ⟨rfl, Lib.hid ⟨S', ⟨h, G, ch, x', h2.kept tu.1 h3, fun e => h3 (tu.2 hb h2.lt e), h4, h5, h6, h7⟩, turn_below h8 h9 h10 tu, h9, fun k hk => (x'.low k hk).1, h11.kept tu.1 h12, fun g hg e => h12 g hg (tu.2 g (by
    obtain ⟨cur, hc⟩ := h11.block g hg
    exact (Array.getElem?_eq_some_iff.1 hc).1) e)⟩⟩
theorem hb_name (act : HxB w0 J B c hb r l n w) : Calls Tryz.prog 69 #[.pointer (some ⟨hb, 0, none⟩)] w fun y w' => y = .returned (.string ⟨#[104, 97, 115, 104]⟩) ∧ w' = w := by
  obtain ⟨S, ⟨h, G, ch, h1, h2, _⟩, _⟩ := act
  exact hx_name h2
end
theorem hb_new {B : Nat} {c : Ac} {S : Nat → Prop} {w0 w : World} (x : Fresh B c S w) (h0 : Below B w0 w) (hB : B ≤ w0.heap.size) (r : Nat) (hr : r < 16) :
    Calls Tryz.prog 28 #[.pointer (some ⟨c.a, 0, none⟩), .int .i64 r] w fun e w' => ∃ tb, e = .returned (.tuple #[.pointer (some ⟨tb, 0, none⟩), .int .i64 0]) ∧ Hid (HxB w0 (JL [] []) B c tb r [] 1 w') := by
  refine (hx_new x.1 r hr).mono ?_
  rintro e w' ⟨tb, rfl, h1, h2, h3⟩
  refine ⟨tb, rfl, Lib.hid ⟨S, ⟨Hd.zero, c.C, fun _ => [], x.1.below h3, h1, fun e => by have := (x.1.low tb e).2; omega, ?_, fun y => ?_, List.nodup_nil, ?_⟩, h0.trans (h3.mono (Nat.le_trans hB h0.size)), hB, fun k hk => (x.1.low k hk).1⟩⟩
  · rw [zero_root]
    exact HxOn.empty _ _ (fun q => ⟨fun h => absurd h (zero_has q), fun h => by cases h⟩)
  · exact ⟨(fun h => by cases h), fun ⟨b, hb⟩ => by simp [entsC] at hb⟩
  · show cntE (0 + 1) _ = 0
    rw [cntE_succ]
    rfl
/-- A number as a key. -/
def nmE (n t : Int) : En := ⟨1, n, ⟨#[]⟩, none, [], 0, t⟩
theorem nmE_in {n t : Int} (hn : I64 n) (ht : I64 t) (w : World) : (nmE n t).In w := ⟨.inl rfl, hn, (fun x hx => by cases hx), ht⟩
theorem nmE_key {n t : Int} (hn : I64 n) : KeyE (nmE n t).d := ⟨by rw [En.ok_d]; simp [nmE, En.ok, dOk, itemOk], ⟨hn, fun c hc => by cases hc⟩, .inl rfl⟩
theorem results_dat {fn : Func} {p : Tmp} (h : fn.results = #[.cell p 81]) (tmps : Array Value) (w : World) (g : Nat) (cs : List Value) (k : cs.length = 4) (hp : tmps.getD p undef = .pointer (some ⟨g, 0, none⟩)) (hg : w.heap[g]? = some (.cells cs.toArray 81 (0, 0))) :
    (results fn tmps).run Tryz.prog w = .ok (.agg cs.toArray) w := by
  have hp' : tmps[p]?.getD undef = .pointer (some ⟨g, 0, none⟩) := by simpa using hp
  have hr : w.rangeAt g 0 cs := fun j x hj => by
    rw [Nat.zero_add]
    exact (Lib.cell_of_heap hg j).trans (by simpa using hj)
  simp [results, h, hp', asAddr, run_loadVar_mid (P := Tryz.prog) w g 0 81 cs _ hr Tryz.underlying81 rfl (by rw [k]; kernel_rfl)]
theorem num11 (n : Int) (w : World) : Calls Tryz.prog 32 #[.int .i64 n] w fun e w' => e = .returned (.agg #[.int .i64 1, .int .i64 n, .string ⟨#[]⟩, .slice none 0 0]) ∧ Below w.heap.size w w' := by
  have hb := (Below.refl w.heap.size w).alloc (Nat.le_refl _) (.cells #[.int .i64 1, .int .i64 n, .string ⟨#[]⟩, .slice none 0 0] 81)
  have hn := heap_alloc_new w (.cells #[.int .i64 1, .int .i64 n, .string ⟨#[]⟩, .slice none 0 0] 81)
  go_enter Tryz.func32, Tryz.ntmps32
  go_wp2
  exact bodyPost_ret (results_dat rfl _ _ w.heap.size [.int .i64 1, .int .i64 n, .string ⟨#[]⟩, .slice none 0 0] rfl rfl hn) rfl ⟨rfl, hb⟩
set_option maxHeartbeats 3200000 in
theorem awake11 (w : World) (hT : Tab w) : Calls Tryz.prog 27 #[] w fun e w' => e = .returned (.bool true) ∧ Below w.heap.size w w' := by
  have HT := Lib.hid hT
  clear hT
  obtain ⟨B, hBe⟩ : ∃ B, B = w.heap.size := ⟨_, rfl⟩
  have HBE := Lib.hid hBe
  rw [← hBe]
  clear hBe
  go_enter Tryz.func27, Tryz.ntmps27
  go_wp2_with fail
  refine (begun_ok w HT.out).mono ?_
  rintro e w1 ⟨c, S, rfl, hf, hb1⟩
  rw [← HBE.out] at hf hb1
  have HF := Lib.hid hf
  have HB1 := Lib.hid hb1
  clear hf hb1
  go_wp2_with fail
  refine (hb_new HF.out HB1.out (by have := HBE.out; omega) 2 (by omega)).mono ?_
  rintro e w2 ⟨tb, rfl, H2⟩
  clear HF HB1
  go_wp2_with fail
  refine (num11 5 w2).mono ?_
  rintro e w3 ⟨rfl, hb3⟩
  have H3 := Lib.hid (H2.out.below hb3)
  clear hb3 H2
  go_wp2_with fail
  refine (hb_insert (x := nmE 5 1) H3.out (by omega) (by simp) (nmE_in ⟨by omega, by omega⟩ ⟨by omega, by omega⟩ _) ⟨nmE_key ⟨by omega, by omega⟩, by decide, by decide⟩ (by simp) (by simp)).mono ?_
  rintro e w4 ⟨rfl, H4⟩
  clear H3
  go_wp2_with fail
  refine (num11 5 w4).mono ?_
  rintro e w5 ⟨rfl, hb5⟩
  have H5 := Lib.hid (H4.out.below hb5)
  clear hb5 H4
  go_wp2_with fail
  refine (hb_insert (x := nmE 5 0) H5.out (by omega) (by simp) (nmE_in ⟨by omega, by omega⟩ ⟨by omega, by omega⟩ _) ⟨nmE_key ⟨by omega, by omega⟩, by decide, by decide⟩ (by decide) (by simp)).mono ?_
  rintro e w6 ⟨rfl, H6⟩
  clear H5
  go_wp2_with fail
  refine (num11 5 w6).mono ?_
  rintro e w7 ⟨rfl, hb7⟩
  have H7 := Lib.hid (H6.out.below hb7)
  clear hb7 H6
  go_wp2_with fail
  refine (hb_find (x := nmE 5 0) H7.out (by omega) (by simp) (fun W => nmE_in ⟨by omega, by omega⟩ ⟨by omega, by omega⟩ W) (nmE_key ⟨by omega, by omega⟩)).mono ?_
  rintro e w8 ⟨a, m, cp, rfl, HF8⟩
  clear H7
  obtain ⟨m2, m3, m4⟩ := HF8.out
  have hm : m = [0, 1] := by
    have h1 : tidsE ([] ++ [(nmE 5 1).c] ++ [(nmE 5 0).c]) (nmE 5 0).d = [1, 0] := by decide
    rw [h1] at m3
    have hlen := m3.length_eq
    match m, hlen, m2, m3 with
    | [x, y], _, m2, m3 =>
      have hxy : x ≤ y := by simpa using m2
      have hx : x ∈ [1, 0] := m3.subset (by simp)
      have hy : y ∈ [1, 0] := m3.subset (by simp)
      have h0 : 0 ∈ [x, y] := m3.symm.subset (by simp)
      have h1 : 1 ∈ [x, y] := m3.symm.subset (by simp)
      simp at hx hy h0 h1
      have : x = 0 ∧ y = 1 := by omega
      rw [this.1, this.2]
  subst hm
  have H8 := Lib.hid m4
  clear m2 m3 m4 HF8
  go_wp2_with fail
  refine (hb_buckets H8.out (by omega) (by simp)).mono ?_
  rintro e w9 ⟨rfl, H9⟩
  clear H8
  have hcell : ∃ g, a = some ⟨g, 0, none⟩ ∧ w9.cell? ⟨g, 1, none⟩ = some (.int .i64 1) := by
    obtain ⟨S, _, _, _, _, h5, _⟩ := H9.out
    rcases id h5.2 with ⟨_, h0⟩ | ⟨g, cap, cur, hv, _⟩
    · exact absurd h0 (by decide)
    · injection hv with hv _ _
      subst hv
      have := World.ownsRow.cells (w := w9) h5 (g := g) rfl 1 (.int .i64 (1 : Int)) (by simp)
      rw [Addr.add_lit, Nat.zero_add] at this
      exact ⟨g, rfl, this⟩
  obtain ⟨g, rfl, hc9⟩ := hcell
  have HNM := Lib.hid (hb_name H9.out.to)
  have HB9 := Lib.hid H9.out.to.bel
  have hne := neq_nil_hash
  clear H9
  go_wp2_with (go_at_call 69; refine HNM.out.mono ?_; rintro e w10 ⟨rfl, hw⟩; subst w10)
  go_ret
  exact ⟨rfl, HB9.out⟩
end Go.Proofs.YtefddiikdamnbaaGreatDoor.Dm

/- The walk of HashixNobody. -/
set_option maxRecDepth 100000
namespace Go.Proofs.YtefddiikdamnbaaGreatDoor.Dm
open Go Go.RowKit

/-- New for whatever number. -/
theorem hxnew_any {J : List RawOp → Prop} {B : Nat} {S : Nat → Prop} {c : Ac} {h : Hd} {G : Nat → List UInt8} {w : World} (x : ActV J B S c h G w) (n : Int) :
    Calls Tryz.prog 28 #[.pointer (some ⟨c.a, 0, none⟩), .int .i64 n] w fun e w' => ∃ (v : Value) (f : Int), e = .returned (.tuple #[v, .int .i64 f]) ∧ Hid ((∃ tb, v = .pointer (some ⟨tb, 0, none⟩) ∧ f = 0 ∧ 0 ≤ n ∧ n < 16) ∨ (v = .pointer none ∧ f = 1 ∧ ¬ (0 ≤ n ∧ n < 16))) ∧ Hid (Below w.heap.size w w') := by
  by_cases hq : 0 ≤ n ∧ n < 16
  · obtain ⟨h0, h1⟩ := hq
    obtain ⟨r, rfl⟩ := Int.eq_ofNat_of_zero_le h0
    refine (hx_new x r (by omega)).mono ?_
    rintro e w' ⟨tb, rfl, _, _, hb⟩
    exact ⟨_, _, rfl, Lib.hid (.inl ⟨tb, rfl, rfl, h0, h1⟩), Lib.hid hb⟩
  · refine (hx_bad _ n w hq).mono ?_
    rintro e w' ⟨rfl, rfl⟩
    exact ⟨_, _, rfl, Lib.hid (.inr ⟨rfl, rfl, hq⟩), Lib.hid (Below.refl _ _)⟩
theorem nohxB_zero (tb : Nat) (w : World) (h : w.heap[tb]? = some (.cells #[.pointer none, .pointer none, .int .i64 0] 102 (0, 0))) : NoHxB (.pointer (some ⟨tb, 0, none⟩)) w := fun W hW =>
  nohx_zero tb W ((Lib.cell_of_heap ((hW.block tb (Array.getElem?_eq_some_iff.1 h).1).trans h) 0).trans rfl)
/-- The two of the law's list. -/
theorem nobx_rows {w2 W0 : World} {L : Nat} (hW0 : W0 = (w2.alloc (.cells #[.pointer none, .pointer none, .int .i64 0] 102)).alloc (.cells #[.pointer none, .pointer (some ⟨w2.heap.size, 0, none⟩)] 70)) (hL : L = w2.heap.size + 1) :
    ∀ k, k < 2 → ∀ W, Below W0.heap.size W0 W → ∃ t, W.cell? ⟨L, k, none⟩ = some (.pointer t) ∧ NoHxB (.pointer t) W := by
  intro k hk W hb
  have hz : W0.heap.size = w2.heap.size + 2 := by rw [hW0]; simp
  have h1 : W0.heap[L]? = some (.cells #[.pointer none, .pointer (some ⟨w2.heap.size, 0, none⟩)] 70) := by
    have := heap_alloc_new (w2.alloc (.cells #[.pointer none, .pointer none, .int .i64 0] 102)) (.cells #[.pointer none, .pointer (some ⟨w2.heap.size, 0, none⟩)] 70)
    rw [← hW0] at this
    rw [hL]; simpa using this
  have h0 : W0.heap[w2.heap.size]? = some (.cells #[.pointer none, .pointer none, .int .i64 0] 102) := by
    have h := heap_alloc_new w2 (.cells #[.pointer none, .pointer none, .int .i64 0] 102)
    rw [hW0, Below.heap_alloc _ _ _ (by simp)]; exact h
  have hc : ∀ (v : Value), (#[Value.pointer none, .pointer (some ⟨w2.heap.size, 0, none⟩)])[k]? = some v → W.cell? ⟨L, k, none⟩ = some v := fun v hv => by
    exact (hb.cell (show L < W0.heap.size by omega)).trans (by rw [Lib.cell_of_heap h1]; exact hv)
  rcases (by omega : k = 0 ∨ k = 1) with rfl | rfl
  · exact ⟨_, hc _ rfl, nohxB_nil W⟩
  · exact ⟨_, hc _ rfl, (nohxB_zero _ W0 h0).below hb⟩

set_option maxHeartbeats 6400000 in
theorem hashixNobody_walk (x : En) (n : Int) (w : World) (hx : x.In w) (hT : Tab w) :
    Calls Tryz.prog 8 #[x.v, .int .i64 n] w fun e w' => e = .returned (.bool true) ∧ Below w.heap.size w w' := by
  have HT := Lib.hid hT
  obtain ⟨wa, hwa⟩ : ∃ wa, wa = w.alloc (.cells #[.int .i64 x.k, .int .i64 x.n, .string x.s, .slice x.a x.xs.length x.lc, .int .i64 x.t] 84) := ⟨_, rfl⟩
  obtain ⟨E, hE⟩ : ∃ E, E = w.heap.size := ⟨_, rfl⟩
  have hba : Below w.heap.size w wa := by rw [hwa]; exact (Below.refl _ _).alloc (Nat.le_refl _) _
  have hrow : wa.heap[E]? = some (.cells #[.int .i64 x.k, .int .i64 x.n, .string x.s, .slice x.a x.xs.length x.lc, .int .i64 x.t] 84 (0, 0)) := by rw [hwa, hE]; exact heap_alloc_new w _
  have hEl : E < wa.heap.size := (Array.getElem?_eq_some_iff.1 hrow).1
  have HBG := Lib.hid (begun_ok wa (hT.below hba hT.1))
  have HBU : Hid (∀ A W, Below wa.heap.size wa W → NoHxB (.pointer A) W → Calls Tryz.prog 38 #[.pointer A, x.dv] W fun e w' => e = .returned (.tuple #[.int .i64 0, .int .i64 1]) ∧ Below W.heap.size W w') := Lib.hid fun A W hW hn => nohx_bucket _ (hx.below (hba.trans (hW.mono hba.size))) hn
  have HNO : Hid (∀ A W, Below wa.heap.size wa W → NoHxB (.pointer A) W → Calls Tryz.prog 44 #[.iface 70 (.pointer A), x.v] W fun r w' => r = .returned (.bool true) ∧ Below W.heap.size W w') := Lib.hid fun A W hW hn => nobody_hx A x W (hx.below (hba.trans (hW.mono hba.size))) hn
  have HENT : Hid (∀ W, Below wa.heap.size wa W → W.cell? ⟨E, 0, none⟩ = some (.int .i64 x.k) ∧ W.cell? ⟨E, 1, none⟩ = some (.int .i64 x.n) ∧ W.cell? ⟨E, 2, none⟩ = some (.string x.s) ∧ W.cell? ⟨E, 3, none⟩ = some (.slice x.a x.xs.length x.lc) ∧ W.cell? ⟨E, 4, none⟩ = some (.int .i64 x.t)) := Lib.hid fun W hW => by
    have h1 := (hW.block _ hEl).trans hrow
    exact ⟨(Lib.cell_of_heap h1 _).trans rfl, (Lib.cell_of_heap h1 _).trans rfl, (Lib.cell_of_heap h1 _).trans rfl, (Lib.cell_of_heap h1 _).trans rfl, (Lib.cell_of_heap h1 _).trans rfl⟩
  have HWA := Lib.hid hwa
  have HEE := Lib.hid hE
  have HBA := Lib.hid hba
  clear hT hx hwa hE hba hrow hEl
  obtain ⟨k, kn, s, a, xs, lc, t⟩ := x
  simp only [En.v, En.dv] at HBU HNO HWA HENT ⊢
  go_enter Tryz.func8, Tryz.ntmps8
  go_wp2_with fail
  rw [← HWA.out, ← HEE.out]
  refine HBG.out.mono ?_
  rintro e w1 ⟨c, S, rfl, hf, hb1⟩
  have HB1 := Lib.hid hb1
  have HNA := Lib.hid (hxnew_any hf.1 n)
  clear HBG hf hb1
  go_wp2_with fail
  refine HNA.out.mono ?_
  rintro e w2 ⟨v, f, rfl, HV, hb2⟩
  have HB2 : Hid (Below wa.heap.size wa w2) := Lib.hid (HB1.out.trans (hb2.out.mono HB1.out.size))
  clear HNA HB1 hb2
  go_upto_region 3 with fail
  go_cut [48] from 29 to 48 (fun b wx => b = .bool false ∧ wx = w2)
  case first =>
    rcases HV.out with ⟨tb, rfl, rfl, g1, g2⟩ | ⟨rfl, rfl, g⟩
    · clear HV
      go_wp2_with fail
      go_meet
      exact ⟨by first | rfl | trivial, by first | rfl | trivial⟩
    · clear HV
      by_cases g1 : 0 ≤ n
      · have g2 : ¬ n < 16 := fun h => g ⟨g1, h⟩
        clear g
        go_wp2_with fail
        go_meet
        exact ⟨by first | rfl | trivial, by first | rfl | trivial⟩
      · clear g
        go_wp2_with fail
        go_meet
        exact ⟨by first | rfl | trivial, by first | rfl | trivial⟩
  case rest =>
  obtain ⟨rfl, hwc⟩ := hcut
  obtain rfl : w2 = wc := hwc.symm
  clear HV
  obtain ⟨W0, hW0⟩ : ∃ W0, W0 = (w2.alloc (.cells #[.pointer none, .pointer none, .int .i64 0] 102)).alloc (.cells #[.pointer none, .pointer (some ⟨w2.heap.size, 0, none⟩)] 70) := ⟨_, rfl⟩
  obtain ⟨L, hL⟩ : ∃ L, L = w2.heap.size + 1 := ⟨_, rfl⟩
  have HB0 : Hid (Below wa.heap.size wa W0) := Lib.hid (by rw [hW0]; exact (HB2.out.alloc HB2.out.size _).alloc (by simp; have := HB2.out.size; omega) _)
  have HROW := Lib.hid (nobx_rows hW0 hL)
  have HLB : Hid (∀ W, Below W0.heap.size W0 W → ∀ q, W.cell? ⟨L, q, none⟩ = W0.cell? ⟨L, q, none⟩) := Lib.hid (fun W hW q => hW.cell (p := ⟨L, q, none⟩) (by show L < _; rw [hL, hW0]; simp))
  clear HB2
  go_wp2
  rw [← hW0, ← hL]
  clear hW0 hL
  go_loopw [12] (fun i wr => ∃ k : Nat, k ≤ 2 ∧ i = .int .i64 k ∧ Hid (Below W0.heap.size W0 wr)) (fun i _ => 2 - (intOf i).toNat)
  case atStart => exact ⟨0, by omega, rfl, Lib.hid (Below.refl _ _)⟩
  case round =>
    obtain ⟨q, hk, rfl, HB⟩ := hrel
    by_cases hkn : q < 2
    · obtain ⟨A, hc, hn⟩ := HROW.out q hkn wr HB.out
      have f1 : (q : Int) < 2 := by omega
      have f0 : (0 : Int) ≤ (q : Int) := by omega
      have HN := Lib.hid hn
      have HBK := Lib.hid (nohx_buckets (.pointer A) wr (hn wr (Below.refl _ _)))
      have HSQ : Hid (∀ W, Below W0.heap.size W0 W → W.cell? ⟨L, q, none⟩ = some (.pointer A) ∧ W.cell? ⟨E, 0, none⟩ = some (.int .i64 k) ∧ W.cell? ⟨E, 1, none⟩ = some (.int .i64 kn) ∧ W.cell? ⟨E, 2, none⟩ = some (.string s) ∧ W.cell? ⟨E, 3, none⟩ = some (.slice a xs.length lc) ∧ W.cell? ⟨E, 4, none⟩ = some (.int .i64 t) ∧ Below W0.heap.size W0 W) := Lib.hid (fun W hW => by
        obtain ⟨c0, c1, c2, c3, c4⟩ := HENT.out W (HB0.out.trans (hW.mono HB0.out.size))
        exact ⟨(HLB.out W hW q).trans ((HLB.out wr HB.out q).symm.trans hc), c0, c1, c2, c3, c4, hW⟩)
      have HBU2 : Hid (∀ W, Below wr.heap.size wr W → Calls Tryz.prog 38 #[.pointer A, .agg #[.int .i64 k, .int .i64 kn, .string s, .slice a xs.length lc]] W fun e w' => e = .returned (.tuple #[.int .i64 0, .int .i64 1]) ∧ Below W.heap.size W w') := Lib.hid fun W hW => HBU.out A W (HB0.out.trans ((HB.out.trans (hW.mono HB.out.size)).mono HB0.out.size)) (HN.out.below hW)
      have HNO2 : Hid (∀ W, Below wr.heap.size wr W → Calls Tryz.prog 44 #[.iface 70 (.pointer A), .agg #[.int .i64 k, .int .i64 kn, .string s, .slice a xs.length lc, .int .i64 t]] W fun e w' => e = .returned (.bool true) ∧ Below W.heap.size W w') := Lib.hid fun W hW => HNO.out A W (HB0.out.trans ((HB.out.trans (hW.mono HB.out.size)).mono HB0.out.size)) (HN.out.below hW)
      clear hn
      go_wp2_with fail
      refine HBK.out.mono ?_
      rintro e w3 ⟨rfl, hw⟩
      obtain rfl : wr = w3 := hw.symm
      go_upto_region 10 with fail
      obtain ⟨p0, p1, p2, p3, p4, p5, -⟩ := HSQ.out wr HB.out
      clear hc HBK
      go_cut [15, 16] from 66 to 75 (fun x1 x2 wx => x1 = .int .i64 0 ∧ x2 = .int .i64 1 ∧ Hid (Below wr.heap.size wr wx))
      case first =>
        go_region_with (go_at_call 38; refine (HBU2.out _ ((Below.refl _ _).drew)).mono ?_; rintro e w4 ⟨rfl, hb4⟩)
        all_goals go_wp2
        all_goals go_meet
        all_goals exact ⟨by first | rfl | trivial, by first | rfl | trivial, Lib.hid (belS (Below.refl _ _).drew hb4)⟩
      case rest =>
      obtain ⟨rfl, rfl, HB4⟩ := hcut
      have HB5 : Hid (Below W0.heap.size W0 wc) := Lib.hid (HB.out.trans (HB4.out.mono HB.out.size))
      clear p0 p1 p2 p3 p4 p5
      obtain ⟨p0, p1, p2, p3, p4, p5, -⟩ := HSQ.out wc HB5.out
      have HNO3 : Hid (Calls Tryz.prog 44 #[.iface 70 (.pointer A), .agg #[.int .i64 k, .int .i64 kn, .string s, .slice a xs.length lc, .int .i64 t]] wc.drew fun e w' => e = .returned (.bool true) ∧ Below wc.heap.size wc w') := Lib.hid ((HNO2.out wc.drew HB4.out.drew).mono fun e w' ⟨h1, h2⟩ => ⟨h1, belS (Below.refl _ _).drew h2⟩)
      have HSC : Hid (∀ W, Below wc.heap.size wc W → W.cell? ⟨L, q, none⟩ = some (.pointer A) ∧ W.cell? ⟨E, 0, none⟩ = some (.int .i64 k) ∧ W.cell? ⟨E, 1, none⟩ = some (.int .i64 kn) ∧ W.cell? ⟨E, 2, none⟩ = some (.string s) ∧ W.cell? ⟨E, 3, none⟩ = some (.slice a xs.length lc) ∧ W.cell? ⟨E, 4, none⟩ = some (.int .i64 t) ∧ Below wc.heap.size wc W) := Lib.hid fun W hW => by
        obtain ⟨a0, a1, a2, a3, a4, a5, -⟩ := HSQ.out W (HB5.out.trans (hW.mono HB5.out.size))
        exact ⟨a0, a1, a2, a3, a4, a5, hW⟩
      clear HBU2 HNO2 HBU HNO
      go_upto_region 11 with fail
      go_cut [99] from 76 to 99 (fun b wx => b = .bool false ∧ Hid (Below wc.heap.size wc wx))
      case first =>
        go_region_held (fun w' => w'.cell? ⟨L, q, none⟩ = some (.pointer A) ∧ w'.cell? ⟨E, 0, none⟩ = some (.int .i64 k) ∧ w'.cell? ⟨E, 1, none⟩ = some (.int .i64 kn) ∧ w'.cell? ⟨E, 2, none⟩ = some (.string s) ∧ w'.cell? ⟨E, 3, none⟩ = some (.slice a xs.length lc) ∧ w'.cell? ⟨E, 4, none⟩ = some (.int .i64 t) ∧ Below wc.heap.size wc w')
          ((refine HSC.out _ ?_; first
            | exact Below.refl _ _
            | exact (Below.refl _ _).drew
            | exact hb6))
          (first | (go_at_call 44; refine HNO3.out.mono ?_; rintro e w6 ⟨rfl, hb6⟩))
        all_goals go_split_ands
        all_goals go_wp2
        all_goals go_meet
        all_goals exact ⟨by first | rfl | trivial, Lib.hid (by assumption)⟩
      case rest =>
      obtain ⟨rfl, HB6⟩ := hcut
      have HB7 := Lib.hid (HB5.out.trans (HB6.out.mono HB5.out.size))
      clear p0 p1 p2 p3 p4 p5 HSQ HNO3 HB4 HB5 HB6 HENT HLB HROW HN
      go_wp2_with fail
      exact ⟨⟨q + 1, by omega, by go_num, HB7⟩, by simp [intOf]; omega⟩
    · have f1 : ¬ (q : Int) < 2 := by omega
      have HW1 : Hid (Below w.heap.size w wr) := Lib.hid (HBA.out.trans ((HB0.out.trans (HB.out.mono HB0.out.size)).mono HBA.out.size))
      have HAW := Lib.hid (awake11 wr (HT.out.below HW1.out HT.out.1))
      clear HB HB0 HBA HROW HENT HLB HBU HNO
      go_wp2_with fail
      refine HAW.out.mono ?_
      rintro e w9 ⟨rfl, hb9⟩
      have HB9 := Lib.hid (HW1.out.trans (hb9.mono HW1.out.size))
      clear hb9 HAW HW1
      go_wp2
      go_ret
      exact ⟨rfl, HB9.out⟩
end Go.Proofs.YtefddiikdamnbaaGreatDoor.Dm
