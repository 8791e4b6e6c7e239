/- A map from ints to pointers (or whatever values), said by what it has at each int. No program's function is met here. -/
import Derived.Test.YtnmeobbbcccgjaaKI
import Derived.Maps.RangeWalk
import Derived.Maps.Views
set_option maxRecDepth 100000
namespace Go.Proofs.Ytnmeobbbcccgjaa
open Go.RowKit Go.Maps

/-- An element reads as itself. -/
def asIs : Value → Option (DataW Value × List MemPlace) := fun v => some (.held v, [])

theorem keyI : Keyed Try.prog 3 := int_keyed Try.underlying3
theorem isKeyI (q : Int) : WideAt.IsKeyLit (.int .i64 q) := trivial

def updI {α : Type} (F : Int → α) (q : Int) (x : α) : Int → α := fun i => if i = q then x else F i
theorem updI_same {α : Type} (F : Int → α) (q : Int) (x : α) : updI F q x q = x := by simp [updI]
theorem updI_other {α : Type} (F : Int → α) {q i : Int} (x : α) (h : i ≠ q) : updI F q x i = F i := by simp [updI, h]

/-- Block b is a map of m entries, that has at each int what F says. -/
def PMap (w : World) (b m : Nat) (F : Int → Option Value) : Prop :=
  ∃ D : DataW Value, w.ownsMap Try.prog 3 asIs b m D ∧ Maps.size D = m ∧ ∀ q : Int, (Lit.int .i64 q).wf = true →
    (F q = none ∧ Maps.has D (.int .i64 q) = false ∨ ∃ v, F q = some v ∧ Maps.has D (.int .i64 q) = true ∧ ∀ z, D.atKey (.int .i64 q) z = .held v)

theorem own_size {w : World} {b n : Nat} {D : DataW Value} (h : w.ownsMap Try.prog 3 asIs b n D) : w.ownsMap Try.prog 3 asIs b (Maps.size D) D := by
  obtain ⟨es, clock, hb, F, hs, rfl⟩ := h
  exact ⟨es, clock, hb, F, by simp [Maps.size, length_sorted], rfl⟩

theorem PMap.lt {w : World} {b m : Nat} {F : Int → Option Value} (h : PMap w b m F) : b < w.heap.size := h.elim fun _ h => h.1.lt
theorem PMap.block {w w' : World} {b m : Nat} {F : Int → Option Value} (h : PMap w b m F) (hb : w'.heap[b]? = w.heap[b]?) : PMap w' b m F := by
  obtain ⟨D, ⟨es, clock, h1, h2⟩, h3⟩ := h
  exact ⟨D, ⟨es, clock, hb.trans h1, h2⟩, h3⟩

theorem pmap_made (w : World) : PMap (w.alloc (.map #[] 0)) w.heap.size 0 (fun _ => none) :=
  ⟨.map [], World.ownsMap_made _ _ _ _, rfl, fun _ _ => .inl ⟨rfl, rfl⟩⟩

theorem PMap.look {w : World} {b m : Nat} {F : Int → Option Value} (h : PMap w b m F) {t e : TypeId} (ht : Try.prog.underlying t = some (.map 3 e)) (hz : (zeroValue e).run Try.prog w = .ok (.pointer none) w) (q : Int) (hq : (Lit.int .i64 q).wf = true) :
    (Instr.lookup t (.map (some b)) (.int .i64 q) false).run Try.prog w = .ok ((F q).getD (.pointer none)) w := by
  obtain ⟨D, h1, _, h3⟩ := h
  obtain ⟨v, ps, hr, hv⟩ := h1.lookup (zd := .held (.pointer none)) (zp := []) keyI ht hz rfl (keyOf_int_mk (P := Try.prog) Try.underlying3 hq)
  rw [hr]
  have hv' : DataW.held v = D.atKey (.int .i64 q) (.held (.pointer none)) := by
    simp only [asIs, Option.some.injEq, Prod.mk.injEq] at hv
    exact hv.1
  rcases h3 q hq with ⟨hF, hn⟩ | ⟨u, hF, _, hat⟩
  · rw [hF]
    rw [Maps.atKey_of_not_has hn] at hv'
    injection hv' with hv'
    rw [hv']; rfl
  · rw [hF]
    rw [hat] at hv'
    injection hv' with hv'
    rw [hv']; rfl

theorem PMap.len {w : World} {b m : Nat} {F : Int → Option Value} (h : PMap w b m F) {t e : TypeId} (ht : Try.prog.underlying t = some (.map 3 e)) (ty : TypeId) :
    (Builtin.len_ #[t] ty #[.map (some b)]).run Try.prog w = .ok (.int .i64 m) w := by
  obtain ⟨D, h1, h2, _⟩ := h
  rw [h1.len ht, h2]

theorem PMap.put {w : World} {b m : Nat} {F : Int → Option Value} (h : PMap w b m F) {t e : TypeId} (ht : Try.prog.underlying t = some (.map 3 e)) (hm : m < maxLen) (q : Int) (hq : (Lit.int .i64 q).wf = true) (hF : F q = none) (v : Value) :
    ∃ w', (Instr.mapUpdate t (.map (some b)) (.int .i64 q) v).run Try.prog w = .ok () w' ∧ PMap w' b (m + 1) (updI F q (some v)) ∧ w.mapTurned w' b := by
  obtain ⟨D, h1, h2, h3⟩ := h
  obtain ⟨w', hr, ho, ht'⟩ := h1.store (d := .held v) (ps := []) keyI ht hm (keyOf_int_mk (P := Try.prog) Try.underlying3 hq) rfl
  have hn : Maps.has D (.int .i64 q) = false := by
    rcases h3 q hq with ⟨_, hn⟩ | ⟨u, hu, _⟩
    · exact hn
    · rw [hF] at hu; cases hu
  refine ⟨w', hr, ⟨_, ho, ?_, fun i hi => ?_⟩, ht'⟩
  · rw [Maps.size_put (h1.tidy keyI), hn, h2]; simp
  · by_cases hiq : i = q
    · subst hiq
      exact .inr ⟨v, updI_same _ _ _, Maps.has_put_same h1.isMap (isKeyI i) _, fun z => Maps.atKey_put_same h1.isMap (isKeyI i) _ z⟩
    · have hne : (Lit.int .i64 i) ≠ .int .i64 q := fun e => hiq (by injection e)
      rw [updI_other _ _ hiq, Maps.has_put_other hne]
      exact (h3 i hi).imp id (fun ⟨u, hu, h4, h5⟩ => ⟨u, hu, h4, fun z => by rw [Maps.atKey_put_other hne]; exact h5 z⟩)

theorem PMap.del {w : World} {b m : Nat} {F : Int → Option Value} (h : PMap w b (m + 1) F) {t e : TypeId} (ht : Try.prog.underlying t = some (.map 3 e)) (q : Int) (hq : (Lit.int .i64 q).wf = true) {v : Value} (hF : F q = some v) (ty : TypeId) :
    ∃ w', (Builtin.delete_ #[t, 3] ty #[.map (some b), .int .i64 q]).run Try.prog w = .ok (.tuple #[]) w' ∧ PMap w' b m (updI F q none) ∧ w.mapTurned w' b := by
  obtain ⟨D, h1, h2, h3⟩ := h
  obtain ⟨w', hr, ho, ht'⟩ := h1.drop keyI ht (keyOf_int_mk (P := Try.prog) Try.underlying3 hq) ty
  have hn : Maps.has D (.int .i64 q) = true := by
    rcases h3 q hq with ⟨hn, _⟩ | ⟨u, _, hn, _⟩
    · rw [hF] at hn; cases hn
    · exact hn
  have hsz : Maps.size (D.del (.int .i64 q)) = m := by
    have := Maps.size_del (k := .int .i64 q) (h1.tidy keyI)
    rw [hn, h2] at this
    simpa using this
  refine ⟨w', hr, ⟨_, by rw [← hsz]; exact own_size ho, hsz, fun i hi => ?_⟩, ht'⟩
  by_cases hiq : i = q
  · subst hiq
    exact .inl ⟨updI_same _ _ _, Maps.has_del_same⟩
  · have hne : (Lit.int .i64 i) ≠ .int .i64 q := fun e => hiq (by injection e)
    rw [updI_other _ _ hiq, Maps.has_del_other hne]
    exact (h3 i hi).imp id (fun ⟨u, hu, h4, h5⟩ => ⟨u, hu, h4, fun z => by rw [Maps.atKey_del_other hne]; exact h5 z⟩)

theorem Kept.ofTurned {S : Nat → Prop} {a b : World} {r : Nat} (h : a.mapTurned b r) (hr : S r) : Kept S a b := Kept.ofGrown h.grown (fun k hk => by injection hk with hk; exact hk ▸ hr)
end Go.Proofs.Ytnmeobbbcccgjaa
