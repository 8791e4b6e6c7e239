/- Rising lists, addresses by pages, and how a set degrades, in plain words. No program is met here. -/
set_option maxRecDepth 100000
namespace Go.Proofs.YtpjpkpbfbbpmdaaDoor.Ts

/-- A number is put into a rising list. -/
def ins (x : Nat) : List Nat → List Nat
  | [] => [x]
  | y :: l => if x < y then x :: y :: l else if x = y then y :: l else y :: ins x l
def Srt (l : List Nat) : Prop := l.Pairwise (fun a b => a < b)

theorem mem_ins {x y : Nat} : ∀ {l : List Nat}, y ∈ ins x l ↔ y = x ∨ y ∈ l
  | [] => by simp [ins]
  | z :: l => by
    unfold ins
    split
    · simp
    · split
      · rename_i h; subst h; simp
      · simp only [List.mem_cons, mem_ins (l := l)]
        constructor
        · rintro (h | h | h)
          · exact .inr (.inl h)
          · exact .inl h
          · exact .inr (.inr h)
        · rintro (h | h | h)
          · exact .inr (.inl h)
          · exact .inl h
          · exact .inr (.inr h)
theorem srt_ins {x : Nat} : ∀ {l : List Nat}, Srt l → Srt (ins x l)
  | [], _ => by simp [ins, Srt]
  | z :: l, h => by
    obtain ⟨h1, h2⟩ := List.pairwise_cons.1 h
    unfold ins
    split
    · rename_i hx
      exact List.pairwise_cons.2 ⟨fun a ha => by
        rcases List.mem_cons.1 ha with rfl | ha
        · exact hx
        · have := h1 a ha; omega, h⟩
    · split
      · exact h
      · rename_i hx hne
        refine List.pairwise_cons.2 ⟨fun a ha => ?_, srt_ins h2⟩
        rcases mem_ins.1 ha with rfl | ha
        · omega
        · exact h1 a ha
theorem srt_ext : ∀ {l l' : List Nat}, Srt l → Srt l' → (∀ x, x ∈ l ↔ x ∈ l') → l = l'
  | [], [], _, _, _ => rfl
  | [], b :: r, _, _, h => by have := (h b).2 (by simp); simp at this
  | a :: r, [], _, _, h => by have := (h a).1 (by simp); simp at this
  | a :: r, b :: s, h1, h2, h => by
    obtain ⟨p1, p2⟩ := List.pairwise_cons.1 h1
    obtain ⟨q1, q2⟩ := List.pairwise_cons.1 h2
    have e : a = b := by
      rcases List.mem_cons.1 ((h a).1 (by simp)) with e | e
      · exact e
      · rcases List.mem_cons.1 ((h b).2 (by simp)) with e' | e'
        · exact e'.symm
        · have := q1 a e; have := p1 b e'; omega
    subst e
    rw [srt_ext p2 q2 fun x => ?_]
    constructor
    · intro hx
      rcases List.mem_cons.1 ((h x).1 (by simp [hx])) with e | e
      · have := p1 x hx; omega
      · exact e
    · intro hx
      rcases List.mem_cons.1 ((h x).2 (by simp [hx])) with e | e
      · have := q1 x hx; omega
      · exact e
theorem ins_there {x : Nat} {l : List Nat} (h : Srt l) (hx : x ∈ l) : ins x l = l :=
  srt_ext (srt_ins h) h fun y => by rw [mem_ins]; exact ⟨fun e => e.elim (fun e => e ▸ hx) id, .inr⟩
theorem length_ins {x : Nat} : ∀ {l : List Nat}, x ∉ l → (ins x l).length = l.length + 1
  | [], _ => by simp [ins]
  | y :: l, h => by
    unfold ins
    split
    · rfl
    · split
      · rename_i e; exact absurd (by simp [e]) h
      · have := length_ins (x := x) (l := l) (fun e => h (List.mem_cons_of_mem _ e))
        simp [this]
theorem length_ins_le (x : Nat) (l : List Nat) : (ins x l).length ≤ l.length + 1 := by
  induction l with
  | nil => simp [ins]
  | cons y l ih =>
    unfold ins
    split
    · simp
    · split <;> simp <;> omega
theorem le_length_ins (x : Nat) (l : List Nat) : l.length ≤ (ins x l).length := by
  induction l with
  | nil => simp [ins]
  | cons y l ih =>
    unfold ins
    split
    · simp
    · split <;> simp <;> omega
theorem srt_filter {l : List Nat} (f : Nat → Bool) (h : Srt l) : Srt (l.filter f) := List.Pairwise.filter _ h

/-- How many of a list are on a page. -/
def onp (p : Nat) (T : List Nat) : List Nat := T.filter (fun t => t / 64 == p)
def cnt (p : Nat) (T : List Nat) : Nat := (onp p T).length
def off (p : Nat) (T : List Nat) : List Nat := T.filter (fun t => t / 64 != p)
theorem mem_onp {p t : Nat} {T : List Nat} : t ∈ onp p T ↔ t ∈ T ∧ t / 64 = p := by simp [onp]
theorem mem_off {p t : Nat} {T : List Nat} : t ∈ off p T ↔ t ∈ T ∧ t / 64 ≠ p := by simp [off]
theorem cnt_pos {p : Nat} {T : List Nat} : 0 < cnt p T ↔ ∃ t, t ∈ T ∧ t / 64 = p := by
  unfold cnt
  rw [List.length_pos_iff_exists_mem]
  exact ⟨fun ⟨t, h⟩ => ⟨t, mem_onp.1 h⟩, fun ⟨t, h⟩ => ⟨t, mem_onp.2 h⟩⟩
theorem cnt_le (p : Nat) (T : List Nat) : cnt p T ≤ T.length := List.length_filter_le _ _
theorem off_length (p : Nat) (T : List Nat) : (off p T).length + cnt p T = T.length := by
  unfold off cnt onp
  induction T with
  | nil => rfl
  | cons a l ih => by_cases h : a / 64 = p <;> simp [h] <;> omega
theorem onp_le {T : List Nat} (h : Srt T) (p : Nat) : cnt p T ≤ 64 := by
  have key : ∀ (l : List Nat) (lo n : Nat), l.Pairwise (fun a b => a < b) → (∀ x ∈ l, lo ≤ x ∧ x < lo + n) → l.length ≤ n := by
    intro l
    induction l with
    | nil => intro lo n _ _; simp
    | cons a r ih =>
      intro lo n hp hb
      obtain ⟨h1, h2⟩ := List.pairwise_cons.1 hp
      have ha := hb a (by simp)
      have := ih (lo + 1) (n - 1) h2 (fun x hx => by have := h1 x hx; have := hb x (by simp [hx]); omega)
      simp; omega
  exact key _ (64 * p) 64 (srt_filter _ h) (fun x hx => by have := (mem_onp.1 hx).2; omega)

/-- The page that has most, of several the lowest one. -/
def IsFull (T : List Nat) (p : Nat) : Prop := 0 < cnt p T ∧ ∀ q, cnt q T ≤ cnt p T ∧ (cnt q T = cnt p T → p ≤ q)
theorem IsFull.unique {T : List Nat} {p q : Nat} (h : IsFull T p) (k : IsFull T q) : p = q := by
  have h1 := h.2 q
  have h2 := k.2 p
  have e : cnt q T = cnt p T := by omega
  have := h1.2 e
  have := h2.2 e.symm
  omega

/-- It degrades: T, P are the exact ones and the whole pages ahead of it, T', P' those behind. -/
inductive Deg (most : Nat) : List Nat → List Nat → List Nat → List Nat → Prop
  | done {T P : List Nat} (h : T.length ≤ most) : Deg most T P T P
  | step {T P T' P' : List Nat} {p : Nat} (h : most < T.length) (hp : IsFull T p) (k : Deg most (off p T) (ins p P) T' P') : Deg most T P T' P'
theorem Deg.unique {most : Nat} {T P T1 P1 T2 P2 : List Nat} (h : Deg most T P T1 P1) (k : Deg most T P T2 P2) : T1 = T2 ∧ P1 = P2 := by
  induction h with
  | done h =>
    cases k with
    | done _ => exact ⟨rfl, rfl⟩
    | step h2 _ _ => omega
  | step h hp _ ih =>
    cases k with
    | done _ => omega
    | step _ hq k => rw [← hp.unique hq] at k; exact ih k

/-- A set: how many it holds exactly, the exact ones, the whole pages. -/
structure Tset where
  most : Nat
  T : List Nat
  P : List Nat
def Tset.has (s : Tset) (t : Nat) : Prop := t ∈ s.T ∨ t / 64 ∈ s.P
/-- What stands while a set is being made: more may be exact than may stay so. -/
structure Raw (T P : List Nat) : Prop where
  st : Srt T
  sp : Srt P
  tl : ∀ t ∈ T, t < 16777216
  pl : ∀ p ∈ P, p < 262144
  apart : ∀ t ∈ T, t / 64 ∉ P
structure Tset.Ok (s : Tset) : Prop where
  raw : Raw s.T s.P
  few : s.T.length ≤ s.most
  most : s.most ≤ 64

theorem Raw.step {T P : List Nat} (h : Raw T P) {p : Nat} (hp : IsFull T p) : Raw (off p T) (ins p P) := by
  obtain ⟨t, ht, hpt⟩ := cnt_pos.1 hp.1
  refine ⟨srt_filter _ h.st, srt_ins h.sp, fun t ht => h.tl t (mem_off.1 ht).1, fun q hq => ?_, fun t ht hq => ?_⟩
  · rcases mem_ins.1 hq with rfl | hq
    · have := h.tl t ht; omega
    · exact h.pl q hq
  · rcases mem_ins.1 hq with e | hq
    · exact (mem_off.1 ht).2 e
    · exact h.apart t (mem_off.1 ht).1 hq
theorem Deg.raw {most : Nat} {T P T' P' : List Nat} (h : Deg most T P T' P') (k : Raw T P) : Raw T' P' ∧ T'.length ≤ most ∧ T'.length ≤ T.length := by
  induction h with
  | done h => exact ⟨k, h, Nat.le_refl _⟩
  | step h hp _ ih =>
    obtain ⟨a, b, c⟩ := ih (k.step hp)
    exact ⟨a, b, Nat.le_trans c (List.length_filter_le _ _)⟩
/-- Nothing is lost. -/
theorem Deg.keeps {most : Nat} {T P T' P' : List Nat} (h : Deg most T P T' P') : (∀ t, t ∈ T ∨ t / 64 ∈ P → t ∈ T' ∨ t / 64 ∈ P') ∧ (∀ t, t ∈ T' → t ∈ T) ∧ (∀ p, p ∈ P → p ∈ P') ∧ ∀ p, p ∈ P' → p ∈ P ∨ ∃ t, t ∈ T ∧ t / 64 = p := by
  induction h with
  | done _ => exact ⟨fun _ h => h, fun _ h => h, fun _ h => h, fun _ h => .inl h⟩
  | @step T P T' P' p h hp _ ih =>
    obtain ⟨a, b, c, d⟩ := ih
    refine ⟨fun t ht => a t ?_, fun t ht => (mem_off.1 (b t ht)).1, fun q hq => c q (mem_ins.2 (.inr hq)), fun q hq => ?_⟩
    · rcases ht with ht | ht
      · by_cases e : t / 64 = p
        · exact .inr (mem_ins.2 (.inl e))
        · exact .inl (mem_off.2 ⟨ht, e⟩)
      · exact .inr (mem_ins.2 (.inr ht))
    · rcases d q hq with hq | ⟨t, ht, e⟩
      · rcases mem_ins.1 hq with rfl | hq
        · exact .inr (cnt_pos.1 hp.1)
        · exact .inl hq
      · exact .inr ⟨t, (mem_off.1 ht).1, e⟩
/-- Where no page stands whole, nothing has turned. -/
theorem Deg.none {most : Nat} {T P T' P' : List Nat} (h : Deg most T P T' P') (hP : P' = []) : T' = T ∧ P = [] := by
  cases h with
  | done _ => exact ⟨rfl, hP⟩
  | @step _ _ _ _ p _ hp k =>
    exfalso
    have := k.keeps.2.2.1 p (mem_ins.2 (.inl rfl))
    rw [hP] at this
    simp at this
theorem Deg.ext {most : Nat} {T P T' P' : List Nat} (h : Deg most T P T' P') {A B : List Nat} (hA : A = T) (hB : B = P) : Deg most A B T' P' := by subst hA hB; exact h

/-- One that holds some addresses: the exact ones and the pages are what these say. -/
structure Says (T P : List Nat) (f g : Nat → Prop) : Prop where
  st : Srt T
  sp : Srt P
  mt : ∀ t, t ∈ T ↔ f t
  mp : ∀ p, p ∈ P ↔ g p
theorem Says.unique {T P T' P' : List Nat} {f g : Nat → Prop} (h : Says T P f g) (k : Says T' P' f g) : T = T' ∧ P = P' :=
  ⟨srt_ext h.st k.st fun x => (h.mt x).trans (k.mt x).symm, srt_ext h.sp k.sp fun x => (h.mp x).trans (k.mp x).symm⟩
theorem Says.congr {T P : List Nat} {f g f' g' : Nat → Prop} (h : Says T P f g) (hf : ∀ t, f t ↔ f' t) (hg : ∀ p, g p ↔ g' p) : Says T P f' g' :=
  ⟨h.st, h.sp, fun t => (h.mt t).trans (hf t), fun p => (h.mp p).trans (hg p)⟩

/-- Add. -/
def AddTo (s : Tset) (t : Nat) (s' : Tset) : Prop :=
  s'.most = s.most ∧ (t / 64 ∈ s.P ∧ s' = s ∨ t / 64 ∉ s.P ∧ Deg s.most (ins t s.T) s.P s'.T s'.P)
theorem Tset.eta {s s' : Tset} (h1 : s.most = s'.most) (h2 : s.T = s'.T) (h3 : s.P = s'.P) : s = s' := by cases s; cases s'; simp at *; exact ⟨h1, h2, h3⟩
theorem AddTo.unique {s a b : Tset} {t : Nat} (h : AddTo s t a) (k : AddTo s t b) : a = b := by
  obtain ⟨h0, h⟩ := h
  obtain ⟨k0, k⟩ := k
  rcases h with ⟨h1, rfl⟩ | ⟨h1, h⟩ <;> rcases k with ⟨k1, rfl⟩ | ⟨k1, k⟩
  · rfl
  · exact absurd h1 k1
  · exact absurd k1 h1
  · exact Tset.eta (h0.trans k0.symm) (h.unique k).1 (h.unique k).2
theorem Raw.add {T P : List Nat} (h : Raw T P) {t : Nat} (ht : t < 16777216) (hp : t / 64 ∉ P) : Raw (ins t T) P :=
  ⟨srt_ins h.st, h.sp, fun x hx => (mem_ins.1 hx).elim (fun e => e ▸ ht) (h.tl x), h.pl, fun x hx => (mem_ins.1 hx).elim (fun e => e ▸ hp) (h.apart x)⟩
theorem AddTo.ok {s s' : Tset} {t : Nat} (h : AddTo s t s') (k : s.Ok) (ht : t < 16777216) : s'.Ok := by
  obtain ⟨h0, h⟩ := h
  rcases h with ⟨_, rfl⟩ | ⟨h1, h⟩
  · exact k
  · obtain ⟨a, b, _⟩ := h.raw (k.raw.add ht h1)
    exact ⟨a, by rw [h0]; exact b, by rw [h0]; exact k.most⟩
theorem AddTo.has {s s' : Tset} {t : Nat} (h : AddTo s t s') : s'.has t ∧ ∀ x, s.has x → s'.has x := by
  obtain ⟨h0, h⟩ := h
  rcases h with ⟨h1, rfl⟩ | ⟨h1, h⟩
  · exact ⟨.inr h1, fun _ h => h⟩
  · exact ⟨h.keeps.1 t (.inl (mem_ins.2 (.inl rfl))), fun x hx => h.keeps.1 x (hx.imp (fun e => mem_ins.2 (.inr e)) id)⟩

/-- What is in both, ahead of its degrading; what is in either. -/
def BothT (a b : Tset) (t : Nat) : Prop := t ∈ a.T ∧ b.has t ∨ t ∈ b.T ∧ a.has t
def BothP (a b : Tset) (p : Nat) : Prop := p ∈ a.P ∧ p ∈ b.P
def EitherP (a b : Tset) (p : Nat) : Prop := p ∈ a.P ∨ p ∈ b.P
def EitherT (a b : Tset) (t : Nat) : Prop := (t ∈ a.T ∨ t ∈ b.T) ∧ ¬ EitherP a b (t / 64)
def AndTo (a b s : Tset) : Prop := s.most = min a.most b.most ∧ ∃ T P, Says T P (BothT a b) (BothP a b) ∧ Deg s.most T P s.T s.P
def OrTo (a b s : Tset) : Prop := s.most = min a.most b.most ∧ ∃ T P, Says T P (EitherT a b) (EitherP a b) ∧ Deg s.most T P s.T s.P
theorem both_raw {a b : Tset} (ha : a.Ok) (hb : b.Ok) {T P : List Nat} (h : Says T P (BothT a b) (BothP a b)) : Raw T P :=
  ⟨h.st, h.sp, fun t ht => ((h.mt t).1 ht).elim (fun e => ha.raw.tl t e.1) (fun e => hb.raw.tl t e.1), fun p hp => ha.raw.pl p ((h.mp p).1 hp).1,
    fun t ht hp => ((h.mt t).1 ht).elim (fun e => ha.raw.apart t e.1 ((h.mp _).1 hp).1) (fun e => hb.raw.apart t e.1 ((h.mp _).1 hp).2)⟩
theorem either_raw {a b : Tset} (ha : a.Ok) (hb : b.Ok) {T P : List Nat} (h : Says T P (EitherT a b) (EitherP a b)) : Raw T P :=
  ⟨h.st, h.sp, fun t ht => ((h.mt t).1 ht).1.elim (ha.raw.tl t) (hb.raw.tl t), fun p hp => ((h.mp p).1 hp).elim (ha.raw.pl p) (hb.raw.pl p),
    fun t ht hp => ((h.mt t).1 ht).2 ((h.mp _).1 hp)⟩
theorem AndTo.ok {a b s : Tset} (h : AndTo a b s) (ha : a.Ok) (hb : b.Ok) : s.Ok := by
  obtain ⟨h0, T, P, h1, h2⟩ := h
  obtain ⟨x, y, _⟩ := h2.raw (both_raw ha hb h1)
  exact ⟨x, y, by rw [h0]; have := ha.most; omega⟩
theorem OrTo.ok {a b s : Tset} (h : OrTo a b s) (ha : a.Ok) (hb : b.Ok) : s.Ok := by
  obtain ⟨h0, T, P, h1, h2⟩ := h
  obtain ⟨x, y, _⟩ := h2.raw (either_raw ha hb h1)
  exact ⟨x, y, by rw [h0]; have := ha.most; omega⟩
theorem AndTo.unique {a b s s' : Tset} (h : AndTo a b s) (k : AndTo a b s') : s = s' := by
  obtain ⟨h0, T, P, h1, h2⟩ := h
  obtain ⟨k0, T', P', k1, k2⟩ := k
  obtain ⟨rfl, rfl⟩ := h1.unique k1
  rw [h0] at h2; rw [k0] at k2
  exact Tset.eta (h0.trans k0.symm) (h2.unique k2).1 (h2.unique k2).2
theorem OrTo.unique {a b s s' : Tset} (h : OrTo a b s) (k : OrTo a b s') : s = s' := by
  obtain ⟨h0, T, P, h1, h2⟩ := h
  obtain ⟨k0, T', P', k1, k2⟩ := k
  obtain ⟨rfl, rfl⟩ := h1.unique k1
  rw [h0] at h2; rw [k0] at k2
  exact Tset.eta (h0.trans k0.symm) (h2.unique k2).1 (h2.unique k2).2
theorem AndTo.swap {a b s : Tset} (h : AndTo a b s) : AndTo b a s := by
  obtain ⟨h0, T, P, h1, h2⟩ := h
  exact ⟨by rw [h0, Nat.min_comm], T, P, h1.congr (fun t => Or.comm) (fun p => And.comm), h2⟩
theorem OrTo.swap {a b s : Tset} (h : OrTo a b s) : OrTo b a s := by
  obtain ⟨h0, T, P, h1, h2⟩ := h
  exact ⟨by rw [h0, Nat.min_comm], T, P, h1.congr (fun t => by unfold EitherT EitherP; rw [or_comm (a := t ∈ a.T), or_comm (a := t / 64 ∈ a.P)]) (fun p => Or.comm), h2⟩
/-- Whatever is in both is in And; nothing else, where nothing stands whole. -/
theorem AndTo.has {a b s : Tset} (h : AndTo a b s) {t : Nat} (h1 : a.has t) (h2 : b.has t) : s.has t := by
  obtain ⟨_, T, P, hs, hd⟩ := h
  refine hd.keeps.1 t ?_
  rcases h1 with h1 | h1
  · exact .inl ((hs.mt t).2 (.inl ⟨h1, h2⟩))
  · rcases h2 with h2 | h2
    · exact .inl ((hs.mt t).2 (.inr ⟨h2, .inr h1⟩))
    · exact .inr ((hs.mp _).2 ⟨h1, h2⟩)
theorem AndTo.only {a b s : Tset} (h : AndTo a b s) (hP : s.P = []) {t : Nat} (ht : s.has t) : a.has t ∧ b.has t := by
  obtain ⟨_, T, P, hs, hd⟩ := h
  obtain ⟨e1, e2⟩ := hd.none hP
  rcases ht with ht | ht
  · rw [e1] at ht
    rcases (hs.mt t).1 ht with ⟨x, y⟩ | ⟨x, y⟩
    · exact ⟨.inl x, y⟩
    · exact ⟨y, .inl x⟩
  · rw [hP] at ht; simp at ht
theorem OrTo.has {a b s : Tset} (h : OrTo a b s) {t : Nat} (h1 : a.has t ∨ b.has t) : s.has t := by
  obtain ⟨_, T, P, hs, hd⟩ := h
  refine hd.keeps.1 t ?_
  by_cases hp : EitherP a b (t / 64)
  · exact .inr ((hs.mp _).2 hp)
  · refine .inl ((hs.mt t).2 ⟨?_, hp⟩)
    rcases h1 with (h1 | h1) | (h1 | h1)
    · exact .inl h1
    · exact absurd (.inl h1) hp
    · exact .inr h1
    · exact absurd (.inr h1) hp
theorem OrTo.only {a b s : Tset} (h : OrTo a b s) (hP : s.P = []) {t : Nat} (ht : s.has t) : a.has t ∨ b.has t := by
  obtain ⟨_, T, P, hs, hd⟩ := h
  obtain ⟨e1, e2⟩ := hd.none hP
  rcases ht with ht | ht
  · rw [e1] at ht
    exact ((hs.mt t).1 ht).1.imp .inl .inl
  · rw [hP] at ht; simp at ht
end Go.Proofs.YtpjpkpbfbbpmdaaDoor.Ts
