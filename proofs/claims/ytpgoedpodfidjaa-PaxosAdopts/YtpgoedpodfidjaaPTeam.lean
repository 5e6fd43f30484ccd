/-
  Several acceptors and proposers in memory, side by side.
-/
import Derived.Test.YtpgoedpodfidjaaP8
import Derived.Test.YtpgoedpodfidjaaPArr
import Derived.Test.YtpgoedpodfidjaaPSteps
import Derived.Test.YtpgoedpodfidjaaPxStep
namespace Go.Proofs.Ytpgoedpodfidjaa
open Go.RowKit

/-- Where they lie, and what they are. -/
structure Tm where
  A : Nat → Nat
  M : Nat → Nat
  c : Nat → Nat
  P : Nat → Nat
  n : Nat → Nat
  v : Nat → Value
  pa : Nat → Bl
  f : Nat → Vs
  pr : Nat → Pr

def sideT (t : TypeId) : Prop := t ≠ 78 ∧ t ≠ 66 ∧ t ≠ 75
/-- A block that is none of theirs, by its type. -/
def Side (w : World) (X : Nat) : Prop := ∃ cs t fr, w.heap[X]? = some (.cells cs t fr) ∧ sideT t
theorem Side.kept {p : Nat → Prop} {w w' : World} {X : Nat} (h : Side w X) (k : Kept p w w') (hp : p X) : Side w' X := by
  obtain ⟨cs, t, fr, h1, h2⟩ := h
  exact ⟨cs, t, fr, (k.block X (lt_of_block h1) hp).trans h1, h2⟩
theorem Side.lt {w : World} {X : Nat} (h : Side w X) : X < w.heap.size := by obtain ⟨cs, t, fr, h1, _⟩ := h; exact lt_of_block h1

structure Crew (w0 w : World) (N : Nat) (T : Tm) : Prop where
  ac : ∀ i, i < N → Ac w (T.A i) (T.M i) (T.c i) (T.pa i) (T.f i)
  po : ∀ i, i < N → Po w (T.P i) (T.v i) (T.n i) (T.pr i)
  kept : Kept (fun _ => True) w0 w
  a0 : ∀ i, i < N → w0.heap.size ≤ T.A i ∧ w0.heap.size ≤ T.M i
  p0 : ∀ i, i < N → w0.heap.size ≤ T.P i ∧ ∀ k, (T.v i).ownBlock = some k → w0.heap.size ≤ k
  sa : ∀ i j, i < N → j < N → i ≠ j → T.A i ≠ T.A j ∧ T.M i ≠ T.M j
  sp : ∀ i j, i < N → j < N → i ≠ j → T.P i ≠ T.P j ∧ ∀ k, (T.v i).ownBlock = some k → (T.v j).ownBlock ≠ some k

theorem ac_off_side {w : World} {A M c : Nat} {p : Bl} {f : Vs} (h : Ac w A M c p f) {X : Nat} (hX : Side w X) : X ≠ A ∧ X ≠ M := by
  obtain ⟨cs, t, fr, h1, h2⟩ := hX
  refine ⟨fun e => ?_, fun e => ?_⟩
  · subst e
    rw [h.self] at h1
    simp only [Option.some.injEq, Obj.cells.injEq] at h1
    exact h2.1 h1.2.1.symm
  · subst e
    obtain ⟨es, clock, hb⟩ := h.mp.isMap
    rw [hb] at h1
    simp at h1
theorem po_off_side {w : World} {P n : Nat} {v : Value} {x : Pr} (h : Po w P v n x) {X : Nat} (hX : Side w X) : X ≠ P ∧ v.ownBlock ≠ some X := by
  obtain ⟨cs, t, fr, h1, h2⟩ := hX
  refine ⟨fun e => ?_, fun e => ?_⟩
  · subst e
    rw [h.self] at h1
    simp only [Option.some.injEq, Obj.cells.injEq] at h1
    exact h2.2.1 h1.2.1.symm
  · rcases h.row.2 with ⟨rfl, _⟩ | ⟨g, cap, cur, rfl, _, hg, _⟩
    · simp [Value.ownBlock] at e
    · simp [Value.ownBlock] at e
      subst e
      rw [hg] at h1
      simp only [Option.some.injEq, Obj.cells.injEq] at h1
      exact h2.2.2 h1.2.1.symm
/-- An acceptor and a proposer are apart. -/
theorem ac_po {w : World} {A M c P n : Nat} {p : Bl} {f : Vs} {v : Value} {x : Pr} (ha : Ac w A M c p f) (hp : Po w P v n x) : (P ≠ A ∧ P ≠ M) ∧ ∀ k, v.ownBlock = some k → k ≠ A ∧ k ≠ M := by
  have key : ∀ k cs t fr, w.heap[k]? = some (.cells cs t fr) → t ≠ 78 → k ≠ A ∧ k ≠ M := by
    intro k cs t fr hk ht
    refine ⟨fun e => ?_, fun e => ?_⟩
    · subst e
      rw [ha.self] at hk
      simp only [Option.some.injEq, Obj.cells.injEq] at hk
      exact ht hk.2.1.symm
    · subst e
      obtain ⟨es, clock, hb⟩ := ha.mp.isMap
      rw [hb] at hk
      simp at hk
  refine ⟨key P _ _ _ hp.self (by decide), fun k hk => ?_⟩
  rcases hp.row.2 with ⟨rfl, _⟩ | ⟨g, cap, cur, rfl, _, hg, _⟩
  · simp [Value.ownBlock] at hk
  · simp [Value.ownBlock] at hk
    subst hk
    exact key g _ _ _ hg (by decide)
theorem ac_cross {w : World} {A M c A' M' c' : Nat} {p p' : Bl} {f f' : Vs} (ha : Ac w A M c p f) (hb : Ac w A' M' c' p' f') : A ≠ M' := by
  intro e
  subst e
  obtain ⟨es, clock, h1⟩ := hb.mp.isMap
  have := ha.self
  rw [h1] at this
  simp at this
theorem po_cross {w : World} {P n P' n' : Nat} {v v' : Value} {x x' : Pr} (h : Po w P v n x) (h' : Po w P' v' n' x') : v.ownBlock ≠ some P' := by
  intro e
  rcases h.row.2 with ⟨rfl, _⟩ | ⟨g, cap, cur, rfl, _, hg, _⟩
  · simp [Value.ownBlock] at e
  · simp [Value.ownBlock] at e
    subst e
    have := h'.self
    rw [hg] at this
    simp at this

section
variable {w0 w w' : World} {N : Nat} {T : Tm}
theorem Crew.ahead (h : Crew w0 w N T) (k : Kept (fun _ => True) w w') : Crew w0 w' N T :=
  ⟨fun i hi => (h.ac i hi).all k, fun i hi => (h.po i hi).all k, h.kept.trans k, h.a0, h.p0, h.sa, h.sp⟩
theorem Crew.offA (h : Crew w0 w N T) {i X : Nat} (hi : i < N) (hX : Side w X) : X ≠ T.A i ∧ X ≠ T.M i := ac_off_side (h.ac i hi) hX
theorem Crew.offP (h : Crew w0 w N T) {i X : Nat} (hi : i < N) (hX : Side w X) : X ≠ T.P i ∧ (T.v i).ownBlock ≠ some X := po_off_side (h.po i hi) hX
/-- What is written is none of theirs. -/
theorem Crew.side {q : Nat → Prop} (h : Crew w0 w N T) (k : Kept q w w') (hq : ∀ i, ¬ q i → Side w i ∧ w0.heap.size ≤ i) : Crew w0 w' N T := by
  have key : ∀ X, ¬ Side w X → q X := fun X hX => Classical.byContradiction fun e => hX (hq X e).1
  refine ⟨fun i hi => ?_, fun i hi => ?_, h.kept.then k (fun i hi _ => ?_), h.a0, h.p0, h.sa, h.sp⟩
  · exact (h.ac i hi).kept k (key _ (fun e => (h.offA hi e).1 rfl)) (key _ (fun e => (h.offA hi e).2 rfl))
  · exact (h.po i hi).kept k (key _ (fun e => (h.offP hi e).1 rfl)) (fun j hj => key _ (fun e => (h.offP hi e).2 hj))
  · exact Classical.byContradiction fun e => by have := (hq i e).2; omega
/-- An acceptor's step. -/
theorem Crew.acc (h : Crew w0 w N T) {i : Nat} (hi : i < N) {c' : Nat} {p' : Bl} {f' : Vs} (h' : Ac w' (T.A i) (T.M i) c' p' f') (k : Kept (fun x => x ≠ T.A i ∧ x ≠ T.M i) w w') :
    Crew w0 w' N { T with c := up T.c i c', pa := up T.pa i p', f := up T.f i f' } := by
  refine ⟨fun j hj => ?_, fun j hj => ?_, h.kept.then k (fun j hj _ => ?_), h.a0, h.p0, h.sa, h.sp⟩
  · by_cases e : j = i
    · subst e
      show Ac w' _ _ (up T.c j c' j) (up T.pa j p' j) (up T.f j f' j)
      rw [up_at, up_at, up_at]
      exact h'
    · show Ac w' _ _ (up T.c i c' j) (up T.pa i p' j) (up T.f i f' j)
      rw [up_ne _ _ e, up_ne _ _ e, up_ne _ _ e]
      have s := h.sa j i hj hi e
      exact (h.ac j hj).kept k ⟨s.1, ac_cross (h.ac j hj) (h.ac i hi)⟩ ⟨Ne.symm (ac_cross (h.ac i hi) (h.ac j hj)), s.2⟩
  · have s := ac_po (h.ac i hi) (h.po j hj)
    exact (h.po j hj).kept k s.1 s.2
  · have := h.a0 i hi
    exact ⟨by omega, by omega⟩
/-- A proposer's step. -/
theorem Crew.prop (h : Crew w0 w N T) {i : Nat} (hi : i < N) {v' : Value} {n' : Nat} {x' : Pr} (h' : Po w' (T.P i) v' n' x') (k : PS w w' (T.P i) (T.v i) v') :
    Crew w0 w' N { T with v := up T.v i v', n := up T.n i n', pr := up T.pr i x' } := by
  have own : ∀ j, j < N → j ≠ i → ∀ z, (T.v j).ownBlock = some z → z < w.heap.size := fun j hj _ z hz => (h.po j hj).own_lt hz
  refine ⟨fun j hj => ?_, fun j hj => ?_, h.kept.then k.kept (fun j hj _ => ?_), h.a0, fun j hj => ?_, h.sa, fun a b ha hb hab => ?_⟩
  · have s := ac_po (h.ac j hj) (h.po i hi)
    exact (h.ac j hj).kept k.kept ⟨Ne.symm s.1.1, fun e => (s.2 _ e).1 rfl⟩ ⟨Ne.symm s.1.2, fun e => (s.2 _ e).2 rfl⟩
  · by_cases e : j = i
    · subst e
      show Po w' _ (up T.v j v' j) (up T.n j n' j) (up T.pr j x' j)
      rw [up_at, up_at, up_at]
      exact h'
    · show Po w' _ (up T.v i v' j) (up T.n i n' j) (up T.pr i x' j)
      rw [up_ne _ _ e, up_ne _ _ e, up_ne _ _ e]
      have s := h.sp j i hj hi e
      exact (h.po j hj).kept k.kept ⟨s.1, po_cross (h.po i hi) (h.po j hj)⟩ (fun z hz => ⟨fun q => po_cross (h.po j hj) (h.po i hi) (q ▸ hz), fun q => s.2 z hz q⟩)
  · have := h.p0 i hi
    exact ⟨by omega, fun e => by have := this.2 j e; omega⟩
  · refine ⟨(h.p0 j hj).1, fun z hz => ?_⟩
    by_cases e : j = i
    · subst e
      simp only [up_at] at hz
      rcases k.own z hz with q | q
      · exact (h.p0 j hj).2 z q
      · exact Nat.le_trans h.kept.size q
    · simp only [up_ne _ _ e] at hz
      exact (h.p0 j hj).2 z hz
  · refine ⟨(h.sp a b ha hb hab).1, fun z hz hz2 => ?_⟩
    by_cases ea : a = i
    · subst ea
      have eb : b ≠ a := Ne.symm hab
      simp only [up_at] at hz
      simp only [up_ne _ _ eb] at hz2
      rcases k.own z hz with q | q
      · exact (h.sp a b ha hb hab).2 z q hz2
      · have := (h.po b hb).own_lt hz2
        omega
    · simp only [up_ne _ _ ea] at hz
      by_cases eb : b = i
      · subst eb
        simp only [up_at] at hz2
        rcases k.own z hz2 with q | q
        · exact (h.sp a b ha hb hab).2 z hz q
        · have := (h.po a ha).own_lt hz
          omega
      · simp only [up_ne _ _ eb] at hz2
        exact (h.sp a b ha hb hab).2 z hz hz2
/-- One more of each. -/
theorem Crew.add (h : Crew w0 w N T) {A M c P n : Nat} {p : Bl} {f : Vs} {v : Value} {x : Pr} (k : Kept (fun _ => True) w w') (ha : Ac w' A M c p f) (hp : Po w' P v n x) (hA : w.heap.size ≤ A) (hM : w.heap.size ≤ M) (hP : w.heap.size ≤ P) (hv : ∀ z, v.ownBlock = some z → w.heap.size ≤ z) :
    Crew w0 w' (N + 1) ⟨up T.A N A, up T.M N M, up T.c N c, up T.P N P, up T.n N n, up T.v N v, up T.pa N p, up T.f N f, up T.pr N x⟩ := by
  have hs := h.kept.size
  refine ⟨fun j hj => ?_, fun j hj => ?_, h.kept.trans k, fun j hj => ?_, fun j hj => ?_, fun a b ha' hb' hab => ?_, fun a b ha' hb' hab => ?_⟩
  · by_cases e : j = N
    · subst e; simp only [up_at]; exact ha
    · simp only [up_ne _ _ e]; exact (h.ac j (by omega)).all k
  · by_cases e : j = N
    · subst e; simp only [up_at]; exact hp
    · simp only [up_ne _ _ e]; exact (h.po j (by omega)).all k
  · by_cases e : j = N
    · subst e; simp only [up_at]; omega
    · simp only [up_ne _ _ e]; exact h.a0 j (by omega)
  · by_cases e : j = N
    · subst e; simp only [up_at]; exact ⟨by omega, fun z hz => by have := hv z hz; omega⟩
    · simp only [up_ne _ _ e]; exact h.p0 j (by omega)
  · by_cases ea : a = N
    · subst ea
      have eb : b ≠ a := Ne.symm hab
      simp only [up_at, up_ne _ _ eb]
      have := (h.ac b (by omega)).lt
      have := (h.ac b (by omega)).mlt
      omega
    · simp only [up_ne _ _ ea]
      by_cases eb : b = N
      · subst eb
        simp only [up_at]
        have := (h.ac a (by omega)).lt
        have := (h.ac a (by omega)).mlt
        omega
      · simp only [up_ne _ _ eb]
        exact h.sa a b (by omega) (by omega) hab
  · by_cases ea : a = N
    · subst ea
      have eb : b ≠ a := Ne.symm hab
      simp only [up_at, up_ne _ _ eb]
      have := (h.po b (by omega)).lt
      refine ⟨by omega, fun z hz hz2 => ?_⟩
      have := hv z hz
      have := (h.po b (by omega)).own_lt hz2
      omega
    · simp only [up_ne _ _ ea]
      by_cases eb : b = N
      · subst eb
        simp only [up_at]
        have := (h.po a (by omega)).lt
        refine ⟨by omega, fun z hz hz2 => ?_⟩
        have := hv z hz2
        have := (h.po a (by omega)).own_lt hz
        omega
      · simp only [up_ne _ _ eb]
        exact h.sp a b (by omega) (by omega) hab
end
theorem Crew.none (w : World) (T : Tm) : Crew w w 0 T :=
  ⟨fun i hi => by omega, fun i hi => by omega, Kept.refl _ _, fun i hi => by omega, fun i hi => by omega, fun i j hi => by omega, fun i j hi => by omega⟩

/-- A row of pointers of its own. -/
def ptrs (g : Nat → Nat) (n : Nat) : List Value := (List.range n).map fun i => .pointer (some ⟨g i, 0, none⟩)
def Row (w : World) (base e : Nat) (v : Value) (n : Nat) (g : Nat → Nat) : Prop := w.ownsRow base e 1 v n (ptrs g n)
section
variable {w w' : World} {base e n : Nat} {v : Value} {g : Nat → Nat}
theorem Row.kept {p : Nat → Prop} (h : Row w base e v n g) (k : Kept p w w') (hp : ∀ i, v.ownBlock = some i → p i) : Row w' base e v n g := vown_kept h k hp
theorem Row.all (h : Row w base e v n g) (k : Kept (fun _ => True) w w') : Row w' base e v n g := h.kept k (fun _ _ => trivial)
theorem Row.shape (h : Row w base e v n g) : ∃ ao cap, v = .slice ao n cap := own_shape_row h
theorem Row.at {ao : Option Addr} {len cap : Nat} (h : Row w base e (.slice ao len cap) n g) {i : Nat} (hi : i < n) : ∃ b, ao = some ⟨b, 0, none⟩ ∧ w.cell? ⟨b, i, none⟩ = some (.pointer (some ⟨g i, 0, none⟩)) ∧ Value.ownBlock (.slice ao len cap) = some b := by
  rcases h.2 with ⟨h', h0⟩ | ⟨b, cap', cur, h', hb, hg, hc, hm, hs, ht⟩
  · omega
  · simp only [Value.slice.injEq] at h'
    obtain ⟨rfl, rfl, rfl⟩ := h'
    have h2 : w.ownsRow base e 1 (.slice (some ⟨b, 0, none⟩) len cap) len (ptrs g len) := ⟨h.1, .inr ⟨b, cap, cur, rfl, hb, hg, hc, hm, hs, ht⟩⟩
    refine ⟨b, rfl, (h2.cellAt i (by simpa using hi)).trans (by simp [ptrs, hi]), by simp [Value.ownBlock]⟩
theorem Row.ptr {b len cap : Nat} (h : Row w base e (.slice (some ⟨b, 0, none⟩) len cap) n g) {i : Nat} (hi : i < n) : w.cell? ⟨b, i, none⟩ = some (.pointer (some ⟨g i, 0, none⟩)) := by
  obtain ⟨b', e1, hc, _⟩ := h.at hi
  cases e1
  exact hc
theorem Row.side (h : Row w base e v n g) (he : sideT e) : ∀ i, v.ownBlock = some i → Side w i := by
  intro i hi
  rcases h.2 with ⟨rfl, _⟩ | ⟨b, cap', cur, rfl, hb, hg, _⟩
  · simp [Value.ownBlock] at hi
  · simp [Value.ownBlock] at hi
    subst hi
    exact ⟨_, _, _, hg, he⟩
theorem Row.congr {g' : Nat → Nat} (h : Row w base e v n g) (hg : ∀ i, i < n → g i = g' i) : Row w base e v n g' := by
  unfold Row ptrs at *
  rw [show (List.range n).map (fun i => Value.pointer (some ⟨g' i, 0, none⟩)) = (List.range n).map (fun i => Value.pointer (some ⟨g i, 0, none⟩)) from List.map_congr_left (fun i hi => by rw [hg i (List.mem_range.1 hi)])]
  exact h
end
theorem ptrs_one (g : Nat → Nat) (n : Nat) : ∀ u ∈ ptrs g n, u.oneCell' = true := by
  intro u hu
  obtain ⟨i, _, rfl⟩ := List.mem_map.1 hu
  rfl
theorem append_ptr (w : World) (ty sl e base : Nat) (hsl : Try.prog.underlying sl = some (.slice e)) (hinf : (Try.prog.info? e).map (fun i => (i.zero, i.size, i.bytes)) = some (some (.pointer none), 1, 8)) (v : Value) (n : Nat) (g : Nat → Nat) (h : Row w base e v n g) (hb : base ≤ w.heap.size) (G X : Nat) (fr : Nat × Nat) (hG : w.heap[G]? = some (.cells #[.pointer (some ⟨X, 0, none⟩)] e fr)) (hm : n ≤ 1000000) :
    ∃ ao' cap' w', (Builtin.append_ #[sl, sl] ty #[v, .slice (some ⟨G, 0, none⟩) 1 1]).run Try.prog w = .ok (.slice ao' (n + 1) cap') w' ∧ Row w' base e (.slice ao' (n + 1) cap') (n + 1) (up g n X) ∧ w.grownBy w' v.ownBlock := by
  obtain ⟨i, hi, hz0, hz1, hz2⟩ := info_parts hinf
  obtain ⟨v', w', hr, h2, h3, _, h5⟩ := run_append_own_at (P := Try.prog) w base sl ty e i (.pointer none) 1 8 hsl hi hz0 hz1 hz2 rfl (by decide) v n (ptrs g n) h ⟨G, 0, none⟩ 1 1 [.pointer (some ⟨X, 0, none⟩)] (by simp) (World.news_of_block (w := w) hG) (by intro u hu; simp at hu; subst hu; rfl) (by unfold maxLen; omega) (by omega) hb
  obtain ⟨ao', cap', rfl⟩ := own_shape_row h2
  refine ⟨ao', cap', w', hr, ?_, h3⟩
  unfold Row
  have : ptrs (up g n X) (n + 1) = ptrs g n ++ [.pointer (some ⟨X, 0, none⟩)] := by
    unfold ptrs
    rw [List.range_succ, List.map_append]
    congr 1
    · exact List.map_congr_left (fun i hi => by rw [up_ne _ _ (Nat.ne_of_lt (List.mem_range.1 hi))])
    · simp [up_at]
  rw [this]
  exact h2
theorem wpList_append_ptr {w : World} {ops : Array Oper} {rest : List Oper} {o : Oper} {a : Act} {Q : Exit → Act → World → Prop} (hgd : o.guard = none) (sl y : Operand) (ty e base : Nat) (ho : o.op = .call { callee := .builtin .append, args := #[sl, y], argTypes := #[ty, ty] })
    (hsl : Try.prog.underlying ty = some (.slice e)) (hinf : (Try.prog.info? e).map (fun i => (i.zero, i.size, i.bytes)) = some (some (.pointer none), 1, 8)) (v : Value) (n : Nat) (g : Nat → Nat) (hs : a.eval sl = v) (h : Row w base e v n g) (hb : base ≤ w.heap.size) (G : Nat) (hy : a.eval y = .slice (some ⟨G, 0, none⟩) 1 1) (X : Nat) (fr : Nat × Nat) (hG : w.heap[G]? = some (.cells #[.pointer (some ⟨X, 0, none⟩)] e fr)) (hm : n ≤ 1000000)
    (hK : ∀ ao' cap' w', Row w' base e (.slice ao' (n + 1) cap') (n + 1) (up g n X) → w.grownBy w' v.ownBlock → wpList Try.prog ops Q rest (a.put o.dst (.slice ao' (n + 1) cap')) w') : wpList Try.prog ops Q (o :: rest) a w := by
  refine wpList_plain hgd fun K hK' => ?_
  obtain ⟨ao', cap', w', hr, h2, h3⟩ := append_ptr w o.type ty e base hsl hinf v n g h hb G X fr hG hm
  unfold Oper.wp execOp
  simp only [ho, resolve, invoke, builtin, Sem.run_bind, Sem.run_pure, Result.andThen_ok, List.map_toArray, List.map_cons, List.map_nil, hs, hy, hr]
  exact hK' _ _ (hK ao' cap' w' h2 h3)
theorem Try.infoPA : (Try.prog.info? 46).map (fun i => (i.zero, i.size, i.bytes)) = some (some (.pointer none), 1, 8) := by kernel_rfl
theorem Try.infoPP : (Try.prog.info? 22).map (fun i => (i.zero, i.size, i.bytes)) = some (some (.pointer none), 1, 8) := by kernel_rfl
theorem side_pa : sideT 46 := by unfold sideT; decide
theorem side_pp : sideT 22 := by unfold sideT; decide
theorem side_bal : sideT 27 := by unfold sideT; decide
theorem side_vote : sideT 33 := by unfold sideT; decide
theorem VR.side {w : World} {v : Value} {xs : List Vo} (h : VR w v xs) : ∀ i, v.ownBlock = some i → Side w i := by
  intro i hi
  rcases h.2 with ⟨rfl, _⟩ | ⟨b, cap', cur, rfl, hb, hg, _⟩
  · simp [Value.ownBlock] at hi
  · simp [Value.ownBlock] at hi
    subst hi
    exact ⟨_, _, _, hg, side_vote⟩

end Go.Proofs.Ytpgoedpodfidjaa
