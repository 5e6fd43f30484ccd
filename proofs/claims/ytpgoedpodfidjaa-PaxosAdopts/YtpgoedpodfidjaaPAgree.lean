/-
  What PaxosAgrees holds in memory.
-/
import Derived.Test.YtpgoedpodfidjaaPTeam
import Derived.Test.YtpgoedpodfidjaaSWithin
namespace Go.Proofs.Ytpgoedpodfidjaa
open Go.RowKit

/-- The crew, the two slices over it, and the two arrays of the law. -/
structure AG (w0 w : World) (N : Nat) (va vp : Value) (X Y : Nat) (T : Tm) (ch : Nat → ByteArray) (is : Nat → Bool) : Prop where
  crew : Crew w0 w N T
  ra : Row w w0.heap.size 46 va N T.A
  rp : Row w w0.heap.size 22 vp N T.P
  ax : Af w X 48 4 (fun s => .string (ch s))
  ay : Af w Y 49 4 (fun s => .bool (is s))
  x0 : w0.heap.size ≤ X
  y0 : w0.heap.size ≤ Y

theorem Af.side {w : World} {b t n : Nat} {g : Nat → Value} (h : Af w b t n g) (ht : sideT t) : Side w b := ⟨_, _, _, h, ht⟩
theorem side_ax : sideT 48 := by unfold sideT; decide
theorem side_ay : sideT 49 := by unfold sideT; decide
/-- Rows and arrays of unlike types lie apart. -/
theorem row_af {w : World} {base e n b t m : Nat} {v : Value} {g : Nat → Nat} {g' : Nat → Value} (h : Row w base e v n g) (h' : Af w b t m g') (ht : e ≠ t) : v.ownBlock ≠ some b := by
  intro q
  rcases h.2 with ⟨rfl, _⟩ | ⟨z, cap', cur, rfl, hb, hg, _⟩
  · simp [Value.ownBlock] at q
  · simp [Value.ownBlock] at q
    subst q
    unfold Af at h'
    rw [hg] at h'
    simp only [Option.some.injEq, Obj.cells.injEq] at h'
    exact ht h'.2.1
theorem af_af {w : World} {b t m b' t' m' : Nat} {g g' : Nat → Value} (h : Af w b t m g) (h' : Af w b' t' m' g') (ht : t ≠ t') : b ≠ b' := by
  intro q
  subst q
  unfold Af at h h'
  rw [h] at h'
  simp only [Option.some.injEq, Obj.cells.injEq] at h'
  exact ht h'.2.1

section
variable {w0 w w' : World} {N : Nat} {va vp : Value} {X Y : Nat} {T : Tm} {ch : Nat → ByteArray} {is : Nat → Bool}
theorem AG.ahead (h : AG w0 w N va vp X Y T ch is) (k : Kept (fun _ => True) w w') : AG w0 w' N va vp X Y T ch is :=
  ⟨h.crew.ahead k, h.ra.all k, h.rp.all k, h.ax.kept k trivial, h.ay.kept k trivial, h.x0, h.y0⟩
theorem AG.acc (h : AG w0 w N va vp X Y T ch is) {i : Nat} (hi : i < N) {c' : Nat} {p' : Bl} {f' : Vs} (h' : Ac w' (T.A i) (T.M i) c' p' f') (k : Kept (fun x => x ≠ T.A i ∧ x ≠ T.M i) w w') :
    AG w0 w' N va vp X Y { T with c := up T.c i c', pa := up T.pa i p', f := up T.f i f' } ch is :=
  ⟨h.crew.acc hi h' k, h.ra.kept k (fun z hz => h.crew.offA hi (h.ra.side side_pa z hz)), h.rp.kept k (fun z hz => h.crew.offA hi (h.rp.side side_pp z hz)), h.ax.kept k (h.crew.offA hi (h.ax.side side_ax)), h.ay.kept k (h.crew.offA hi (h.ay.side side_ay)), h.x0, h.y0⟩
theorem AG.prop (h : AG w0 w N va vp X Y T ch is) {i : Nat} (hi : i < N) {v' : Value} {n' : Nat} {x' : Pr} (h' : Po w' (T.P i) v' n' x') (k : PS w w' (T.P i) (T.v i) v') :
    AG w0 w' N va vp X Y { T with v := up T.v i v', n := up T.n i n', pr := up T.pr i x' } ch is :=
  ⟨h.crew.prop hi h' k, h.ra.kept k.kept (fun z hz => h.crew.offP hi (h.ra.side side_pa z hz)), h.rp.kept k.kept (fun z hz => h.crew.offP hi (h.rp.side side_pp z hz)), h.ax.kept k.kept (h.crew.offP hi (h.ax.side side_ax)), h.ay.kept k.kept (h.crew.offP hi (h.ay.side side_ay)), h.x0, h.y0⟩
theorem AG.setX (h : AG w0 w N va vp X Y T ch is) (s : Nat) (v : ByteArray) : AG w0 (w.setCell ⟨X, s, none⟩ (.string v)) N va vp X Y T (fun j => if j = s then v else ch j) is := by
  have k : Kept (· ≠ X) w (w.setCell ⟨X, s, none⟩ (.string v)) := (Kept.refl _ _).setCell (by simp) _
  refine ⟨h.crew.side k (fun i hi => ?_), h.ra.kept k (fun z hz e => row_af h.ra h.ax (by decide) (e ▸ hz)), h.rp.kept k (fun z hz e => row_af h.rp h.ax (by decide) (e ▸ hz)), ?_, h.ay.kept k (Ne.symm (af_af h.ax h.ay (by decide))), h.x0, h.y0⟩
  · have : i = X := Classical.byContradiction fun e => hi e
    subst this
    exact ⟨h.ax.side side_ax, h.x0⟩
  · exact (h.ax.set s (.string v)).congr (fun i _ => by split <;> rfl)
theorem AG.setY (h : AG w0 w N va vp X Y T ch is) (s : Nat) (v : Bool) : AG w0 (w.setCell ⟨Y, s, none⟩ (.bool v)) N va vp X Y T ch (fun j => if j = s then v else is j) := by
  have k : Kept (· ≠ Y) w (w.setCell ⟨Y, s, none⟩ (.bool v)) := (Kept.refl _ _).setCell (by simp) _
  refine ⟨h.crew.side k (fun i hi => ?_), h.ra.kept k (fun z hz e => row_af h.ra h.ay (by decide) (e ▸ hz)), h.rp.kept k (fun z hz e => row_af h.rp h.ay (by decide) (e ▸ hz)), h.ax.kept k (af_af h.ax h.ay (by decide)), ?_, h.x0, h.y0⟩
  · have : i = Y := Classical.byContradiction fun e => hi e
    subst this
    exact ⟨h.ay.side side_ay, h.y0⟩
  · exact (h.ay.set s (.bool v)).congr (fun i _ => by split <;> rfl)
end

theorem Two.side {w : World} {r n : Int} : Side (w.alloc (.cells #[.int .i64 r, .int .i64 n] 27)) w.heap.size := ⟨_, _, _, heap_alloc_new w _, side_bal⟩

theorem bytes_ne {a b : ByteArray} (h : a ≠ b) : (a.toList == b.toList) = false := by
  rw [ByteArray.toList_eq, ByteArray.toList_eq, beq_eq_false_iff_ne]
  intro e
  apply h
  obtain ⟨⟨x⟩⟩ := a
  obtain ⟨⟨y⟩⟩ := b
  have : x = y := e
  rw [this]
/-- How many of the first n vote for v at s. -/
def votesFor (f : Nat → Vs) (s : Nat) (v : ByteArray) (j : Nat) : Bool := match f j s with | some (_, u) => decide (u = v) | none => false
def cnt (p : Nat → Bool) (n : Nat) : Nat := ((List.range n).filter p).length
theorem cnt_succ (p : Nat → Bool) (n : Nat) : cnt p (n + 1) = cnt p n + if p n = true then 1 else 0 := by
  unfold cnt
  rw [List.range_succ, List.filter_append, List.length_append]
  by_cases h : p n = true
  · simp [h]
  · simp [h]
theorem cnt_le (p : Nat → Bool) (n : Nat) : cnt p n ≤ n := by
  unfold cnt
  exact Nat.le_trans (List.length_filter_le _ _) (by simp)
theorem filter_below (p : Nat → Bool) (n d : Nat) : (List.range (n + d)).filter (fun j => decide (j < n) && p j) = (List.range n).filter p := by
  induction d with
  | zero =>
    apply List.filter_congr
    intro j hj
    simp at hj
    simp [hj]
  | succ d ih =>
    rw [show n + (d + 1) = (n + d) + 1 by omega, List.range_succ, List.filter_append, ih]
    simp
    intro h
    omega
def headFor (L : List Vo) (s : Nat) (v : ByteArray) : Bool := match L with | [] => false | x :: _ => decide (x.s = s) && decide (x.v = v)
theorem votesUp_first (f : Vs) {a b : Nat} (h : a < b) : votesUp f a b = (voteAt f a).toList ++ votesUp f (a + 1) b := by
  unfold votesUp
  rw [show b - a = (b - (a + 1)) + 1 by omega, List.range'_succ, List.filterMap_cons]
  cases voteAt f a <;> rfl
theorem votesFor_head (f : Nat → Vs) {s : Nat} (hs : s < 512) (v : ByteArray) (j : Nat) : votesFor f s v j = headFor (votesUp (f j) s 512) s v := by
  unfold votesFor
  rw [votesUp_first _ hs]
  cases hf : f j s with
  | none =>
    have : voteAt (f j) s = none := by simp [voteAt, hf]
    rw [this]
    simp only [Option.toList_none, List.nil_append]
    cases hL : votesUp (f j) (s + 1) 512 with
    | nil => rfl
    | cons x xs =>
      obtain ⟨t, h1, _, h3⟩ := votesUp_mem (f := f j) (a := s + 1) (b := 512) (x := x) (by rw [hL]; exact .head _)
      have : x.s = (t : Int) := by
        unfold voteAt at h3
        cases hq : f j t with
        | none => rw [hq] at h3; cases h3
        | some z => rw [hq] at h3; simp only [Option.map_some, Option.some.injEq] at h3; rw [← h3]
      unfold headFor
      simp only [this]
      have : ¬ ((t : Int) = (s : Int)) := by omega
      simp [this]
  | some x =>
    have : voteAt (f j) s = some ⟨s, x.1, x.2⟩ := by simp [voteAt, hf]
    rw [this]
    simp [headFor]
theorem ones_cnt {S N : Nat} {p : Nat → Bool} (hN : N ≤ 5) (h : ∀ n, S.testBit n = true → n < N ∧ p n = true) : ones S ≤ cnt p N := by
  have h1 := filter_two (List.range 5) S.testBit (fun _ => false) (fun j => decide (j < N) && p j) (fun k hk => by have := h k hk; simp [this.1, this.2]) (fun k hk => by cases hk) (fun k _ hk => by cases hk)
  have h2 := filter_below p N (5 - N)
  rw [show N + (5 - N) = 5 by omega] at h2
  rw [h2] at h1
  unfold ones cnt
  omega

end Go.Proofs.Ytpgoedpodfidjaa
