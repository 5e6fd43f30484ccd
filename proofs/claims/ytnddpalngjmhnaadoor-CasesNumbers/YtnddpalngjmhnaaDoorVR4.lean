/-
  The document's Copy.
-/
import Derived.Test.YtnddpalngjmhnaaDoorV11
import Derived.Test.YtnddpalngjmhnaaDoorVAny
namespace Go.Proofs.YtnddpalngjmhnaaDoor
open Go.RowKit

/-- A row that is made (b), then appended to (a). -/
def Ch (w : World) (base : Nat) (ty : TypeId) (xs : List Value) (b a : Bool) (ub ua : Value) : Prop :=
  (b = true → a = false → (∃ g, ub = .slice (some ⟨g, 0, none⟩) 0 0) ∧ w.ownsRow base ty 1 ub 0 []) ∧ (a = true → w.ownsRow base ty 1 ua xs.length xs)
def blk (b a : Bool) (ub ua : Value) : Option Nat := if a = true then ua.ownBlock else if b = true then ub.ownBlock else none
theorem Ch.zero (w : World) (base : Nat) (ty : TypeId) (xs : List Value) (u v : Value) : Ch w base ty xs false false u v := ⟨fun h => (by cases h), fun h => (by cases h)⟩
theorem Ch.keep {p : Nat → Prop} {w w' : World} {base : Nat} {ty : TypeId} {xs : List Value} {b a : Bool} {ub ua : Value} (h : Ch w base ty xs b a ub ua) (k : Kept p w w') (hp : ∀ i, blk b a ub ua = some i → p i) : Ch w' base ty xs b a ub ua := by
  refine ⟨fun hb ha => ⟨(h.1 hb ha).1, own_keep (h.1 hb ha).2 k fun i e => hp i ?_⟩, fun ha => own_keep (h.2 ha) k fun i e => hp i ?_⟩
  · simp [blk, hb, ha, e]
  · simp [blk, ha, e]
theorem Ch.all {w w' : World} {base : Nat} {ty : TypeId} {xs : List Value} {b a : Bool} {ub ua : Value} (h : Ch w base ty xs b a ub ua) (k : Kept (fun _ => True) w w') : Ch w' base ty xs b a ub ua := h.keep k fun _ _ => trivial
theorem Ch.lt {w : World} {base : Nat} {ty : TypeId} {xs : List Value} {b a : Bool} {ub ua : Value} (h : Ch w base ty xs b a ub ua) {i : Nat} (e : blk b a ub ua = some i) : base ≤ i ∧ i < w.heap.size := by
  unfold blk at e
  by_cases ha : a = true
  · rw [if_pos ha] at e
    exact (h.2 ha).lt i e
  · rw [if_neg ha] at e
    by_cases hb : b = true
    · rw [if_pos hb] at e
      exact (h.1 hb (by simpa using ha)).2.lt i e
    · rw [if_neg hb] at e
      cases e
theorem Ch.row {w : World} {base : Nat} {ty : TypeId} {xs : List Value} {b a : Bool} {ub ua : Value} (h : Ch w base ty xs b a ub ua) {i : Nat} (e : blk b a ub ua = some i) : ∃ (n : Nat) (v : Value) (ys : List Value), w.ownsRow base ty 1 v n ys ∧ v.ownBlock = some i := by
  unfold blk at e
  by_cases ha : a = true
  · rw [if_pos ha] at e
    exact ⟨_, _, _, h.2 ha, e⟩
  · rw [if_neg ha] at e
    by_cases hb : b = true
    · rw [if_pos hb] at e
      exact ⟨_, _, _, (h.1 hb (by simpa using ha)).2, e⟩
    · rw [if_neg hb] at e
      cases e
/-- Rows of numbers and rows of truths are apart. -/
theorem Ch.apart {w : World} {base : Nat} {xs ys : List Value} {b a b' a' : Bool} {ub ua vb va : Value} (h : Ch w base 3 xs b a ub ua) (k : Ch w base 4 ys b' a' vb va) {i : Nat} (e : blk b a ub ua = some i) : blk b' a' vb va ≠ some i := by
  intro q
  obtain ⟨_, _, _, r1, e1⟩ := h.row e
  obtain ⟨_, _, _, r2, e2⟩ := k.row q
  exact types_differ r1 r2 i e1 e2
theorem Ch.made {w : World} {base : Nat} (ty : TypeId) (xs : List Value) (u : Value) (hb : base ≤ w.heap.size) : Ch (w.alloc (.cells #[] ty)) base ty xs true false (.slice (some ⟨w.heap.size, 0, none⟩) 0 0) u :=
  ⟨fun _ _ => ⟨⟨_, rfl⟩, World.ownsRow_lit (base := base) (e := ty) (size := 1) w #[] 0 hb (by unfold maxLen; omega) (by simp)⟩, fun h => (by cases h)⟩

/-- While a state is copied: the three rows. -/
structure Cq (w1 w : World) (s : Sa) (d : Nat → Bool) (u5 u8 u9 u12 u13 u16 u17 : Value) : Prop where
  tk : d 0 = true ∧ d 1 = true ∧ d 3 = true ∧ d 4 = true ∧ d 7 = true ∧ d 8 = true ∧ d 11 = true ∧ d 12 = true
  c1 : Ch w w1.heap.size 3 (iv s.vals) (d 2) (d 5) u5 u8
  c2 : Ch w w1.heap.size 4 (bv s.done) (d 6) (d 9) u9 u12
  c3 : Ch w w1.heap.size 4 (bv s.got) (d 10) (d 13) u13 u16
  x : ∀ i, blk (d 6) (d 9) u9 u12 = some i → blk (d 10) (d 13) u13 u16 ≠ some i
  k : Kept (fun _ => True) w1 w
  e : d 14 = true → u17 = .agg #[.string ⟨s.type.toArray⟩, u8, u12, u16]
  wt : (d 5 = true → d 2 = true) ∧ (d 9 = true → d 6 = true) ∧ (d 13 = true → d 10 = true)
  early : d 14 = true → d 5 = true ∧ d 9 = true ∧ d 13 = true
/-- Behind all. -/
structure Cr (w1 w : World) (s : Sa) (B : Nat) (u8 u12 u16 : Value) : Prop where
  box : w.heap[B + 1]? = some (.cells #[.string ⟨s.type.toArray⟩, u8, u12, u16] 31 (0, 0))
  so : So w w1.heap.size u8 u12 u16 s
  k : Kept (· ≠ B + 1) w1 w

section
variable {w1 w : World} {s : Sa} {d : Nat → Bool} {u5 u8 u9 u12 u13 u16 u17 : Value}
theorem Cq.made5 (h : Cq w1 w s d u5 u8 u9 u12 u13 u16 u17) (hno : d 5 = false) : Cq w1 (w.alloc (.cells #[] 3)) s (fun j => decide (j = 2) || d j) (.slice (some ⟨w.heap.size, 0, none⟩) 0 0) u8 u9 u12 u13 u16 u17 := by
  have ka : Kept (fun _ => True) w (w.alloc (.cells #[] 3)) := (Kept.refl _ _).alloc _
  refine ⟨by simpa using h.tk, ?_, by simpa using h.c2.all ka, by simpa using h.c3.all ka, by simpa using h.x, h.k.trans ka, by simpa using h.e, ⟨fun _ => (by simp), by simpa using h.wt.2.1, by simpa using h.wt.2.2⟩, by simpa using h.early⟩
  have := Ch.made 3 (iv s.vals) u8 h.k.size
  simpa [hno] using this
theorem Cq.made9 (h : Cq w1 w s d u5 u8 u9 u12 u13 u16 u17) (hno : d 9 = false) : Cq w1 (w.alloc (.cells #[] 4)) s (fun j => decide (j = 6) || d j) u5 u8 (.slice (some ⟨w.heap.size, 0, none⟩) 0 0) u12 u13 u16 u17 := by
  have ka : Kept (fun _ => True) w (w.alloc (.cells #[] 4)) := (Kept.refl _ _).alloc _
  refine ⟨by simpa using h.tk, by simpa using h.c1.all ka, ?_, by simpa using h.c3.all ka, ?_, h.k.trans ka, by simpa using h.e, ⟨by simpa using h.wt.1, fun _ => (by simp), by simpa using h.wt.2.2⟩, by simpa using h.early⟩
  · have := Ch.made 4 (bv s.done) u12 h.k.size
    simpa [hno] using this
  · intro i e q
    have q' : blk (d 10) (d 13) u13 u16 = some i := by simpa using q
    have e' : w.heap.size = i := by simpa [blk, hno, Value.ownBlock] using e
    have := (h.c3.lt q').2
    omega
theorem Cq.made13 (h : Cq w1 w s d u5 u8 u9 u12 u13 u16 u17) (hno : d 13 = false) : Cq w1 (w.alloc (.cells #[] 4)) s (fun j => decide (j = 10) || d j) u5 u8 u9 u12 (.slice (some ⟨w.heap.size, 0, none⟩) 0 0) u16 u17 := by
  have ka : Kept (fun _ => True) w (w.alloc (.cells #[] 4)) := (Kept.refl _ _).alloc _
  refine ⟨by simpa using h.tk, by simpa using h.c1.all ka, by simpa using h.c2.all ka, ?_, ?_, h.k.trans ka, by simpa using h.e, ⟨by simpa using h.wt.1, by simpa using h.wt.2.1, fun _ => (by simp)⟩, by simpa using h.early⟩
  · have := Ch.made 4 (bv s.got) u16 h.k.size
    simpa [hno] using this
  · intro i e q
    have e' : blk (d 6) (d 9) u9 u12 = some i := by simpa using e
    have q' : w.heap.size = i := by simpa [blk, hno, Value.ownBlock] using q
    have := (h.c2.lt e').2
    omega
variable {W' : World} {g n cap : Nat} {ao : Option Addr}
theorem Cq.app8 (h : Cq w1 w s d (.slice (some ⟨g, 0, none⟩) 0 0) u8 u9 u12 u13 u16 u17) (hb : d 2 = true) (hd : d 5 = false) (hW : W'.ownsRow w1.heap.size 3 1 (.slice ao s.vals.length cap) s.vals.length (iv s.vals)) (hG : w.grownBy W' (Value.slice (some ⟨g, 0, none⟩) 0 0).ownBlock) :
    Kept (fun _ => True) w1 W' ∧ Cq w1 W' s (fun j => decide (j = 5) || d j) (.slice (some ⟨g, 0, none⟩) 0 0) (.slice ao s.vals.length cap) u9 u12 u13 u16 u17 := by
  have hg : blk (d 2) (d 5) (.slice (some ⟨g, 0, none⟩) 0 0) u8 = some g := by simp [blk, hb, hd, Value.ownBlock]
  have kg : Kept (fun i => i ≠ g) w W' := (Kept.refl _ _).grown hG (fun k _ e => by simpa [Value.ownBlock] using e.symm)
  have k1 : Kept (fun _ => True) w1 W' := h.k.grown hG (fun k hk e => by have := (h.c1.lt hg).1; simp [Value.ownBlock] at e; omega)
  refine ⟨k1, by simpa using h.tk, ?_, ?_, ?_, by simpa using h.x, k1, ?_, ⟨fun _ => (by simpa using hb), by simpa using h.wt.2.1, by simpa using h.wt.2.2⟩, ?_⟩
  · exact ⟨fun _ q => (by simp at q), fun _ => by rw [iv_len]; exact hW⟩
  · simpa using h.c2.keep kg (fun i e q => h.c1.apart h.c2 hg (by rw [← q]; exact e))
  · simpa using h.c3.keep kg (fun i e q => h.c1.apart h.c3 hg (by rw [← q]; exact e))
  all_goals
    intro q
    have := h.early (by simpa using q)
    rw [hd] at this
    cases this.1
theorem Cq.app12 (h : Cq w1 w s d u5 u8 (.slice (some ⟨g, 0, none⟩) 0 0) u12 u13 u16 u17) (hb : d 6 = true) (hd : d 9 = false) (hW : W'.ownsRow w1.heap.size 4 1 (.slice ao s.done.length cap) s.done.length (bv s.done)) (hG : w.grownBy W' (Value.slice (some ⟨g, 0, none⟩) 0 0).ownBlock) (hO : (Value.slice ao s.done.length cap).ownBlock = (Value.slice (some ⟨g, 0, none⟩) 0 0).ownBlock ∨ (Value.slice ao s.done.length cap).ownBlock = some w.heap.size) :
    Kept (fun _ => True) w1 W' ∧ Cq w1 W' s (fun j => decide (j = 9) || d j) u5 u8 (.slice (some ⟨g, 0, none⟩) 0 0) (.slice ao s.done.length cap) u13 u16 u17 := by
  have hg : blk (d 6) (d 9) (.slice (some ⟨g, 0, none⟩) 0 0) u12 = some g := by simp [blk, hb, hd, Value.ownBlock]
  have kg : Kept (fun i => i ≠ g) w W' := (Kept.refl _ _).grown hG (fun k _ e => by simpa [Value.ownBlock] using e.symm)
  have k1 : Kept (fun _ => True) w1 W' := h.k.grown hG (fun k hk e => by have := (h.c2.lt hg).1; simp [Value.ownBlock] at e; omega)
  refine ⟨k1, by simpa using h.tk, ?_, ?_, ?_, ?_, k1, ?_, ⟨by simpa using h.wt.1, fun _ => (by simpa using hb), by simpa using h.wt.2.2⟩, ?_⟩
  · simpa using h.c1.keep kg (fun i e q => h.c1.apart h.c2 (by rw [← q]; exact e) hg)
  · exact ⟨fun _ q => (by simp at q), fun _ => by rw [bv_len]; exact hW⟩
  · simpa using h.c3.keep kg (fun i e q => h.x g hg (by rw [← q]; exact e))
  · intro i e q
    have e' : (Value.slice ao s.done.length cap).ownBlock = some i := by simpa [blk] using e
    have q' : blk (d 10) (d 13) u13 u16 = some i := by simpa using q
    rcases hO with hO | hO
    · rw [e'] at hO
      have : i = g := by simpa [Value.ownBlock] using hO
      exact h.x g hg (by rw [← this]; exact q')
    · rw [e'] at hO
      have := (h.c3.lt q').2
      have : i = w.heap.size := Option.some.inj hO
      omega
  all_goals
    intro q
    have := h.early (by simpa using q)
    rw [hd] at this
    cases this.2.1
theorem Cq.app16 (h : Cq w1 w s d u5 u8 u9 u12 (.slice (some ⟨g, 0, none⟩) 0 0) u16 u17) (hb : d 10 = true) (hd : d 13 = false) (hW : W'.ownsRow w1.heap.size 4 1 (.slice ao s.got.length cap) s.got.length (bv s.got)) (hG : w.grownBy W' (Value.slice (some ⟨g, 0, none⟩) 0 0).ownBlock) (hO : (Value.slice ao s.got.length cap).ownBlock = (Value.slice (some ⟨g, 0, none⟩) 0 0).ownBlock ∨ (Value.slice ao s.got.length cap).ownBlock = some w.heap.size) :
    Kept (fun _ => True) w1 W' ∧ Cq w1 W' s (fun j => decide (j = 13) || d j) u5 u8 u9 u12 (.slice (some ⟨g, 0, none⟩) 0 0) (.slice ao s.got.length cap) u17 := by
  have hg : blk (d 10) (d 13) (.slice (some ⟨g, 0, none⟩) 0 0) u16 = some g := by simp [blk, hb, hd, Value.ownBlock]
  have kg : Kept (fun i => i ≠ g) w W' := (Kept.refl _ _).grown hG (fun k _ e => by simpa [Value.ownBlock] using e.symm)
  have k1 : Kept (fun _ => True) w1 W' := h.k.grown hG (fun k hk e => by have := (h.c3.lt hg).1; simp [Value.ownBlock] at e; omega)
  refine ⟨k1, by simpa using h.tk, ?_, ?_, ?_, ?_, k1, ?_, ⟨by simpa using h.wt.1, by simpa using h.wt.2.1, fun _ => (by simpa using hb)⟩, ?_⟩
  · simpa using h.c1.keep kg (fun i e q => h.c1.apart h.c3 (by rw [← q]; exact e) hg)
  · simpa using h.c2.keep kg (fun i e q => h.x i e (by rw [q]; exact hg))
  · exact ⟨fun _ q => (by simp at q), fun _ => by rw [bv_len]; exact hW⟩
  · intro i e q
    have e' : blk (d 6) (d 9) u9 u12 = some i := by simpa using e
    have q' : (Value.slice ao s.got.length cap).ownBlock = some i := by simpa [blk] using q
    rcases hO with hO | hO
    · rw [q'] at hO
      have : i = g := by simpa [Value.ownBlock] using hO
      exact h.x i e' (by rw [this]; exact hg)
    · rw [q'] at hO
      have := (h.c2.lt e').2
      have : i = w.heap.size := Option.some.inj hO
      omega
  all_goals
    intro q
    have := h.early (by simpa using q)
    rw [hd] at this
    cases this.2.2
theorem Cq.built (h : Cq w1 w s d u5 u8 u9 u12 u13 u16 u17) (hd : d 5 = true ∧ d 9 = true ∧ d 13 = true) : Cq w1 w s (fun j => decide (j = 14) || d j) u5 u8 u9 u12 u13 u16 (.agg #[.string ⟨s.type.toArray⟩, u8, u12, u16]) :=
  ⟨by simpa using h.tk, by simpa using h.c1, by simpa using h.c2, by simpa using h.c3, by simpa using h.x, h.k, fun _ => rfl, by simpa using h.wt, fun _ => by simpa using hd⟩
end

set_option maxRecDepth 100000 in
set_option maxHeartbeats 16000000 in
theorem rcopy_any {w : World} {sv : Value} {s : Sa} (hs : StV w sv s) (f : Few s) :
    Calls Tryd.prog 38 #[sv] w fun e w' => ∃ va vd vg, e = .returned (.agg #[.string ⟨s.type.toArray⟩, va, vd, vg]) ∧ So w' w.heap.size va vd vg s ∧ Kept (fun _ => True) w w' := by
  obtain ⟨va, vd, vg, rfl, h1, h2, h3⟩ := hs
  obtain ⟨vo, vc, rfl, -, -⟩ := h1.ints
  obtain ⟨eo, ec, rfl, -, -⟩ := h2.bools
  obtain ⟨go, gc, rfl, -, -⟩ := h3.bools
  have hk : Kept (fun _ => True) w ((w.alloc (.cells #[.string ⟨s.type.toArray⟩, .slice vo s.vals.length vc, .slice eo s.done.length ec, .slice go s.got.length gc] 31)).alloc (.cells #[.string ⟨#[]⟩, .slice none 0 0, .slice none 0 0, .slice none 0 0] 31)) := ((Kept.refl _ _).alloc _).alloc _
  obtain ⟨x1, x2⟩ := alloc_two w (.cells #[.string ⟨s.type.toArray⟩, .slice vo s.vals.length vc, .slice eo s.done.length ec, .slice go s.got.length gc] 31) (.cells #[.string ⟨#[]⟩, .slice none 0 0, .slice none 0 0, .slice none 0 0] 31)
  have HV : Hid (Cv _ (.slice vo s.vals.length vc) (iv s.vals)) := h1.all hk
  have HE : Hid (Cv _ (.slice eo s.done.length ec) (bv s.done)) := h2.all hk
  have HG : Hid (Cv _ (.slice go s.got.length gc) (bv s.got)) := h3.all hk
  have HF : Hid (Few s) := f
  have K0 : Hid _ := hk
  clear h1 h2 h3 f hk
  go_enter Tryd.func38, Tryd.ntmps38
  go_upto_region 1 with fail
  generalize (w.alloc (.cells #[.string ⟨s.type.toArray⟩, .slice vo s.vals.length vc, .slice eo s.done.length ec, .slice go s.got.length gc] 31)).alloc (.cells #[.string ⟨#[]⟩, .slice none 0 0, .slice none 0 0, .slice none 0 0] 31) = w1 at *
  obtain ⟨B, hB⟩ : ∃ B, B = w.heap.size := ⟨_, rfl⟩
  rw [← hB] at x1 x2 ⊢
  have HB : Hid (B = w.heap.size) := hB
  clear hB
  obtain ⟨⟨z0, z1, z2, z3⟩, _⟩ := four_cell x1
  have X1 : Hid _ := x1
  have X2 : Hid _ := x2
  have Z0 := fun W (q : Kept (fun _ => True) w1 W) => (kept_cell q (lt_of_block x1) trivial).trans z0
  have Z1 := fun W (q : Kept (fun _ => True) w1 W) => (kept_cell q (lt_of_block x1) trivial).trans z1
  have Z2 := fun W (q : Kept (fun _ => True) w1 W) => (kept_cell q (lt_of_block x1) trivial).trans z2
  have Z3 := fun W (q : Kept (fun _ => True) w1 W) => (kept_cell q (lt_of_block x1) trivial).trans z3
  clear x1 x2
  have kd : Kept (fun _ => True) w1 w1.drew := (Kept.refl _ _).drew
  refine Gz.begin (fun W => Kept (fun _ => True) w1 W) (fun i => decide (i = 15)) (by kernel_rfl) ?_
  refine Gz.take (i := 0) (oi := { dst := some 3, op := Op.fieldAddr 31 (Operand.tmp 1) 0, type := 0, pos := _, after := #[], guard := none }) (v := ?_) rfl (by kernel_rfl) (by kernel_rfl) (by kernel_rfl) (by kernel_rfl) (fun _ _ _ h => h) (Or.inl ⟨by rfl, ?hy0⟩) kd ?_
  case hy0 => (intro W hSw; (try dsimp only at hSw); go_simp; try with_reducible rfl)
  try simp only [Act.put, List.setIfInBounds_toArray, List.set_cons_zero, List.set_cons_succ]
  refine Gz.take (i := 1) (oi := { dst := some 4, op := Op.load 9 (Operand.tmp 3), type := 9, pos := _, after := #[{ on := 0, ground := Ground.data }], guard := none }) (v := ?_) rfl (by kernel_rfl) (by kernel_rfl) (by kernel_rfl) (by kernel_rfl) (fun _ _ _ h => h) (Or.inl ⟨by rfl, ?hy1⟩) kd ?_
  case hy1 => (intro W hSw; (try dsimp only at hSw); go_simp; try with_reducible rfl)
  try simp only [Act.put, List.setIfInBounds_toArray, List.set_cons_zero, List.set_cons_succ]
  refine Gz.take (i := 3) (oi := { dst := some 6, op := Op.fieldAddr 31 (Operand.tmp 1) 1, type := 0, pos := _, after := #[], guard := none }) (v := ?_) rfl (by kernel_rfl) (by kernel_rfl) (by kernel_rfl) (by kernel_rfl) (fun _ _ _ h => h) (Or.inl ⟨by rfl, ?hy3⟩) kd ?_
  case hy3 => (intro W hSw; (try dsimp only at hSw); go_simp; try with_reducible rfl)
  try simp only [Act.put, List.setIfInBounds_toArray, List.set_cons_zero, List.set_cons_succ]
  refine Gz.take (i := 4) (oi := { dst := some 7, op := Op.load 28 (Operand.tmp 6), type := 28, pos := _, after := #[{ on := 3, ground := Ground.data }], guard := none }) (v := ?_) rfl (by kernel_rfl) (by kernel_rfl) (by kernel_rfl) (by kernel_rfl) (fun _ _ _ h => h) (Or.inl ⟨by rfl, ?hy4⟩) kd ?_
  case hy4 => (intro W hSw; (try dsimp only at hSw); go_simp; try with_reducible rfl)
  try simp only [Act.put, List.setIfInBounds_toArray, List.set_cons_zero, List.set_cons_succ]
  refine Gz.take (i := 7) (oi := { dst := some 10, op := Op.fieldAddr 31 (Operand.tmp 1) 2, type := 0, pos := _, after := #[], guard := none }) (v := ?_) rfl (by kernel_rfl) (by kernel_rfl) (by kernel_rfl) (by kernel_rfl) (fun _ _ _ h => h) (Or.inl ⟨by rfl, ?hy7⟩) kd ?_
  case hy7 => (intro W hSw; (try dsimp only at hSw); go_simp; try with_reducible rfl)
  try simp only [Act.put, List.setIfInBounds_toArray, List.set_cons_zero, List.set_cons_succ]
  refine Gz.take (i := 8) (oi := { dst := some 11, op := Op.load 29 (Operand.tmp 10), type := 29, pos := _, after := #[{ on := 7, ground := Ground.data }], guard := none }) (v := ?_) rfl (by kernel_rfl) (by kernel_rfl) (by kernel_rfl) (by kernel_rfl) (fun _ _ _ h => h) (Or.inl ⟨by rfl, ?hy8⟩) kd ?_
  case hy8 => (intro W hSw; (try dsimp only at hSw); go_simp; try with_reducible rfl)
  try simp only [Act.put, List.setIfInBounds_toArray, List.set_cons_zero, List.set_cons_succ]
  refine Gz.take (i := 11) (oi := { dst := some 14, op := Op.fieldAddr 31 (Operand.tmp 1) 3, type := 0, pos := _, after := #[], guard := none }) (v := ?_) rfl (by kernel_rfl) (by kernel_rfl) (by kernel_rfl) (by kernel_rfl) (fun _ _ _ h => h) (Or.inl ⟨by rfl, ?hy11⟩) kd ?_
  case hy11 => (intro W hSw; (try dsimp only at hSw); go_simp; try with_reducible rfl)
  try simp only [Act.put, List.setIfInBounds_toArray, List.set_cons_zero, List.set_cons_succ]
  refine Gz.take (i := 12) (oi := { dst := some 15, op := Op.load 29 (Operand.tmp 14), type := 29, pos := _, after := #[{ on := 11, ground := Ground.data }], guard := none }) (v := ?_) rfl (by kernel_rfl) (by kernel_rfl) (by kernel_rfl) (by kernel_rfl) (fun _ _ _ h => h) (Or.inl ⟨by rfl, ?hy12⟩) kd ?_
  case hy12 => (intro W hSw; (try dsimp only at hSw); go_simp; try with_reducible rfl)
  try simp only [Act.put, List.setIfInBounds_toArray, List.set_cons_zero, List.set_cons_succ]
  clear z0 z1 z2 z3 Z0 Z1 Z2 Z3
  have KD : Hid _ := kd
  clear kd
  refine gz_inv (Inv := fun d a W => ∃ u5 u8 u9 u12 u13 u16 u17, a = ⟨List.toArray (.agg #[.string ⟨s.type.toArray⟩, .slice vo s.vals.length vc, .slice eo s.done.length ec, .slice go s.got.length gc] :: .pointer (some ⟨B, 0, none⟩) :: .pointer (some ⟨B + 1, 0, none⟩) :: .pointer (some ⟨B, 0, none⟩) :: .string ⟨s.type.toArray⟩ :: u5 :: .pointer (some ⟨B, 1, none⟩) :: .slice vo s.vals.length vc :: u8 :: u9 :: .pointer (some ⟨B, 2, none⟩) :: .slice eo s.done.length ec :: u12 :: u13 :: .pointer (some ⟨B, 3, none⟩) :: .slice go s.got.length gc :: u16 :: u17 :: []), []⟩ ∧ ((d 15 = false ∧ Cq w1 W s d u5 u8 u9 u12 u13 u16 u17) ∨ ((∀ j, j < 16 → d j = true) ∧ Cr w1 W s B u8 u12 u16))) (by kernel_rfl) ?_ ?_ _ _ _ _ (by kernel_rfl) (of_decide_eq_true (by kernel_rfl)) ⟨undef, undef, undef, undef, undef, undef, undef, rfl, .inl ⟨rfl, ⟨rfl, rfl, rfl, rfl, rfl, rfl, rfl, rfl⟩, Ch.zero _ _ _ _ _ _, Ch.zero _ _ _ _ _ _, Ch.zero _ _ _ _ _ _, fun _ h => (by cases h), KD.out, fun h => (by cases h), ⟨fun h => (by cases h), fun h => (by cases h), fun h => (by cases h)⟩, fun h => (by cases h)⟩⟩
  · refine And.intro ?_ <| And.intro ?_ <| And.intro ?_ <| And.intro ?_ <| And.intro ?_ <| And.intro ?_ <| And.intro ?_ <| And.intro ?_ <| And.intro ?_ <| And.intro ?_ <| And.intro ?_ <| And.intro ?_ <| And.intro ?_ <| And.intro ?_ <| And.intro ?_ <| And.intro ?_ trivial
    · rintro d a W ⟨u5, u8, u9, u12, u13, u16, u17, rfl, ⟨_, h⟩ | ⟨h, _⟩⟩ hd _ K hK
      · exact absurd (h.tk.1.symm.trans hd) (by decide)
      · exact absurd ((h 0 (by omega)).symm.trans hd) (by decide)
    · rintro d a W ⟨u5, u8, u9, u12, u13, u16, u17, rfl, ⟨_, h⟩ | ⟨h, _⟩⟩ hd _ K hK
      · exact absurd (h.tk.2.1.symm.trans hd) (by decide)
      · exact absurd ((h 1 (by omega)).symm.trans hd) (by decide)
    · rintro d a W ⟨u5, u8, u9, u12, u13, u16, u17, rfl, ⟨h15, h⟩ | ⟨h, _⟩⟩ hd hdep K hK
      · have kw := h.k.size
        have ka : Kept (fun _ => True) W (W.alloc (.cells #[] 3)) := (Kept.refl _ _).alloc _
        have hno : d 5 = false := by
          cases h' : d 5 with
          | false => rfl
          | true => exact absurd ((h.wt.1 h').symm.trans hd) (by decide)
        go_simp
        refine hK.out _ _ (fun _ => h.k.trans ka) ⟨_, u8, u9, u12, u13, u16, u17, rfl, .inl ⟨by simpa using h15, ?_⟩⟩
        exact h.made5 hno
      · exact absurd ((h 2 (by omega)).symm.trans hd) (by decide)
    · rintro d a W ⟨u5, u8, u9, u12, u13, u16, u17, rfl, ⟨_, h⟩ | ⟨h, _⟩⟩ hd _ K hK
      · exact absurd (h.tk.2.2.1.symm.trans hd) (by decide)
      · exact absurd ((h 3 (by omega)).symm.trans hd) (by decide)
    · rintro d a W ⟨u5, u8, u9, u12, u13, u16, u17, rfl, ⟨_, h⟩ | ⟨h, _⟩⟩ hd _ K hK
      · exact absurd (h.tk.2.2.2.1.symm.trans hd) (by decide)
      · exact absurd ((h 4 (by omega)).symm.trans hd) (by decide)
    · rintro d a W ⟨u5, u8, u9, u12, u13, u16, u17, rfl, ⟨h15, h⟩ | ⟨h, _⟩⟩ hd hdep K hK
      · have hb : d 2 = true := hdep ⟨2, .data⟩ (by simp) rfl
        obtain ⟨⟨g, rfl⟩, hrow⟩ := h.c1.1 hb hd
        refine step_append_nums rfl (.tmp 5) (.tmp 7) rfl w1.heap.size (.slice (some ⟨g, 0, none⟩) 0 0) 0 [] rfl hrow h.k.size (.slice vo s.vals.length vc) rfl (iv s.vals) (HV.out.all h.k) (iv_one _) (by rw [iv_len]; have := HF.out.vals; omega) s.vals.length (by rw [iv_len]; omega) ?_
        intro ao cap W' hW hG hO
        rw [List.nil_append] at hW
        obtain ⟨q1, q2⟩ := h.app8 hb hd hW hG
        exact hK.out _ _ (fun _ => q1) ⟨_, _, u9, u12, u13, u16, u17, rfl, .inl ⟨by simpa using h15, q2⟩⟩
      · exact absurd ((h 5 (by omega)).symm.trans hd) (by decide)
    · rintro d a W ⟨u5, u8, u9, u12, u13, u16, u17, rfl, ⟨h15, h⟩ | ⟨h, _⟩⟩ hd hdep K hK
      · have kw := h.k.size
        have ka : Kept (fun _ => True) W (W.alloc (.cells #[] 4)) := (Kept.refl _ _).alloc _
        have hno : d 9 = false := by
          cases h' : d 9 with
          | false => rfl
          | true => exact absurd ((h.wt.2.1 h').symm.trans hd) (by decide)
        go_simp
        refine hK.out _ _ (fun _ => h.k.trans ka) ⟨u5, u8, _, u12, u13, u16, u17, rfl, .inl ⟨by simpa using h15, ?_⟩⟩
        exact h.made9 hno
      · exact absurd ((h 6 (by omega)).symm.trans hd) (by decide)
    · rintro d a W ⟨u5, u8, u9, u12, u13, u16, u17, rfl, ⟨_, h⟩ | ⟨h, _⟩⟩ hd _ K hK
      · exact absurd (h.tk.2.2.2.2.1.symm.trans hd) (by decide)
      · exact absurd ((h 7 (by omega)).symm.trans hd) (by decide)
    · rintro d a W ⟨u5, u8, u9, u12, u13, u16, u17, rfl, ⟨_, h⟩ | ⟨h, _⟩⟩ hd _ K hK
      · exact absurd (h.tk.2.2.2.2.2.1.symm.trans hd) (by decide)
      · exact absurd ((h 8 (by omega)).symm.trans hd) (by decide)
    · rintro d a W ⟨u5, u8, u9, u12, u13, u16, u17, rfl, ⟨h15, h⟩ | ⟨h, _⟩⟩ hd hdep K hK
      · have hb : d 6 = true := hdep ⟨6, .data⟩ (by simp) rfl
        obtain ⟨⟨g, rfl⟩, hrow⟩ := h.c2.1 hb hd
        refine step_append_truths rfl (.tmp 9) (.tmp 11) rfl w1.heap.size (.slice (some ⟨g, 0, none⟩) 0 0) 0 [] rfl hrow h.k.size (.slice eo s.done.length ec) rfl (bv s.done) (HE.out.all h.k) (bv_one _) (by rw [bv_len]; have := HF.out.done; omega) s.done.length (by rw [bv_len]; omega) ?_
        intro ao cap W' hW hG hO
        rw [List.nil_append] at hW
        obtain ⟨q1, q2⟩ := h.app12 hb hd hW hG hO
        exact hK.out _ _ (fun _ => q1) ⟨u5, u8, _, _, u13, u16, u17, rfl, .inl ⟨by simpa using h15, q2⟩⟩
      · exact absurd ((h 9 (by omega)).symm.trans hd) (by decide)
    · rintro d a W ⟨u5, u8, u9, u12, u13, u16, u17, rfl, ⟨h15, h⟩ | ⟨h, _⟩⟩ hd hdep K hK
      · have kw := h.k.size
        have ka : Kept (fun _ => True) W (W.alloc (.cells #[] 4)) := (Kept.refl _ _).alloc _
        have hno : d 13 = false := by
          cases h' : d 13 with
          | false => rfl
          | true => exact absurd ((h.wt.2.2 h').symm.trans hd) (by decide)
        go_simp
        refine hK.out _ _ (fun _ => h.k.trans ka) ⟨u5, u8, u9, u12, _, u16, u17, rfl, .inl ⟨by simpa using h15, ?_⟩⟩
        exact h.made13 hno
      · exact absurd ((h 10 (by omega)).symm.trans hd) (by decide)
    · rintro d a W ⟨u5, u8, u9, u12, u13, u16, u17, rfl, ⟨_, h⟩ | ⟨h, _⟩⟩ hd _ K hK
      · exact absurd (h.tk.2.2.2.2.2.2.1.symm.trans hd) (by decide)
      · exact absurd ((h 11 (by omega)).symm.trans hd) (by decide)
    · rintro d a W ⟨u5, u8, u9, u12, u13, u16, u17, rfl, ⟨_, h⟩ | ⟨h, _⟩⟩ hd _ K hK
      · exact absurd (h.tk.2.2.2.2.2.2.2.symm.trans hd) (by decide)
      · exact absurd ((h 12 (by omega)).symm.trans hd) (by decide)
    · rintro d a W ⟨u5, u8, u9, u12, u13, u16, u17, rfl, ⟨h15, h⟩ | ⟨h, _⟩⟩ hd hdep K hK
      · have hb : d 10 = true := hdep ⟨10, .data⟩ (by simp) rfl
        obtain ⟨⟨g, rfl⟩, hrow⟩ := h.c3.1 hb hd
        refine step_append_truths rfl (.tmp 13) (.tmp 15) rfl w1.heap.size (.slice (some ⟨g, 0, none⟩) 0 0) 0 [] rfl hrow h.k.size (.slice go s.got.length gc) rfl (bv s.got) (HG.out.all h.k) (bv_one _) (by rw [bv_len]; have := HF.out.got; omega) s.got.length (by rw [bv_len]; omega) ?_
        intro ao cap W' hW hG hO
        rw [List.nil_append] at hW
        obtain ⟨q1, q2⟩ := h.app16 hb hd hW hG hO
        exact hK.out _ _ (fun _ => q1) ⟨u5, u8, u9, u12, _, _, u17, rfl, .inl ⟨by simpa using h15, q2⟩⟩
      · exact absurd ((h 13 (by omega)).symm.trans hd) (by decide)
    · rintro d a W ⟨u5, u8, u9, u12, u13, u16, u17, rfl, ⟨h15, h⟩ | ⟨h, _⟩⟩ hd hdep K hK
      · obtain ⟨h5, h9, h13⟩ : d 5 = true ∧ d 9 = true ∧ d 13 = true := ⟨hdep ⟨5, .data⟩ (by simp) rfl, hdep ⟨9, .data⟩ (by simp) rfl, hdep ⟨13, .data⟩ (by simp) rfl⟩
        obtain ⟨p1, p2, rfl⟩ := own_shape_any (h.c1.2 h5)
        obtain ⟨p3, p4, rfl⟩ := own_shape_any (h.c2.2 h9)
        obtain ⟨p5, p6, rfl⟩ := own_shape_any (h.c3.2 h13)
        have HC : Hid _ := h.built ⟨h5, h9, h13⟩
        have HK : Hid _ := h.k
        clear h h5 h9 h13 hdep hd
        go_simp
        refine hK.out _ _ (fun _ => HK.out) ⟨u5, _, u9, _, u13, _, _, rfl, .inl ⟨by simpa using h15, ?_⟩⟩
        exact HC.out
      · exact absurd ((h 14 (by omega)).symm.trans hd) (by decide)
    · rintro d a W ⟨u5, u8, u9, u12, u13, u16, u17, rfl, ⟨h15, h⟩ | ⟨h, _⟩⟩ hd hdep K hK
      · have hall : ∀ j, j < 15 → d j = true := by
          intro j hj
          rcases j with _ | _ | _ | _ | _ | _ | _ | _ | _ | _ | _ | _ | _ | _ | _ | j
          · exact hdep ⟨0, .phase⟩ (by simp) rfl
          · exact hdep ⟨1, .phase⟩ (by simp) rfl
          · exact hdep ⟨2, .phase⟩ (by simp) rfl
          · exact hdep ⟨3, .phase⟩ (by simp) rfl
          · exact hdep ⟨4, .phase⟩ (by simp) rfl
          · exact hdep ⟨5, .phase⟩ (by simp) rfl
          · exact hdep ⟨6, .phase⟩ (by simp) rfl
          · exact hdep ⟨7, .phase⟩ (by simp) rfl
          · exact hdep ⟨8, .phase⟩ (by simp) rfl
          · exact hdep ⟨9, .phase⟩ (by simp) rfl
          · exact hdep ⟨10, .phase⟩ (by simp) rfl
          · exact hdep ⟨11, .phase⟩ (by simp) rfl
          · exact hdep ⟨12, .phase⟩ (by simp) rfl
          · exact hdep ⟨13, .phase⟩ (by simp) rfl
          · exact hdep ⟨14, .phase⟩ (by simp) rfl
          · omega
        have h5 := hall 5 (by omega)
        have h9 := hall 9 (by omega)
        have h13 := hall 13 (by omega)
        obtain rfl := h.e (hall 14 (by omega))
        have g1 := h.c1.2 h5
        have g2 := h.c2.2 h9
        have g3 := h.c3.2 h13
        rw [iv_len] at g1
        rw [bv_len] at g2 g3
        obtain ⟨p1, p2, rfl⟩ := own_shape_any g1
        obtain ⟨p3, p4, rfl⟩ := own_shape_any g2
        obtain ⟨p5, p6, rfl⟩ := own_shape_any g3
        have hx := h.x
        simp only [blk, h9, h13, if_true] at hx
        have hk := h.k
        have hb := (h.k.block (B + 1) (lt_of_block X2.out) trivial).trans X2.out
        have hfin : ∀ W', W' = put4 W (B + 1) (.string ⟨s.type.toArray⟩) (.slice p1 s.vals.length p2) (.slice p3 s.done.length p4) (.slice p5 s.got.length p6) → Cr w1 W' s B (.slice p1 s.vals.length p2) (.slice p3 s.done.length p4) (.slice p5 s.got.length p6) := by
          rintro W' rfl
          have kp := put4_kept (p := (· ≠ B + 1)) (w := W) (D := B + 1) (by simp) (.string ⟨s.type.toArray⟩) (.slice p1 s.vals.length p2) (.slice p3 s.done.length p4) (.slice p5 s.got.length p6)
          have hlt := lt_of_block X2.out
          refine ⟨put4_at hb _ _ _ _, ⟨own_keep g1 kp fun i e q => ?_, own_keep g2 kp fun i e q => ?_, own_keep g3 kp fun i e q => ?_, hx⟩, (hk.mono fun _ _ _ => trivial).trans kp⟩
          · have := (g1.lt i e).1; omega
          · have := (g2.lt i e).1; omega
          · have := (g3.lt i e).1; omega
        have HFin : Hid _ := hfin
        obtain ⟨⟨r0, r1, r2, r3⟩, f0, f1, f2, f3⟩ := four_cell hb
        clear h g1 g2 g3 hx hk hb hfin hdep
        go_simp
        refine hK.out _ _ (fun hEarly => by cases hEarly) ⟨u5, _, u9, _, u13, _, _, rfl, .inr ⟨fun j hj => ?_, HFin.out _ rfl⟩⟩
        rcases Nat.lt_or_ge j 15 with q | q
        · simp [hall j q]
        · have : j = 15 := by omega
          simp [this]
      · exact absurd ((h 15 (by omega)).symm.trans hd) (by decide)
  · rintro d a W ⟨u5, u8, u9, u12, u13, u16, u17, rfl, ⟨h15, h⟩ | ⟨_, h⟩⟩ hall
    · exact absurd ((hall 15 (by decide)).symm.trans h15) (by decide)
    · obtain ⟨hb, hso, hkw⟩ := h
      have HBx : Hid _ := hb
      have HSo : Hid _ := hso
      have HK2 : Hid _ := hkw
      clear hb hso hkw hall
      go_wp2_with fail
      refine bodyPost_ret (results_state rfl _ _ rfl HBx.out rfl) rfl ⟨_, _, _, rfl, HSo.out.lower (K0.out.size), ?_⟩
      exact Kept.fresh K0.out HK2.out (by have := HB.out; omega)

end Go.Proofs.YtnddpalngjmhnaaDoor
