/-
  readParts, by goto.
-/
import Derived.Test.YtahbfffhkpojmaaDoorT2
namespace Go.Proofs.YtahbfffhkpojmaaDoor
open Go.RowKit

/-- A type that is looked at. -/
def TyV (w : World) (v : Value) (t : Ty) : Prop := ∃ va vs vm, v = .agg #[.string ⟨t.name.toArray⟩, va, vs, vm] ∧ Av w va t.attrs ∧ Rv w vs t.stages ∧ Rv w vm t.marks
theorem TyV.all {w w' : World} {v : Value} {t : Ty} (h : TyV w v t) (k : Kept (fun _ => True) w w') : TyV w' v t := by
  obtain ⟨va, vs, vm, e, h1, h2, h3⟩ := h
  exact ⟨va, vs, vm, e, h1.all k, h2.all k, h3.all k⟩
theorem TyV.none (w : World) : TyV w (.agg #[.string ⟨#[]⟩, .slice none 0 0, .slice none 0 0, .slice none 0 0]) Ty.none := ⟨_, _, _, rfl, Av.nil w, Rv.nil w, Rv.nil w⟩

/-- The frame of readParts. -/
def Fp (s : List UInt8) (z k : Nat) (p left : List UInt8) (more : Bool) (r : List UInt8) (a : Act) : Prop :=
  ∃ u : Nat → Value, a = { tmps := List.toArray (.string ⟨s.toArray⟩ :: u 1 :: .pointer (some ⟨z, 0, none⟩) :: u 3 :: u 4 :: .pointer (some ⟨z + 1, 0, none⟩) :: .pointer (some ⟨z + 2, 0, none⟩) :: .pointer (some ⟨z + 3, 0, none⟩) :: .int .i64 (k : Nat) :: .string ⟨p.toArray⟩ :: .string ⟨left.toArray⟩ :: .bool more :: u 12 :: .string ⟨r.toArray⟩ :: u 14 :: u 15 :: u 16 :: u 17 :: u 18 :: u 19 :: u 20 :: u 21 :: u 22 :: u 23 :: u 24 :: u 25 :: u 26 :: u 27 :: u 28 :: u 29 :: u 30 :: u 31 :: u 32 :: u 33 :: u 34 :: u 35 :: u 36 :: u 37 :: u 38 :: u 39 :: u 40 :: u 41 :: u 42 :: u 43 :: u 44 :: u 45 :: u 46 :: u 47 :: u 48 :: u 49 :: u 50 :: u 51 :: u 52 :: u 53 :: u 54 :: u 55 :: u 56 :: u 57 :: u 58 :: u 59 :: u 60 :: u 61 :: u 62 :: u 63 :: u 64 :: u 65 :: u 66 :: u 67 :: u 68 :: u 69 :: u 70 :: u 71 :: u 72 :: u 73 :: u 74 :: u 75 :: u 76 :: u 77 :: u 78 :: u 79 :: u 80 :: u 81 :: u 82 :: u 83 :: u 84 :: u 85 :: u 86 :: u 87 :: u 88 :: u 89 :: u 90 :: u 91 :: u 92 :: u 93 :: u 94 :: u 95 :: u 96 :: u 97 :: u 98 :: u 99 :: u 100 :: u 101 :: u 102 :: u 103 :: u 104 :: u 105 :: u 106 :: u 107 :: u 108 :: u 109 :: u 110 :: u 111 :: u 112 :: []), defers := [] }
set_option maxRecDepth 100000 in
theorem arr113 (u : Nat → Value) : ((List.range 113).map u).toArray = List.toArray (u 0 :: u 1 :: u 2 :: u 3 :: u 4 :: u 5 :: u 6 :: u 7 :: u 8 :: u 9 :: u 10 :: u 11 :: u 12 :: u 13 :: u 14 :: u 15 :: u 16 :: u 17 :: u 18 :: u 19 :: u 20 :: u 21 :: u 22 :: u 23 :: u 24 :: u 25 :: u 26 :: u 27 :: u 28 :: u 29 :: u 30 :: u 31 :: u 32 :: u 33 :: u 34 :: u 35 :: u 36 :: u 37 :: u 38 :: u 39 :: u 40 :: u 41 :: u 42 :: u 43 :: u 44 :: u 45 :: u 46 :: u 47 :: u 48 :: u 49 :: u 50 :: u 51 :: u 52 :: u 53 :: u 54 :: u 55 :: u 56 :: u 57 :: u 58 :: u 59 :: u 60 :: u 61 :: u 62 :: u 63 :: u 64 :: u 65 :: u 66 :: u 67 :: u 68 :: u 69 :: u 70 :: u 71 :: u 72 :: u 73 :: u 74 :: u 75 :: u 76 :: u 77 :: u 78 :: u 79 :: u 80 :: u 81 :: u 82 :: u 83 :: u 84 :: u 85 :: u 86 :: u 87 :: u 88 :: u 89 :: u 90 :: u 91 :: u 92 :: u 93 :: u 94 :: u 95 :: u 96 :: u 97 :: u 98 :: u 99 :: u 100 :: u 101 :: u 102 :: u 103 :: u 104 :: u 105 :: u 106 :: u 107 :: u 108 :: u 109 :: u 110 :: u 111 :: u 112 :: []) := by
  kernel_rfl
theorem Fp.mk' {s : List UInt8} {z k : Nat} {p left : List UInt8} {more : Bool} {r : List UInt8} {t : Array Value} (hn : t.size = 113) (h0 : t.getD 0 undef = .string ⟨s.toArray⟩) (h2 : t.getD 2 undef = .pointer (some ⟨z, 0, none⟩)) (h5 : t.getD 5 undef = .pointer (some ⟨z + 1, 0, none⟩)) (h6 : t.getD 6 undef = .pointer (some ⟨z + 2, 0, none⟩)) (h7 : t.getD 7 undef = .pointer (some ⟨z + 3, 0, none⟩)) (h8 : t.getD 8 undef = .int .i64 (k : Nat)) (h9 : t.getD 9 undef = .string ⟨p.toArray⟩) (h10 : t.getD 10 undef = .string ⟨left.toArray⟩) (h11 : t.getD 11 undef = .bool more) (h13 : t.getD 13 undef = .string ⟨r.toArray⟩) : Fp s z k p left more r { tmps := t, defers := [] } := by
  refine ⟨fun j => t.getD j undef, ?_⟩
  congr 1
  rw [← h0, ← h2, ← h5, ← h6, ← h7, ← h8, ← h9, ← h10, ← h11, ← h13]
  refine Eq.trans ?_ (arr113 fun j => t.getD j undef)
  refine Array.ext (by simp [hn]) fun j hj hj' => ?_
  simp [Array.getD, hj]

/-- What lies in memory. -/
structure Mt (w0 w : World) (t : Ty) (va vs vm : Value) : Prop where
  kept : Kept (fun _ => True) w0 w
  res : w.heap[w0.heap.size]? = some (.cells #[.string ⟨#[]⟩, .slice none 0 0, .slice none 0 0, .slice none 0 0] 26 (0, 0))
  self : w.heap[w0.heap.size + 1]? = some (.cells #[.string ⟨t.name.toArray⟩, va, vs, vm] 26 (0, 0))
  att : ∃ x0 x1 x2 x3, w.heap[w0.heap.size + 2]? = some (.cells #[x0, x1, x2, x3] 50 (0, 0))
  rul : ∃ x0 x1, w.heap[w0.heap.size + 3]? = some (.cells #[x0, x1] 44 (0, 0))
  attrs : Ao w (w0.heap.size + 4) va (t.attrs.take 7)
  stages : Ro w (w0.heap.size + 4) vs (t.stages.take 7)
  marks : Ro w (w0.heap.size + 4) vm (t.marks.take 7)
  apart : ∀ k, vs.ownBlock = some k → vm.ownBlock ≠ some k
section
variable {w0 w w' : World} {t : Ty} {va vs vm : Value}
theorem Mt.room (h : Mt w0 w t va vs vm) : w0.heap.size + 4 ≤ w.heap.size := by
  obtain ⟨_, _, h1⟩ := h.rul
  have := lt_of_block h1
  omega
theorem Mt.all (h : Mt w0 w t va vs vm) (k : Kept (fun _ => True) w w') : Mt w0 w' t va vs vm := by
  obtain ⟨x0, x1, x2, x3, ha⟩ := h.att
  obtain ⟨y0, y1, hr⟩ := h.rul
  exact ⟨h.kept.trans k, (k.block _ (lt_of_block h.res) trivial).trans h.res, (k.block _ (lt_of_block h.self) trivial).trans h.self, ⟨x0, x1, x2, x3, (k.block _ (lt_of_block ha) trivial).trans ha⟩, ⟨y0, y1, (k.block _ (lt_of_block hr) trivial).trans hr⟩,
    own_keep h.attrs k (fun _ _ => trivial), own_keep h.stages k (fun _ _ => trivial), own_keep h.marks k (fun _ _ => trivial), h.apart⟩
/-- A store into the variable of an attribute, or of a rule. -/
theorem Mt.setA (h : Mt w0 w t va vs vm) (j : Nat) (u : Value) : Mt w0 (w.setCell ⟨w0.heap.size + 2, j, none⟩ u) t va vs vm := by
  have k : Kept (· ≠ w0.heap.size + 2) w (w.setCell ⟨w0.heap.size + 2, j, none⟩ u) := (Kept.refl _ _).setCell (by simp) u
  obtain ⟨x0, x1, x2, x3, ha⟩ := h.att
  obtain ⟨y0, y1, hr⟩ := h.rul
  refine ⟨h.kept.setNew (by simp) u, (k.block _ (lt_of_block h.res) (by omega)).trans h.res, (k.block _ (lt_of_block h.self) (by omega)).trans h.self, ?_, ⟨y0, y1, (k.block _ (lt_of_block hr) (by omega)).trans hr⟩,
    own_keep h.attrs k (fun i e => ?_), own_keep h.stages k (fun i e => ?_), own_keep h.marks k (fun i e => ?_), h.apart⟩
  · have := set_cell ha j u
    rcases j with _ | _ | _ | _ | j
    · exact ⟨u, x1, x2, x3, this⟩
    · exact ⟨x0, u, x2, x3, this⟩
    · exact ⟨x0, x1, u, x3, this⟩
    · exact ⟨x0, x1, x2, u, this⟩
    · refine ⟨x0, x1, x2, x3, this.trans ?_⟩
      congr 2
  · have := (World.ownsRow.lt h.attrs i e).1; omega
  · have := (World.ownsRow.lt h.stages i e).1; omega
  · have := (World.ownsRow.lt h.marks i e).1; omega
theorem Mt.setR (h : Mt w0 w t va vs vm) (j : Nat) (u : Value) : Mt w0 (w.setCell ⟨w0.heap.size + 3, j, none⟩ u) t va vs vm := by
  have k : Kept (· ≠ w0.heap.size + 3) w (w.setCell ⟨w0.heap.size + 3, j, none⟩ u) := (Kept.refl _ _).setCell (by simp) u
  obtain ⟨x0, x1, x2, x3, ha⟩ := h.att
  obtain ⟨y0, y1, hr⟩ := h.rul
  refine ⟨h.kept.setNew (by simp) u, (k.block _ (lt_of_block h.res) (by omega)).trans h.res, (k.block _ (lt_of_block h.self) (by omega)).trans h.self, ⟨x0, x1, x2, x3, (k.block _ (lt_of_block ha) (by omega)).trans ha⟩, ?_,
    own_keep h.attrs k (fun i e => ?_), own_keep h.stages k (fun i e => ?_), own_keep h.marks k (fun i e => ?_), h.apart⟩
  · have := set_cell hr j u
    rcases j with _ | _ | j
    · exact ⟨u, y1, this⟩
    · exact ⟨y0, u, this⟩
    · refine ⟨y0, y1, this.trans ?_⟩
      congr 2
  · have := (World.ownsRow.lt h.attrs i e).1; omega
  · have := (World.ownsRow.lt h.stages i e).1; omega
  · have := (World.ownsRow.lt h.marks i e).1; omega
theorem Mt.rows (h : Mt w0 w t va vs vm) {v : Value} (hv : v = va ∨ v = vs ∨ v = vm) : ∀ i, v.ownBlock = some i → w0.heap.size + 4 ≤ i ∧ i < w.heap.size := by
  intro i e
  rcases hv with rfl | rfl | rfl
  · exact World.ownsRow.lt h.attrs i e
  · exact World.ownsRow.lt h.stages i e
  · exact World.ownsRow.lt h.marks i e
/-- Rows of two types are two rows. -/
theorem Mt.types (h : Mt w0 w t va vs vm) : (∀ i, va.ownBlock = some i → vs.ownBlock ≠ some i) ∧ (∀ i, va.ownBlock = some i → vm.ownBlock ≠ some i) := by
  have key : ∀ {v : Value} {xs : List Ru}, Ro w (w0.heap.size + 4) v xs → ∀ i, va.ownBlock = some i → v.ownBlock ≠ some i := by
    intro v xs hR i e q
    rcases h.attrs.2 with ⟨hv, _⟩ | ⟨g, cap, cur, hv, _, hh, _⟩
    · rw [hv] at e; simp [Value.ownBlock] at e
    · rw [hv] at e; simp [Value.ownBlock] at e
      subst e
      rcases hR.2 with ⟨hv', _⟩ | ⟨g', cap', cur', hv', _, hh', _⟩
      · rw [hv'] at q; simp [Value.ownBlock] at q
      · rw [hv'] at q; simp [Value.ownBlock] at q
        subst q
        rw [hh] at hh'
        simp at hh'
  exact ⟨key h.stages, key h.marks⟩
theorem Mt.putA (h : Mt w0 w t va vs vm) {v' : Value} {x : At} (hA : Ao w' (w0.heap.size + 4) v' (keep7 (t.attrs.take 7) x)) (hP : Put w w' (w0.heap.size + 4) va v') : Mt w0 (w'.setCell ⟨w0.heap.size + 1, 1, none⟩ v') { t with attrs := t.attrs ++ [x] } v' vs vm := by
  have hlow : ∀ i, i < w0.heap.size + 4 → va.ownBlock ≠ some i := fun i hi e => by have := (h.rows (.inl rfl) i e).1; omega
  obtain ⟨x0, x1, x2, x3, ha⟩ := h.att
  obtain ⟨y0, y1, hr⟩ := h.rul
  have hself : w'.heap[w0.heap.size + 1]? = _ := (hP.kept.block _ (lt_of_block h.self) (hlow _ (by omega))).trans h.self
  have hk' : Kept (fun _ => True) w0 w' := h.kept.then hP.kept (fun i hi _ => hlow i (by omega))
  have k2 : Kept (· ≠ w0.heap.size + 1) w' (w'.setCell ⟨w0.heap.size + 1, 1, none⟩ v') := (Kept.refl _ _).setCell (by simp) v'
  have big : ∀ {v : Value} {e sz n : Nat} {xs : List Value}, w'.ownsRow (w0.heap.size + 4) e sz v n xs → (w'.setCell ⟨w0.heap.size + 1, 1, none⟩ v').ownsRow (w0.heap.size + 4) e sz v n xs := fun hO => own_keep hO k2 (fun i e => by have := (World.ownsRow.lt hO i e).1; omega)
  have old : ∀ {i : Nat} {o : Obj}, i < w0.heap.size + 4 → i ≠ w0.heap.size + 1 → w.heap[i]? = some o → (w'.setCell ⟨w0.heap.size + 1, 1, none⟩ v').heap[i]? = some o := by
    intro i o h1 h2 h3
    have hlt := lt_of_block h3
    exact (k2.block i (Nat.lt_of_lt_of_le hlt hP.kept.size) h2).trans ((hP.kept.block i hlt (hlow i h1)).trans h3)
  refine ⟨hk'.setNew (by simp) v', old (by omega) (by omega) h.res, set_cell hself 1 v', ⟨x0, x1, x2, x3, old (by omega) (by omega) ha⟩, ⟨y0, y1, old (by omega) (by omega) hr⟩, ?_, big (own_keep h.stages hP.kept (fun i e e' => h.types.1 i e' e)), big (own_keep h.marks hP.kept (fun i e e' => h.types.2 i e' e)), h.apart⟩
  have := big hA
  rw [keep7_take] at this
  exact this
theorem Mt.putS (h : Mt w0 w t va vs vm) {v' : Value} {x : Ru} (hA : Ro w' (w0.heap.size + 4) v' (keep7 (t.stages.take 7) x)) (hP : Put w w' (w0.heap.size + 4) vs v') : Mt w0 (w'.setCell ⟨w0.heap.size + 1, 2, none⟩ v') { t with stages := t.stages ++ [x] } va v' vm := by
  have hlow : ∀ i, i < w0.heap.size + 4 → vs.ownBlock ≠ some i := fun i hi e => by have := (h.rows (.inr (.inl rfl)) i e).1; omega
  obtain ⟨x0, x1, x2, x3, ha⟩ := h.att
  obtain ⟨y0, y1, hr⟩ := h.rul
  have hself : w'.heap[w0.heap.size + 1]? = _ := (hP.kept.block _ (lt_of_block h.self) (hlow _ (by omega))).trans h.self
  have hk' : Kept (fun _ => True) w0 w' := h.kept.then hP.kept (fun i hi _ => hlow i (by omega))
  have k2 : Kept (· ≠ w0.heap.size + 1) w' (w'.setCell ⟨w0.heap.size + 1, 2, none⟩ v') := (Kept.refl _ _).setCell (by simp) v'
  have big : ∀ {v : Value} {e sz n : Nat} {xs : List Value}, w'.ownsRow (w0.heap.size + 4) e sz v n xs → (w'.setCell ⟨w0.heap.size + 1, 2, none⟩ v').ownsRow (w0.heap.size + 4) e sz v n xs := fun hO => own_keep hO k2 (fun i e => by have := (World.ownsRow.lt hO i e).1; omega)
  have old : ∀ {i : Nat} {o : Obj}, i < w0.heap.size + 4 → i ≠ w0.heap.size + 1 → w.heap[i]? = some o → (w'.setCell ⟨w0.heap.size + 1, 2, none⟩ v').heap[i]? = some o := by
    intro i o h1 h2 h3
    have hlt := lt_of_block h3
    exact (k2.block i (Nat.lt_of_lt_of_le hlt hP.kept.size) h2).trans ((hP.kept.block i hlt (hlow i h1)).trans h3)
  refine ⟨hk'.setNew (by simp) v', old (by omega) (by omega) h.res, set_cell hself 2 v', ⟨x0, x1, x2, x3, old (by omega) (by omega) ha⟩, ⟨y0, y1, old (by omega) (by omega) hr⟩, big (own_keep h.attrs hP.kept (fun i e e' => h.types.1 i e e')), ?_, big (own_keep h.marks hP.kept (fun i e e' => h.apart i e' e)), fun i e e' => ?_⟩
  · have := big hA
    rw [keep7_take] at this
    exact this
  · rcases hP.row i e with q | q
    · exact h.apart i q e'
    · have := (h.rows (.inr (.inr rfl)) i e').2
      omega
theorem Mt.putM (h : Mt w0 w t va vs vm) {v' : Value} {x : Ru} (hA : Ro w' (w0.heap.size + 4) v' (keep7 (t.marks.take 7) x)) (hP : Put w w' (w0.heap.size + 4) vm v') : Mt w0 (w'.setCell ⟨w0.heap.size + 1, 3, none⟩ v') { t with marks := t.marks ++ [x] } va vs v' := by
  have hlow : ∀ i, i < w0.heap.size + 4 → vm.ownBlock ≠ some i := fun i hi e => by have := (h.rows (.inr (.inr rfl)) i e).1; omega
  obtain ⟨x0, x1, x2, x3, ha⟩ := h.att
  obtain ⟨y0, y1, hr⟩ := h.rul
  have hself : w'.heap[w0.heap.size + 1]? = _ := (hP.kept.block _ (lt_of_block h.self) (hlow _ (by omega))).trans h.self
  have hk' : Kept (fun _ => True) w0 w' := h.kept.then hP.kept (fun i hi _ => hlow i (by omega))
  have k2 : Kept (· ≠ w0.heap.size + 1) w' (w'.setCell ⟨w0.heap.size + 1, 3, none⟩ v') := (Kept.refl _ _).setCell (by simp) v'
  have big : ∀ {v : Value} {e sz n : Nat} {xs : List Value}, w'.ownsRow (w0.heap.size + 4) e sz v n xs → (w'.setCell ⟨w0.heap.size + 1, 3, none⟩ v').ownsRow (w0.heap.size + 4) e sz v n xs := fun hO => own_keep hO k2 (fun i e => by have := (World.ownsRow.lt hO i e).1; omega)
  have old : ∀ {i : Nat} {o : Obj}, i < w0.heap.size + 4 → i ≠ w0.heap.size + 1 → w.heap[i]? = some o → (w'.setCell ⟨w0.heap.size + 1, 3, none⟩ v').heap[i]? = some o := by
    intro i o h1 h2 h3
    have hlt := lt_of_block h3
    exact (k2.block i (Nat.lt_of_lt_of_le hlt hP.kept.size) h2).trans ((hP.kept.block i hlt (hlow i h1)).trans h3)
  refine ⟨hk'.setNew (by simp) v', old (by omega) (by omega) h.res, set_cell hself 3 v', ⟨x0, x1, x2, x3, old (by omega) (by omega) ha⟩, ⟨y0, y1, old (by omega) (by omega) hr⟩, big (own_keep h.attrs hP.kept (fun i e e' => h.types.2 i e e')), big (own_keep h.stages hP.kept (fun i e e' => h.apart i e e')), ?_, fun i e e' => ?_⟩
  · have := big hA
    rw [keep7_take] at this
    exact this
  · rcases hP.row i e' with q | q
    · exact h.apart i e q
    · have := (h.rows (.inr (.inl rfl)) i e).2
      omega
end

/-- A slice's parts as letters. -/
theorem own_parts {w : World} {b e sz n : Nat} {v : Value} {xs : List Value} (h : w.ownsRow b e sz v n xs) : ∃ ao m cap, v = .slice ao m cap := by
  obtain ⟨ao, cap, e, _⟩ := own_form h
  exact ⟨ao, n, cap, e⟩
/-- What is left of the text. -/
def rem (more : Bool) (left : List UInt8) : List (List UInt8) := if more = true then (spl left).1 :: (spl left).2 else []
def nxt (o : Option Ty) (k n : Nat) (ps : List (List UInt8)) : Nat ⊕ Ty := match o with
  | none => .inl k
  | some u => rdp u n ps
def mu (more : Bool) (left : List UInt8) : Nat := if more = true then left.length + 1 else 0
theorem rem_cut (left : List UInt8) : (spl left).1 = (cutAt 59 left).1 ∧ (spl left).2 = rem (cutAt 59 left).2.2 (cutAt 59 left).2.1 ∧ mu (cutAt 59 left).2.2 (cutAt 59 left).2.1 ≤ left.length := by
  obtain ⟨h1, h2⟩ := spl_cut left
  obtain ⟨l1, l2, l3⟩ := cut_len 59 left
  cases h : (cutAt 59 left).2.2 with
  | false => exact ⟨by rw [h1 h], by rw [h1 h]; rfl, by simp [mu]⟩
  | true =>
    refine ⟨by rw [h2 h], by rw [h2 h]; rfl, ?_⟩
    have := l3 h
    simp only [mu, if_true]
    omega
/-- Where a part lies in the text. -/
def Lie (s : List UInt8) (k : Nat) (p left : List UInt8) (more : Bool) : Prop := k + p.length ≤ s.length ∧ (more = true → k + p.length + 1 + left.length ≤ s.length)
/-- What is known at each label: 0 wrong, 1 next, 2 attr, 3 stage, 4 mark. -/
def Sj (w0 : World) (s : List UInt8) (m l : Nat) (a : Act) (w : World) : Prop :=
  ∃ (k : Nat) (p left : List UInt8) (more : Bool) (r : List UInt8) (t : Ty) (va vs vm : Value), Fp s w0.heap.size k p left more r a ∧ Mt w0 w t va vs vm ∧ Lie s k p left more ∧ r.length ≤ s.length ∧
    ((l = 0 ∧ m = 0 ∧ rd s = .inl k) ∨ (l = 1 ∧ m = 2 * mu more left + 2 ∧ rd s = rdp t (k + p.length + 1) (rem more left)) ∨
     (l = 2 ∧ m = 2 * mu more left + 3 ∧ rd s = nxt ((rdA r).map fun x => { t with attrs := t.attrs ++ [x] }) k (k + p.length + 1) (rem more left)) ∨
     (l = 3 ∧ m = 2 * mu more left + 3 ∧ rd s = nxt ((rdR r).map fun x => { t with stages := t.stages ++ [x] }) k (k + p.length + 1) (rem more left)) ∨
     (l = 4 ∧ m = 2 * mu more left + 3 ∧ rd s = nxt ((rdR r).map fun x => { t with marks := t.marks ++ [x] }) k (k + p.length + 1) (rem more left)))
/-- Its rows lie behind 'base'. -/
def TyF (base : Nat) (v : Value) : Prop := ∃ n va vs vm, v = .agg #[n, va, vs, vm] ∧ ∀ k, va.ownBlock = some k ∨ vs.ownBlock = some k ∨ vm.ownBlock = some k → base ≤ k
/-- What readParts answers. -/
def Ans (w : World) (s : List UInt8) (e : Ending) (w' : World) : Prop :=
  (∃ k v, rd s = .inl k ∧ k ≤ s.length ∧ e = .returned (.tuple #[v, .bool false, .int .i64 (k : Nat)]) ∧ TyV w' v Ty.none) ∨ (∃ t v, rd s = .inr t ∧ e = .returned (.tuple #[v, .bool true, .int .i64 0]) ∧ TyV w' v (cap7 t) ∧ TyF w.heap.size v)
abbrev Sp (w : World) (s : List UInt8) : Exit → Act → World → Prop :=
  bodyPost Tryd.prog Tryd.f20 fun e w' => Ans w s e w' ∧ Kept (fun _ => True) w w'
abbrev Sw (w : World) (s : List UInt8) (M l : Nat) (a : Act) (w1 : World) : Prop :=
  From Tryd.prog (scopeIn Tryd.f20.body) (Exit.jumps (fun l' a' w' => ∃ m', m' < M ∧ Sj w s m' l' a' w') (Sp w s)) l a w1
abbrev Si (w : World) (s : List UInt8) (M : Nat) : Prop := Hid (∀ m' l' a' w', m' < M → Sj w s m' l' a' w' → Sw w s M l' a' w')
theorem results_tri {fn : Func} {p u q : Nat} {ty : TypeId} (h : fn.results = #[.cell p ty, .tmp u, .tmp q]) (tmps : Array Value) (w : World) {g : Nat} {v : Value} (hp : tmps.getD p undef = .pointer (some ⟨g, 0, none⟩)) (hl : (loadVar ty ⟨g, 0, none⟩).run Tryd.prog w = .ok v w) :
    (results fn tmps).run Tryd.prog w = .ok (.tuple #[v, tmps.getD u undef, tmps.getD q undef]) w := by
  have hp' : tmps[p]?.getD undef = .pointer (some ⟨g, 0, none⟩) := by simpa using hp
  simp [results, h, hp', asAddr, hl]

set_option maxRecDepth 100000 in
set_option maxHeartbeats 2000000 in
theorem sp0 {w w1 : World} {s : List UInt8} (_ : s.length ≤ 281474976710656) {k : Nat} {p left : List UInt8} {more : Bool} {r : List UInt8} {t : Ty} {va vs vm : Value} {a : Act} (hF : Fp s w.heap.size k p left more r a) (hM : Mt w w1 t va vs vm) (hL : Lie s k p left more) (hR : rd s = .inl k) : Sw w s 0 0 a w1 := by
  obtain ⟨u, rfl⟩ := hF
  have HR : Hid (rd s = .inl k) := hR
  have HM : Hid (Mt w w1 t va vs vm) := hM
  have HL : Hid (k ≤ s.length) := by have := hL.1; show _ ≤ _; omega
  obtain ⟨⟨c0, c1, c2, c3⟩, f0, f1, f2, f3⟩ := four_cell hM.res
  clear hR hM hL
  refine ⟨_, rfl, ?_⟩
  go_wp2_with fail
  show bodyPost Tryd.prog Tryd.f20 (fun e w' => Ans w s e w' ∧ Kept (fun _ => True) w w') .ret _ _
  refine bodyPost_ret (results_tri rfl _ _ rfl (load_type (set_cell (set_cell (set_cell (set_cell HM.out.res 0 _) 1 _) 2 _) 3 _) rfl)) rfl ⟨.inl ⟨k, _, HR.out, HL.out, rfl, TyV.none _⟩, ?_⟩
  exact (((HM.out.kept.setNew (Nat.le_refl _) _).setNew (Nat.le_refl _) _).setNew (Nat.le_refl _) _).setNew (Nat.le_refl _) _

set_option maxRecDepth 100000 in
set_option maxHeartbeats 2000000 in
theorem sp1a {w w1 : World} {s : List UInt8} (_ : s.length ≤ 281474976710656) {k : Nat} {p left r : List UInt8} {t : Ty} {va vs vm : Value} {a : Act} {M : Nat} (hF : Fp s w.heap.size k p left false r a) (hM : Mt w w1 t va vs vm) (hR : rd s = rdp t (k + p.length + 1) (rem false left)) : Sw w s M 1 a w1 := by
  obtain ⟨u, rfl⟩ := hF
  obtain ⟨ao, an, ac, rfl⟩ := own_parts hM.attrs
  obtain ⟨so, sn, sc, rfl⟩ := own_parts hM.stages
  obtain ⟨mo, mn, mc, rfl⟩ := own_parts hM.marks
  have HR : Hid (rd s = .inr t) := hR
  have HM : Hid (Mt w w1 t (.slice ao an ac) (.slice so sn sc) (.slice mo mn mc)) := hM
  obtain ⟨⟨c0, c1, c2, c3⟩, f0, f1, f2, f3⟩ := four_cell hM.res
  obtain ⟨⟨d0, d1, d2, d3⟩, _⟩ := four_cell hM.self
  clear hR hM
  refine ⟨_, rfl, ?_⟩
  go_wp2_with fail
  try simp only [Exit.jumps]
  have kz : ∀ a b c d : Value, Kept (· ≠ w.heap.size) w1 ((((w1.setCell ⟨w.heap.size, 0, none⟩ a).setCell ⟨w.heap.size, 1, none⟩ b).setCell ⟨w.heap.size, 2, none⟩ c).setCell ⟨w.heap.size, 3, none⟩ d) := fun a b c d =>
    ((((Kept.refl _ _).setCell (by simp) _).setCell (by simp) _).setCell (by simp) _).setCell (by simp) _
  have l7 : ∀ {α : Type} (l : List α), (l.take 7).length ≤ 281474976710656 := fun l => by rw [List.length_take]; omega
  refine bodyPost_ret (results_tri rfl _ _ rfl (load_type (set_cell (set_cell (set_cell (set_cell HM.out.res 0 _) 1 _) 2 _) 3 _) rfl)) rfl ⟨.inr ⟨t, _, HR.out, rfl, ⟨_, _, _, rfl, ?_, ?_, ?_⟩, ⟨_, _, _, _, rfl, fun i e => ?_⟩⟩, ?_⟩
  · exact Ao.view (own_keep HM.out.attrs (kz _ _ _ _) (fun i e => by have := (HM.out.rows (.inl rfl) i e).1; omega)) (l7 _)
  · exact Ro.view (own_keep HM.out.stages (kz _ _ _ _) (fun i e => by have := (HM.out.rows (.inr (.inl rfl)) i e).1; omega)) (l7 _)
  · exact Ro.view (own_keep HM.out.marks (kz _ _ _ _) (fun i e => by have := (HM.out.rows (.inr (.inr rfl)) i e).1; omega)) (l7 _)
  · rcases e with e | e | e
    · have := (HM.out.rows (.inl rfl) i e).1; omega
    · have := (HM.out.rows (.inr (.inl rfl)) i e).1; omega
    · have := (HM.out.rows (.inr (.inr rfl)) i e).1; omega
  · exact (((HM.out.kept.setNew (Nat.le_refl _) _).setNew (Nat.le_refl _) _).setNew (Nat.le_refl _) _).setNew (Nat.le_refl _) _

/-- The next part, by its first word. -/
theorem par_attr (t : Ty) {q : List UInt8} (h : (wrd (Lib.trimB q 32)).1 = [97, 116, 116, 114]) : par t q = (rdA (wrd (Lib.trimB q 32)).2).map fun x => { t with attrs := t.attrs ++ [x] } := by
  unfold par par0
  rw [if_pos h]
theorem par_stage (t : Ty) {q : List UInt8} (h : (wrd (Lib.trimB q 32)).1 = [115, 116, 97, 103, 101]) : par t q = (rdR (wrd (Lib.trimB q 32)).2).map fun x => { t with stages := t.stages ++ [x] } := by
  unfold par par0
  rw [if_neg (by rw [h]; decide), if_pos h]
theorem par_mark (t : Ty) {q : List UInt8} (h : (wrd (Lib.trimB q 32)).1 = [109, 97, 114, 107]) : par t q = (rdR (wrd (Lib.trimB q 32)).2).map fun x => { t with marks := t.marks ++ [x] } := by
  unfold par par0
  rw [if_neg (by rw [h]; decide), if_neg (by rw [h]; decide), if_pos h]
theorem par_wrong (t : Ty) {q : List UInt8} (h1 : (wrd (Lib.trimB q 32)).1 ≠ [97, 116, 116, 114]) (h2 : (wrd (Lib.trimB q 32)).1 ≠ [115, 116, 97, 103, 101]) (h3 : (wrd (Lib.trimB q 32)).1 ≠ [109, 97, 114, 107]) : par t q = none := by
  unfold par par0
  rw [if_neg h1, if_neg h2, if_neg h3]
theorem rdp_cons (t : Ty) (k : Nat) (p : List UInt8) (r : List (List UInt8)) : rdp t k (p :: r) = nxt (par t p) k (k + p.length + 1) r := rfl

set_option maxRecDepth 100000 in
set_option maxHeartbeats 8000000 in
theorem sp1b {w w1 : World} {s : List UInt8} (hs : s.length ≤ 281474976710656) {k : Nat} {p left r : List UInt8} {t : Ty} {va vs vm : Value} {a : Act} (hF : Fp s w.heap.size k p left true r a) (hM : Mt w w1 t va vs vm) (hL : Lie s k p left true) (hR : rd s = rdp t (k + p.length + 1) (rem true left)) (IH : Si w s (2 * mu true left + 2)) : Sw w s (2 * mu true left + 2) 1 a w1 := by
  obtain ⟨u, rfl⟩ := hF
  obtain ⟨r1, r2, r3⟩ := rem_cut left
  have hL1 := hL.1
  have hL2 := hL.2 rfl
  have hR' : rd s = nxt (par t (cutAt 59 left).1) (k + p.length + 1) (k + p.length + 1 + (cutAt 59 left).1.length + 1) (rem (cutAt 59 left).2.2 (cutAt 59 left).2.1) := by
    rw [hR]
    show rdp t (k + p.length + 1) ((spl left).1 :: (spl left).2) = _
    rw [rdp_cons, r1, r2]
  obtain ⟨l1, l2, l3⟩ := cut_len 59 left
  have c1 := fun W => cut_any (w := W) left 59 (by omega)
  have HLie : Hid (Lie s (k + p.length + 1) (cutAt 59 left).1 (cutAt 59 left).2.1 (cutAt 59 left).2.2) := ⟨by omega, fun h => by have := l3 h; omega⟩
  have HR : Hid _ := hR'
  have hmu : 2 * mu (cutAt 59 left).2.2 (cutAt 59 left).2.1 + 3 < 2 * mu true left + 2 := by simp only [mu, if_true] at r3 ⊢; omega
  have HMU : Hid _ := hmu
  clear r1 r2 r3 l2 l3 hR hR' hL hmu
  generalize (cutAt 59 left).2.2 = mo at *
  generalize (cutAt 59 left).2.1 = lf at *
  generalize (cutAt 59 left).1 = q at *
  have c2 := fun W => trim_any (w := W) q (by omega)
  have ht := trim_len q 32
  have c3 := fun W => word_any (w := W) (Lib.trimB q 32) (by omega)
  have hw := wrd_len (Lib.trimB q 32)
  have HZ : Hid ((wrd (Lib.trimB q 32)).2.length ≤ s.length) := by show _ ≤ _; omega
  have pA := fun h => par_attr t (q := q) h
  have pS := fun h => par_stage t (q := q) h
  have pM := fun h => par_mark t (q := q) h
  have pW := fun h1 h2 h3 => par_wrong t (q := q) h1 h2 h3
  have PA : Hid _ := pA
  have PS : Hid _ := pS
  have PM : Hid _ := pM
  have PW : Hid _ := pW
  have HM : Hid (Mt w w1 t va vs vm) := hM
  clear hw ht hM pA pS pM pW
  generalize (wrd (Lib.trimB q 32)).1 = y at *
  generalize (wrd (Lib.trimB q 32)).2 = z at *
  generalize Lib.trimB q 32 = tq at *
  refine ⟨_, rfl, ?_⟩
  go_wp2_with fail
  refine Calls.mono (c1 _) ?_
  rintro e w2 ⟨rfl, n2, rfl⟩
  have HM2 : Hid (Mt w (w1.drewN n2) t va vs vm) := HM.out.all ((Kept.refl _ _).drewN n2)
  clear c1 HM
  go_wp2_with fail
  refine Calls.mono (c2 _) ?_
  rintro e w3 ⟨rfl, k3⟩
  have HM3 : Hid (Mt w w3 t va vs vm) := HM2.out.all k3
  clear c2 HM2 k3
  go_wp2_with fail
  refine Calls.mono (c3 _) ?_
  rintro e w4 ⟨rfl, k4⟩
  have HM4 : Hid (Mt w w4 t va vs vm) := HM3.out.all k4
  clear c3 HM3 k4
  by_cases h2 : y = [97, 116, 116, 114]
  · have HR2 := HR.out
    rw [PA.out h2] at HR2
    have HQ : Hid _ := HR2
    subst h2
    clear HR PA PS PM PW HR2
    go_wp2_with fail
    go_step3
    exact ⟨_, HMU.out, k + p.length + 1, q, lf, mo, z, t, va, vs, vm, Fp.mk' rfl rfl rfl rfl rfl rfl rfl rfl rfl rfl rfl, HM4.out, HLie.out, HZ.out, .inr (.inr (.inl ⟨rfl, rfl, HQ.out⟩))⟩
  by_cases h3 : y = [115, 116, 97, 103, 101]
  · have HR2 := HR.out
    rw [PS.out h3] at HR2
    have HQ : Hid _ := HR2
    subst h3
    clear HR PA PS PM PW HR2 h2
    go_wp2_with fail
    go_step3
    exact ⟨_, HMU.out, k + p.length + 1, q, lf, mo, z, t, va, vs, vm, Fp.mk' rfl rfl rfl rfl rfl rfl rfl rfl rfl rfl rfl, HM4.out, HLie.out, HZ.out, .inr (.inr (.inr (.inl ⟨rfl, rfl, HQ.out⟩)))⟩
  by_cases h4 : y = [109, 97, 114, 107]
  · have HR2 := HR.out
    rw [PM.out h4] at HR2
    have HQ : Hid _ := HR2
    subst h4
    clear HR PA PS PM PW HR2 h2 h3
    go_wp2_with fail
    go_step3
    exact ⟨_, HMU.out, k + p.length + 1, q, lf, mo, z, t, va, vs, vm, Fp.mk' rfl rfl rfl rfl rfl rfl rfl rfl rfl rfl rfl, HM4.out, HLie.out, HZ.out, .inr (.inr (.inr (.inr ⟨rfl, rfl, HQ.out⟩)))⟩
  · have HR2 := HR.out
    rw [PW.out h2 h3 h4] at HR2
    have HQ : Hid (rd s = .inl (k + p.length + 1)) := HR2
    replace h2 := beq_eq_false_iff_ne.2 h2
    replace h3 := beq_eq_false_iff_ne.2 h3
    replace h4 := beq_eq_false_iff_ne.2 h4
    clear HR PA PS PM PW HR2
    go_wp2_with fail
    go_step3
    iterate 2 (first | go_values | go_skip | go_guarded | go_step | go_upon | go_back)
    refine From.use (IH.out 0 0 _ _ (by omega) ⟨k + p.length + 1, q, lf, mo, z, t, va, vs, vm, ?_, HM4.out, HLie.out, HZ.out, .inl ⟨rfl, rfl, HQ.out⟩⟩) rfl
    exact Fp.mk' rfl rfl rfl rfl rfl rfl rfl rfl rfl rfl rfl

end Go.Proofs.YtahbfffhkpojmaaDoor
