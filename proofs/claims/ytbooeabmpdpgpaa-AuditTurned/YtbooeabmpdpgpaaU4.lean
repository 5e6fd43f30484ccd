/-
  Entries: a record and what kinds stand ahead of it; plainly, and as rows of five cells.
-/
import Derived.Test.YtbooeabmpdpgpaaZ1
import Derived.Test.YtbooeabmpdpgpaaU2
import Derived.Test.YtbooeabmpdpgpaaKMap
namespace Go.Proofs.Ytbooeabmpdpgpaa
open Go.RowKit Go.Maps Go.Sort

structure Ue where
  r : Ur
  ah : K4
/-- The kinds of the records of tx. -/
def kin (es : List Ue) (tx : List UInt8) : K4 := ⟨es.any fun e => decide (e.r.tx = tx) && (e.r.k == 1), es.any fun e => decide (e.r.tx = tx) && (e.r.k == 2), es.any fun e => decide (e.r.tx = tx) && (e.r.k == 3), es.any fun e => decide (e.r.tx = tx) && (e.r.k == 4)⟩
theorem kin_nil (tx : List UInt8) : kin [] tx = K4.nil := rfl
theorem kin_snoc (es : List Ue) (x : Ue) (tx : List UInt8) : kin (es ++ [x]) tx = if x.r.tx = tx then (kin es tx).put x.r.k else kin es tx := by
  by_cases h : x.r.tx = tx
  · rw [if_pos h]
    simp [kin, K4.put, h]
  · rw [if_neg h]
    simp [kin, h]
/-- What the texts tell up to the first that can't be read. -/
def entO : List (Option Ur) → List Ue → List Ue
  | [], es => es
  | none :: _, es => es
  | some r :: ts, es => entO ts (es ++ [⟨r, kin es r.tx⟩])
def entG (ts : List (List UInt8)) (es : List Ue) : List Ue := entO (ts.map rec?) es
theorem entG_nil (es : List Ue) : entG [] es = es := rfl
theorem entG_none {t : List UInt8} {ts : List (List UInt8)} {es : List Ue} (h : rec? t = none) : entG (t :: ts) es = es := by
  unfold entG
  rw [List.map_cons, h]
  rfl
theorem entG_some {t : List UInt8} {ts : List (List UInt8)} {es : List Ue} {r : Ur} (h : rec? t = some r) : entG (t :: ts) es = entG ts (es ++ [⟨r, kin es r.tx⟩]) := by
  unfold entG
  rw [List.map_cons, h]
  rfl

/-- An entry with where its groups lie. -/
abbrev Uz := Ue × (Option Addr × Nat)
def ecell (p : Uz) : List Value := [.int .i64 (p.1.r.k : Nat), .string ⟨p.1.r.tx.toArray⟩, .slice p.2.1 p.1.r.gs.length p.2.2, .string ⟨p.1.r.bd.toArray⟩, .int .i64 (p.1.ah.val : Nat)]
def entS : Shp Uz := ⟨5, ecell, fun _ => rfl, fun p u hu => by
  simp only [ecell, List.mem_cons, List.not_mem_nil, or_false] at hu
  rcases hu with rfl | rfl | rfl | rfl | rfl <;> rfl⟩
theorem entT : ElT 114 124 entS.n 72 (.agg #[.int .i64 0, .string .empty, .slice none 0 0, .string .empty, .int .i64 0]) :=
  ⟨Try.underlying114, by kernel_rfl, by simp [Value.cells, entS], by decide, by decide⟩
/-- The entries' groups lie in rows of their own behind b. -/
def Eg (w : World) (b : Nat) (xs : List Uz) : Prop := ∀ p ∈ xs, Its w b (.slice p.2.1 p.1.r.gs.length p.2.2) p.1.r.gs
theorem Eg.kept {q : Nat → Prop} {w w' : World} {b : Nat} {xs : List Uz} (h : Eg w b xs) (k : Kept q w w') (hq : ∀ x, b ≤ x → x < w.heap.size → (∃ cs fr, w.heap[x]? = some (.cells cs 3 fr)) → q x) : Eg w' b xs := fun p hp => (h p hp).kept k (fun x hx => by
  refine hq x (World.ownsRow.lt (h p hp) x hx).1 (World.ownsRow.lt (h p hp) x hx).2 ?_
  rcases (h p hp).2 with ⟨e, _⟩ | ⟨g, cap, cur, e, _, hg, _⟩
  · rw [e] at hx; cases hx
  · rw [e] at hx; cases hx; exact ⟨_, _, hg⟩)
theorem Eg.all {w w' : World} {b : Nat} {xs : List Uz} (h : Eg w b xs) (k : Kept (fun _ => True) w w') : Eg w' b xs := h.kept k (fun _ _ _ _ => trivial)
theorem Eg.nil (w : World) (b : Nat) : Eg w b [] := fun p hp => by cases hp
theorem Eg.low {w : World} {b c : Nat} {xs : List Uz} (h : Eg w b xs) (hc : c ≤ b) : Eg w c xs := fun p hp => World.ownsRow.mono (h p hp) hc
theorem Eg.snoc {w : World} {b : Nat} {xs : List Uz} (h : Eg w b xs) {x : Uz} (hx : Its w b (.slice x.2.1 x.1.r.gs.length x.2.2) x.1.r.gs) : Eg w b (xs ++ [x]) := fun p hp => by
  rcases List.mem_append.1 hp with h1 | h1
  · exact h p h1
  · rw [List.mem_singleton.1 h1]; exact hx

/-- Numbers as elements of a map. -/
def intDu (n : Int) : DataW Unit := .lit (.int .i64 n)
def intRu : Value → Option (DataW Unit × List MemPlace)
  | .int .i64 n => some (intDu n, [])
  | _ => none
theorem intRu_inv (v : Value) (z : DataW Unit × List MemPlace) (h : intRu v = some z) : ∃ x : Int, v = .int .i64 x ∧ z = (intDu x, []) := by
  unfold intRu at h
  split at h
  · exact ⟨_, rfl, by simpa using h.symm⟩
  · cases h
def codeI : Cde Int := ⟨Value.int .i64, intDu, intRu, fun _ => rfl, intRu_inv, fun x y h => by simpa [intDu] using h⟩
theorem zeroKinds (w : World) : (zeroValue 82).run Try.prog w = .ok (codeI.enc 0) w := by kernel_rfl
/-- The map 'ahead': the kinds of each transaction's records so far. -/
def Ahd (w : World) (A n : Nat) (es : List Ue) : Prop := ∃ f : List UInt8 → Option Int, Mp codeI w A n f ∧ ∀ tx, (f tx).getD 0 = ((kin es tx).val : Int)
section
variable {w w' : World} {A n : Nat} {es : List Ue}
theorem Ahd.kept {p : Nat → Prop} (h : Ahd w A n es) (k : Kept p w w') (hp : p A) : Ahd w' A n es := by
  obtain ⟨f, hm, hf⟩ := h
  exact ⟨f, hm.kept k hp, hf⟩
theorem Ahd.lt (h : Ahd w A n es) : A < w.heap.size := by obtain ⟨f, hm, _⟩ := h; exact hm.lt
theorem Ahd.look (h : Ahd w A n es) {tx : List UInt8} (hx : tx.length ≤ 9223372036854775807) : (Instr.lookup 146 (.map (some A)) (.string ⟨tx.toArray⟩) false).run Try.prog w = .ok (.int .i64 ((kin es tx).val : Nat)) w := by
  obtain ⟨f, hm, hf⟩ := h
  have := hm.look1 Try.underlying146 (zeroKinds w) hx
  rw [hf tx] at this
  exact this
theorem Ahd.store (h : Ahd w A n es) (x : Ue) (hx : x.r.tx.length ≤ 9223372036854775807) (hn : n ≤ 1000000) :
    ∃ w', (Instr.mapUpdate 146 (.map (some A)) (.string ⟨x.r.tx.toArray⟩) (.int .i64 (((kin es x.r.tx).put x.r.k).val : Nat))).run Try.prog w = .ok () w' ∧ Ahd w' A (n + 1) (es ++ [x]) ∧ Kept (· ≠ A) w w' ∧ w'.heap.size = w.heap.size := by
  obtain ⟨f, hm, hf⟩ := h
  obtain ⟨w', hr, h1, h2, h3⟩ := hm.store Try.underlying146 hx hn (((kin es x.r.tx).put x.r.k).val : Nat)
  refine ⟨w', hr, ⟨_, h1, fun tx => ?_⟩, h2, h3⟩
  unfold putM
  rw [kin_snoc]
  by_cases e : tx = x.r.tx
  · subst e
    rw [if_pos rfl, if_pos rfl]
    rfl
  · rw [if_neg e, if_neg (fun q => e q.symm)]
    exact hf tx
end

end Go.Proofs.Ytbooeabmpdpgpaa
