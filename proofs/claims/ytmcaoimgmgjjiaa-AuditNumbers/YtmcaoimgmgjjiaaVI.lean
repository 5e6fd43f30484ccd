/-
  Texts of the proofs, 9 of 53.
-/
import Derived.Test.YtmcaoimgmgjjiaaVB
import Derived.Maps.OwnSet
import Derived.Maps.RangeWalk
import Derived.Sort.KeysCollected
import Derived.Test.YtmcaoimgmgjjiaaVH
import Derived.Test.YtmcaoimgmgjjiaaVE
import Derived.Test.YtmcaoimgmgjjiaaVG
namespace Go.Proofs.Ytmcaoimgmgjjiaa
open Go.RowKit Go.Maps Go.Sort

/-- How elements lie in a map, and what they read as. -/
structure Cde (α : Type) where
  enc : α → Value
  dat : α → DataW Unit
  R : Value → Option (DataW Unit × List MemPlace)
  reads : ∀ x, R (enc x) = some (dat x, [])
  inv : ∀ v z, R v = some z → ∃ x, v = enc x ∧ z = (dat x, [])
  inj : ∀ x y, dat x = dat y → x = y

theorem text_keyed : Maps.Keyed Try.prog 9 := Maps.string_keyed Try.underlying9
theorem text_keyOf {x : List UInt8} (h : x.length ≤ 9223372036854775807) : keyOf Try.prog 9 (.string ⟨x.toArray⟩) = some (.string x) := by
  have := WideMaps.keyOf_string_mk (P := Try.prog) (k := 9) Try.underlying9 (s := ⟨x.toArray⟩) (by simp [ByteArray.size, maxLen]; omega)
  simpa using this
theorem turned_kept {w w' : World} {b : Nat} (h : w.mapTurned w' b) : Kept (· ≠ b) w w' := by
  have g := h.grown
  exact ⟨g.os, g.tape, g.output, g.size, fun k hk hne => g.block k hk (fun e => hne (by cases e; rfl))⟩
theorem turned_same {w w' : World} {b : Nat} (h : w.mapTurned w' b) : w'.heap.size = w.heap.size := by
  obtain ⟨es, clock, es', clock', hb, rfl⟩ := h
  simp [ChangeMaps.setBlock]
theorem strlit_ne {a b : List UInt8} (h : a ≠ b) : (Lit.string a) ≠ (Lit.string b) := by
  intro e; simp at e; exact h e

section
variable {α : Type} {C : Cde α}

/-- The datum has these elements. -/
structure Holds (C : Cde α) (D : DataW Unit) (f : List UInt8 → Option α) : Prop where
  no : ∀ x, f x = none → Maps.has D (.string x) = false
  yes : ∀ x a, f x = some a → ∀ d, D.atKey (.string x) d = C.dat a
/-- Block b is a map with these elements, at most n. -/
def Mp (C : Cde α) (w : World) (b n : Nat) (f : List UInt8 → Option α) : Prop := ∃ D : DataW Unit, w.ownsMap Try.prog 9 C.R b n D ∧ Holds C D f

variable {w w' : World} {b n : Nat} {mb : Option Nat} {f : List UInt8 → Option α}

theorem Mp.lt (h : Mp C w b n f) : b < w.heap.size := by obtain ⟨D, ho, _⟩ := h; exact ho.lt
theorem Mp.isMap (h : Mp C w b n f) : ∃ es clock, w.heap[b]? = some (.map es clock) := by obtain ⟨D, ⟨es, clock, hb, _⟩, _⟩ := h; exact ⟨es, clock, hb⟩
theorem Mp.kept {p : Nat → Prop} (h : Mp C w b n f) (k : Kept p w w') (hp : p b) : Mp C w' b n f := by
  have hlt := h.lt
  obtain ⟨D, ⟨es, clock, hb, r⟩, hh⟩ := h
  exact ⟨D, ⟨es, clock, (k.block b hlt hp).trans hb, r⟩, hh⟩
theorem Mp.mono {m : Nat} (h : Mp C w b n f) (hm : n ≤ m) : Mp C w b m f := by
  obtain ⟨D, ho, hh⟩ := h; exact ⟨D, ho.mono hm, hh⟩
theorem Mp.made (C : Cde α) (w : World) : Mp C (w.alloc (.map #[] 0)) w.heap.size 0 (fun _ => none) :=
  ⟨.map [], World.ownsMap_made _ _ _ _, fun _ _ => rfl, fun _ _ h => by cases h⟩
theorem Mp.congr {g : List UInt8 → Option α} (h : Mp C w b n f) (hg : ∀ x, g x = f x) : Mp C w b n g := by
  obtain rfl : g = f := funext hg
  exact h

theorem Holds.at {D : DataW Unit} (h : Holds C D f) (x : List UInt8) (z : α) : D.atKey (.string x) (C.dat z) = C.dat ((f x).getD z) ∧ Maps.has D (.string x) = (f x).isSome := by
  cases hf : f x with
  | none => exact ⟨Maps.atKey_of_not_has (h.no x hf) _, h.no x hf⟩
  | some a => exact ⟨h.yes x a hf _, Maps.has_true_of_atKey (h.yes x a hf)⟩
/-- v, ok := m[x] -/
theorem Mp.look (h : Mp C w b n f) {t e : TypeId} (ht : Try.prog.underlying t = some (.map 9 e)) {z : α} (hz : (zeroValue e).run Try.prog w = .ok (C.enc z) w) {x : List UInt8} (hx : x.length ≤ 9223372036854775807) :
    (Instr.lookup t (.map (some b)) (.string ⟨x.toArray⟩) true).run Try.prog w = .ok (.tuple #[C.enc ((f x).getD z), .bool (f x).isSome]) w := by
  obtain ⟨D, ho, hh⟩ := h
  obtain ⟨v, ps, hr, hv⟩ := ho.look_ok text_keyed ht hz (C.reads z) (text_keyOf hx)
  rw [(hh.at x z).2] at hr
  rw [(hh.at x z).1] at hv
  obtain ⟨y, rfl, hy⟩ := C.inv _ _ hv
  simp only [Prod.mk.injEq] at hy
  rw [← C.inj _ _ hy.1] at hr
  exact hr
/-- m[x] -/
theorem Mp.look1 (h : Mp C w b n f) {t e : TypeId} (ht : Try.prog.underlying t = some (.map 9 e)) {z : α} (hz : (zeroValue e).run Try.prog w = .ok (C.enc z) w) {x : List UInt8} (hx : x.length ≤ 9223372036854775807) :
    (Instr.lookup t (.map (some b)) (.string ⟨x.toArray⟩) false).run Try.prog w = .ok (C.enc ((f x).getD z)) w := by
  obtain ⟨D, ho, hh⟩ := h
  obtain ⟨v, ps, hr, hv⟩ := ho.lookup text_keyed ht hz (C.reads z) (text_keyOf hx)
  rw [(hh.at x z).1] at hv
  obtain ⟨y, rfl, hy⟩ := C.inv _ _ hv
  simp only [Prod.mk.injEq] at hy
  rw [← C.inj _ _ hy.1] at hr
  exact hr

/-- f with a at x; f without x. -/
def putM (f : List UInt8 → Option α) (x : List UInt8) (a : α) : List UInt8 → Option α := fun y => if y = x then some a else f y
def cutM (f : List UInt8 → Option α) (x : List UInt8) : List UInt8 → Option α := fun y => if y = x then none else f y

theorem Holds.put {D : DataW Unit} (hm : Maps.IsMap D) (h : Holds C D f) (x : List UInt8) (a : α) : Holds C (D.put (.string x) (C.dat a)) (putM f x a) := by
  have hk : WideAt.IsKeyLit (.string x) := trivial
  refine ⟨fun y e => ?_, fun y v e d => ?_⟩
  · unfold putM at e
    split at e
    · cases e
    · rename_i hne
      rw [Maps.has_put_other (strlit_ne hne)]
      exact h.no y e
  · unfold putM at e
    split at e
    · rename_i he
      subst he
      cases e
      exact Maps.atKey_put_same hm hk _ _
    · rename_i hne
      rw [Maps.atKey_put_other (strlit_ne hne)]
      exact h.yes y v e d
theorem Holds.cut {D : DataW Unit} (h : Holds C D f) (x : List UInt8) : Holds C (D.del (.string x)) (cutM f x) := by
  refine ⟨fun y e => ?_, fun y v e d => ?_⟩
  · unfold cutM at e
    split at e
    · rename_i he
      subst he
      exact Maps.has_del_same
    · rename_i hne
      rw [Maps.has_del_other (strlit_ne hne)]
      exact h.no y e
  · unfold cutM at e
    split at e
    · cases e
    · rename_i hne
      rw [Maps.atKey_del_other (strlit_ne hne)]
      exact h.yes y v e d
/-- m[x] = a -/
theorem Mp.store (h : Mp C w b n f) {t e : TypeId} (ht : Try.prog.underlying t = some (.map 9 e)) {x : List UInt8} (hx : x.length ≤ 9223372036854775807) (hn : n ≤ 1000000) (a : α) :
    ∃ w', (Instr.mapUpdate t (.map (some b)) (.string ⟨x.toArray⟩) (C.enc a)).run Try.prog w = .ok () w' ∧ Mp C w' b (n + 1) (putM f x a) ∧ Kept (· ≠ b) w w' ∧ w'.heap.size = w.heap.size := by
  obtain ⟨D, ho, hh⟩ := h
  obtain ⟨w', hr, h1, h2⟩ := ho.store text_keyed ht (by unfold maxLen; omega) (text_keyOf hx) (C.reads a)
  exact ⟨w', hr, ⟨_, h1, hh.put ho.isMap x a⟩, turned_kept h2, turned_same h2⟩
/-- delete(m, x) -/
theorem Mp.drop (h : Mp C w b n f) {t e : TypeId} (ht : Try.prog.underlying t = some (.map 9 e)) {x : List UInt8} (hx : x.length ≤ 9223372036854775807) (ty : TypeId) :
    ∃ w', (Builtin.delete_ #[t, 9] ty #[.map (some b), .string ⟨x.toArray⟩]).run Try.prog w = .ok (.tuple #[]) w' ∧ Mp C w' b n (cutM f x) ∧ Kept (· ≠ b) w w' ∧ w'.heap.size = w.heap.size := by
  obtain ⟨D, ho, hh⟩ := h
  obtain ⟨w', hr, h1, h2⟩ := ho.drop text_keyed ht (text_keyOf hx) ty
  exact ⟨w', hr, ⟨_, h1, hh.cut x⟩, turned_kept h2, turned_same h2⟩
/-- The keys that a map has. -/
theorem keys_of {D : DataW Unit} (ho : w.ownsMap Try.prog 9 C.R b n D) (hh : Holds C D f) : (strKeys D).Nodup ∧ (strKeys D).length = Maps.size D ∧ ∀ x, x ∈ strKeys D ↔ f x ≠ none := by
  obtain ⟨es, hD, hpw, _⟩ := ho.entries text_keyed
  obtain ⟨es', hD', hko⟩ := ho.keysOf
  obtain rfl : es = es' := by rw [hD] at hD'; simpa using hD'
  subst hD
  have hk : ∀ p ∈ es, ∃ x, p.1 = .string x := fun p hp => by obtain ⟨v, hv⟩ := hko p hp; obtain ⟨x, _, hx, _⟩ := Maps.keyOf_str Try.underlying9 hv; exact ⟨x, hx⟩
  refine ⟨?_, by simp [strKeys, Maps.size], fun x => ?_⟩
  · show (es.map fun p => strOf p.1).Nodup
    refine List.pairwise_map.2 (hpw.imp_of_mem fun {p q} hp' hq' hne e => hne ?_)
    obtain ⟨a, ha⟩ := hk p hp'
    obtain ⟨c, hc⟩ := hk q hq'
    rw [ha, hc] at e ⊢
    exact congrArg _ e
  · have e : f x ≠ none ↔ Maps.has (.map es : DataW Unit) (.string x) = true := by
      cases hf : f x with
      | none => rw [hh.no x hf]; simp
      | some a => rw [Maps.has_true_of_atKey (hh.yes x a hf)]; simp
    rw [e, Maps.has_eq, List.any_eq_true]
    show x ∈ es.map (fun p => strOf p.1) ↔ _
    rw [List.mem_map]
    constructor
    · rintro ⟨p, hp', rfl⟩
      obtain ⟨a, ha⟩ := hk p hp'
      exact ⟨p, hp', by rw [ha]; simp [Lit.sameKey, strOf]⟩
    · rintro ⟨p, hp', hs⟩
      obtain ⟨a, ha⟩ := hk p hp'
      rw [ha] at hs
      exact ⟨p, hp', by rw [ha]; simpa [Lit.sameKey, strOf] using hs⟩
/-- How many there are. -/
def Count {α : Type} (f : List UInt8 → Option α) (k : Nat) : Prop := ∃ ks : List (List UInt8), ks.Nodup ∧ ks.length = k ∧ ∀ x, x ∈ ks ↔ f x ≠ none
theorem Count.zero {k : Nat} (h : Count f k) : k = 0 ↔ ∀ x, f x = none := by
  obtain ⟨ks, hd, rfl, hm⟩ := h
  constructor
  · intro h0 x
    have : ks = [] := List.eq_nil_of_length_eq_zero h0
    subst this
    exact Classical.byContradiction fun hx => by simpa using (hm x).2 hx
  · intro h0
    cases ks with
    | nil => rfl
    | cons a l => exact absurd (h0 a) ((hm a).1 (List.mem_cons_self ..))
theorem Count.one (h : Count f 1) : ∃ x, f x ≠ none ∧ ∀ y, f y ≠ none → y = x := by
  obtain ⟨ks, hd, hl, hm⟩ := h
  obtain ⟨x, rfl⟩ := List.length_eq_one_iff.1 hl
  exact ⟨x, (hm x).1 (by simp), fun y hy => by simpa using (hm y).2 hy⟩
/-- If all that is there is at x, there is one at most. -/
theorem Count.few {k : Nat} (h : Count f k) {x : List UInt8} (hx : ∀ y, f y ≠ none → y = x) : k ≤ 1 := by
  obtain ⟨ks, hd, rfl, hm⟩ := h
  match ks with
  | [] => simp
  | [a] => simp
  | a :: a' :: l =>
    have h1 := hx a ((hm a).1 (by simp))
    have h2 := hx a' ((hm a').1 (by simp))
    subst h1
    rw [h2] at hd
    simp at hd
theorem Count.two {k : Nat} (h : Count f k) {x y : List UInt8} (hx : f x ≠ none) (hy : f y ≠ none) (hne : y ≠ x) : 2 ≤ k := by
  obtain ⟨ks, hd, rfl, hm⟩ := h
  have h1 := (hm x).2 hx
  have h2 := (hm y).2 hy
  match ks with
  | [] => simp at h1
  | [a] =>
    simp at h1 h2
    exact absurd (h2.trans h1.symm) hne
  | a :: a' :: l => simp
theorem Count.pos {k : Nat} (h : Count f k) {x : List UInt8} (hx : f x ≠ none) : 1 ≤ k := by
  obtain ⟨ks, hd, rfl, hm⟩ := h
  exact List.length_pos_of_mem ((hm x).2 hx)
theorem Count.none : Count (fun _ => none : List UInt8 → Option α) 0 := ⟨[], by simp, rfl, by simp⟩
/-- len(m) -/
theorem Mp.len (h : Mp C w b n f) {t e : TypeId} (ht : Try.prog.underlying t = some (.map 9 e)) :
    ∃ k, Count f k ∧ k ≤ n ∧ ∀ ty, (Builtin.len_ #[t] ty #[.map (some b)]).run Try.prog w = .ok (.int .i64 (k : Nat)) w := by
  obtain ⟨D, ho, hh⟩ := h
  obtain ⟨h1, h2, h3⟩ := keys_of ho hh
  exact ⟨_, ⟨_, h1, h2, h3⟩, ho.size_le, fun ty => ho.len ht ty⟩
theorem Mp.short (h : Mp C w b n f) {x : List UInt8} (hx : f x ≠ none) : x.length ≤ maxLen := by
  obtain ⟨D, ho, hh⟩ := h
  exact strKeys_le ho Try.underlying9 x (((keys_of ho hh).2.2 x).2 hx)

/-- A map, or nil, with these elements. -/
def Mo (C : Cde α) (w : World) (mb : Option Nat) (n : Nat) (f : List UInt8 → Option α) : Prop := (mb = none ∧ ∀ x, f x = none) ∨ ∃ b, mb = some b ∧ Mp C w b n f
theorem Mo.look (h : Mo C w mb n f) {t e : TypeId} (ht : Try.prog.underlying t = some (.map 9 e)) {z : α} (hz : (zeroValue e).run Try.prog w = .ok (C.enc z) w) {x : List UInt8} (hx : x.length ≤ 9223372036854775807) :
    (Instr.lookup t (.map mb) (.string ⟨x.toArray⟩) true).run Try.prog w = .ok (.tuple #[C.enc ((f x).getD z), .bool (f x).isSome]) w := by
  rcases h with ⟨rfl, h⟩ | ⟨b, rfl, h⟩
  · rw [h x]
    exact Maps.look_nil true text_keyed ht hz (text_keyOf hx)
  · exact h.look ht hz hx
theorem Mo.look1 (h : Mo C w mb n f) {t e : TypeId} (ht : Try.prog.underlying t = some (.map 9 e)) {z : α} (hz : (zeroValue e).run Try.prog w = .ok (C.enc z) w) {x : List UInt8} (hx : x.length ≤ 9223372036854775807) :
    (Instr.lookup t (.map mb) (.string ⟨x.toArray⟩) false).run Try.prog w = .ok (C.enc ((f x).getD z)) w := by
  rcases h with ⟨rfl, h⟩ | ⟨b, rfl, h⟩
  · rw [h x]
    exact Maps.look_nil false text_keyed ht hz (text_keyOf hx)
  · exact h.look1 ht hz hx
theorem Mo.len (h : Mo C w mb n f) {t e : TypeId} (ht : Try.prog.underlying t = some (.map 9 e)) :
    ∃ k, Count f k ∧ k ≤ n ∧ ∀ ty, (Builtin.len_ #[t] ty #[.map mb]).run Try.prog w = .ok (.int .i64 (k : Nat)) w := by
  rcases h with ⟨rfl, h⟩ | ⟨b, rfl, h⟩
  · obtain rfl : f = fun _ => none := funext h
    exact ⟨0, Count.none, Nat.zero_le _, fun ty => Maps.len_nil ht ty⟩
  · exact h.len ht
theorem Mo.kept {p : Nat → Prop} (h : Mo C w mb n f) (k : Kept p w w') (hp : ∀ b, mb = some b → p b) : Mo C w' mb n f := by
  rcases h with h | ⟨b, rfl, h⟩
  · exact .inl h
  · exact .inr ⟨b, rfl, h.kept k (hp b rfl)⟩
end

end Go.Proofs.Ytmcaoimgmgjjiaa

namespace Go.Proofs.Ytmcaoimgmgjjiaa
open Go.RowKit Go.Maps Go.Sort

structure Ue where
  r : Ur
  ah : K4
/-- The kinds of the records of tx. -/
def kin (es : List Ue) (tx : List UInt8) : K4 := ⟨es.any fun e => decide (e.r.tx = tx) && (e.r.k == 1), es.any fun e => decide (e.r.tx = tx) && (e.r.k == 2), es.any fun e => decide (e.r.tx = tx) && (e.r.k == 3), es.any fun e => decide (e.r.tx = tx) && (e.r.k == 4)⟩
theorem kin_snoc (es : List Ue) (x : Ue) (tx : List UInt8) : kin (es ++ [x]) tx = if x.r.tx = tx then (kin es tx).put x.r.k else kin es tx := by
  by_cases h : x.r.tx = tx
  · rw [if_pos h]
    simp [kin, K4.put, h]
  · rw [if_neg h]
    simp [kin, h]
/-- What the texts tell up to the first that can't be read. -/
def entO : List (Option Ur) → List Ue → List Ue
  | [], es => es
  | none :: _, es => es
  | some r :: ts, es => entO ts (es ++ [⟨r, kin es r.tx⟩])
def entG (ts : List (List UInt8)) (es : List Ue) : List Ue := entO (ts.map rec?) es
theorem entG_nil (es : List Ue) : entG [] es = es := rfl
theorem entG_none {t : List UInt8} {ts : List (List UInt8)} {es : List Ue} (h : rec? t = none) : entG (t :: ts) es = es := by
  unfold entG
  rw [List.map_cons, h]
  rfl
theorem entG_some {t : List UInt8} {ts : List (List UInt8)} {es : List Ue} {r : Ur} (h : rec? t = some r) : entG (t :: ts) es = entG ts (es ++ [⟨r, kin es r.tx⟩]) := by
  unfold entG
  rw [List.map_cons, h]
  rfl

/-- An entry with where its groups lie. -/
abbrev Uz := Ue × (Option Addr × Nat)
def ecell (p : Uz) : List Value := [.int .i64 (p.1.r.k : Nat), .string ⟨p.1.r.tx.toArray⟩, .slice p.2.1 p.1.r.gs.length p.2.2, .string ⟨p.1.r.bd.toArray⟩, .int .i64 (p.1.ah.val : Nat)]
def entS : Shp Uz := ⟨5, ecell, fun _ => rfl, fun p u hu => by
  simp only [ecell, List.mem_cons, List.not_mem_nil, or_false] at hu
  rcases hu with rfl | rfl | rfl | rfl | rfl <;> rfl⟩
theorem entT : ElT 114 124 entS.n 72 (.agg #[.int .i64 0, .string .empty, .slice none 0 0, .string .empty, .int .i64 0]) :=
  ⟨Try.underlying114, by kernel_rfl, by simp [Value.cells, entS], by decide, by decide⟩
/-- The entries' groups lie in rows of their own behind b. -/
def Eg (w : World) (b : Nat) (xs : List Uz) : Prop := ∀ p ∈ xs, Its w b (.slice p.2.1 p.1.r.gs.length p.2.2) p.1.r.gs
theorem Eg.kept {q : Nat → Prop} {w w' : World} {b : Nat} {xs : List Uz} (h : Eg w b xs) (k : Kept q w w') (hq : ∀ x, b ≤ x → x < w.heap.size → (∃ cs fr, w.heap[x]? = some (.cells cs 3 fr)) → q x) : Eg w' b xs := fun p hp => (h p hp).kept k (fun x hx => by
  refine hq x (World.ownsRow.lt (h p hp) x hx).1 (World.ownsRow.lt (h p hp) x hx).2 ?_
  rcases (h p hp).2 with ⟨e, _⟩ | ⟨g, cap, cur, e, _, hg, _⟩
  · rw [e] at hx; cases hx
  · rw [e] at hx; cases hx; exact ⟨_, _, hg⟩)
theorem Eg.all {w w' : World} {b : Nat} {xs : List Uz} (h : Eg w b xs) (k : Kept (fun _ => True) w w') : Eg w' b xs := h.kept k (fun _ _ _ _ => trivial)
theorem Eg.nil (w : World) (b : Nat) : Eg w b [] := fun p hp => by cases hp
theorem Eg.low {w : World} {b c : Nat} {xs : List Uz} (h : Eg w b xs) (hc : c ≤ b) : Eg w c xs := fun p hp => World.ownsRow.mono (h p hp) hc
theorem Eg.snoc {w : World} {b : Nat} {xs : List Uz} (h : Eg w b xs) {x : Uz} (hx : Its w b (.slice x.2.1 x.1.r.gs.length x.2.2) x.1.r.gs) : Eg w b (xs ++ [x]) := fun p hp => by
  rcases List.mem_append.1 hp with h1 | h1
  · exact h p h1
  · rw [List.mem_singleton.1 h1]; exact hx

/-- Numbers as elements of a map. -/
def intDu (n : Int) : DataW Unit := .lit (.int .i64 n)
def intRu : Value → Option (DataW Unit × List MemPlace)
  | .int .i64 n => some (intDu n, [])
  | _ => none
theorem intRu_inv (v : Value) (z : DataW Unit × List MemPlace) (h : intRu v = some z) : ∃ x : Int, v = .int .i64 x ∧ z = (intDu x, []) := by
  unfold intRu at h
  split at h
  · exact ⟨_, rfl, by simpa using h.symm⟩
  · cases h
def codeI : Cde Int := ⟨Value.int .i64, intDu, intRu, fun _ => rfl, intRu_inv, fun x y h => by simpa [intDu] using h⟩
theorem zeroKinds (w : World) : (zeroValue 82).run Try.prog w = .ok (codeI.enc 0) w := by kernel_rfl
/-- The map 'ahead': the kinds of each transaction's records so far. -/
def Ahd (w : World) (A n : Nat) (es : List Ue) : Prop := ∃ f : List UInt8 → Option Int, Mp codeI w A n f ∧ ∀ tx, (f tx).getD 0 = ((kin es tx).val : Int)
section
variable {w w' : World} {A n : Nat} {es : List Ue}
theorem Ahd.kept {p : Nat → Prop} (h : Ahd w A n es) (k : Kept p w w') (hp : p A) : Ahd w' A n es := by
  obtain ⟨f, hm, hf⟩ := h
  exact ⟨f, hm.kept k hp, hf⟩
theorem Ahd.lt (h : Ahd w A n es) : A < w.heap.size := by obtain ⟨f, hm, _⟩ := h; exact hm.lt
theorem Ahd.look (h : Ahd w A n es) {tx : List UInt8} (hx : tx.length ≤ 9223372036854775807) : (Instr.lookup 146 (.map (some A)) (.string ⟨tx.toArray⟩) false).run Try.prog w = .ok (.int .i64 ((kin es tx).val : Nat)) w := by
  obtain ⟨f, hm, hf⟩ := h
  have := hm.look1 Try.underlying146 (zeroKinds w) hx
  rw [hf tx] at this
  exact this
theorem Ahd.store (h : Ahd w A n es) (x : Ue) (hx : x.r.tx.length ≤ 9223372036854775807) (hn : n ≤ 1000000) :
    ∃ w', (Instr.mapUpdate 146 (.map (some A)) (.string ⟨x.r.tx.toArray⟩) (.int .i64 (((kin es x.r.tx).put x.r.k).val : Nat))).run Try.prog w = .ok () w' ∧ Ahd w' A (n + 1) (es ++ [x]) ∧ Kept (· ≠ A) w w' ∧ w'.heap.size = w.heap.size := by
  obtain ⟨f, hm, hf⟩ := h
  obtain ⟨w', hr, h1, h2, h3⟩ := hm.store Try.underlying146 hx hn (((kin es x.r.tx).put x.r.k).val : Nat)
  refine ⟨w', hr, ⟨_, h1, fun tx => ?_⟩, h2, h3⟩
  unfold putM
  rw [kin_snoc]
  by_cases e : tx = x.r.tx
  · subst e
    rw [if_pos rfl, if_pos rfl]
    rfl
  · rw [if_neg e, if_neg (fun q => e q.symm)]
    exact hf tx
end

end Go.Proofs.Ytmcaoimgmgjjiaa

namespace Go.Proofs.Ytmcaoimgmgjjiaa
open Go.RowKit

def putN (bs : List UInt8) (o x : Nat) : Nat → List UInt8
  | 0 => bs
  | k + 1 => (putN bs o x k).set (o + k) (UInt8.ofNat (x / 256 ^ (3 - k)))
theorem putN_length (bs : List UInt8) (o x k : Nat) : (putN bs o x k).length = bs.length := by
  induction k with
  | zero => rfl
  | succ k ih => simp [putN, ih]
/-- What it comes to. -/
theorem putN_four (l r : List UInt8) (a b c d : UInt8) (x : Nat) : putN (l ++ [a, b, c, d] ++ r) l.length x 4 = l ++ bytesOf x 4 ++ r := by
  simp only [putN, bytesOf, Nat.add_zero]
  rw [List.append_assoc, List.append_assoc]
  have s : ∀ (k : Nat) (m : List UInt8) (y : UInt8), (l ++ m).set (l.length + k) y = l ++ m.set k y := fun k m y => by
    rw [List.set_append_right _ _ (by omega), Nat.add_sub_cancel_left]
  have s0 : ∀ (m : List UInt8) (y : UInt8), (l ++ m).set l.length y = l ++ m.set 0 y := fun m y => s 0 m y
  rw [s0, s, s, s]
  rfl

theorem byte_mod (x d : Nat) (z : Int) (h : z = ((x / d % 256 : Nat) : Int)) : z = ((UInt8.ofNat (x / d)).toNat : Int) := by
  rw [UInt8.toNat_ofNat', h]

set_option maxHeartbeats 1000000 in
theorem putWord_any {w : World} {b t o n cap : Nat} {bs : List UInt8} (x : Nat) (hx : x < 4294967296) (ha : Ar w b t (cells bs)) (ho : o + 4 ≤ bs.length) (hn : 4 ≤ n) :
    Calls Try.prog 97 #[.slice (some ⟨b, o, none⟩) n cap, .int .u32 x] w fun e w' => e = .returned (.tuple #[]) ∧ Ar w' b t (cells (putN bs o x 4)) ∧ Kept (· ≠ b) w w' ∧ w'.heap.size = w.heap.size := by
  have hn' : (4 : Int) ≤ (n : Int) := by omega
  go_enter Try.func97, Try.ntmps97
  go_wp2
  go_loopw [5] (fun ti wr => ∃ k : Nat, k ≤ 4 ∧ ti = .int .i64 k ∧ Ar wr b t (cells (putN bs o x k)) ∧ Kept (· ≠ b) w wr ∧ Hid (wr.heap.size = w.heap.size)) (fun ti _ => 4 - (intOf ti).toNat)
  case atStart => exact ⟨0, by omega, rfl, ha, Kept.refl _ _, rfl⟩
  case round =>
    clear ha
    obtain ⟨k, hk, rfl, ar, kr, sr⟩ := hrel
    by_cases hlk : k < 4
    · have hc : ∃ y, wr.cell? ⟨b, o + k, none⟩ = some y := ⟨_, by rw [ar.cell, cells_getElem _ _ (by rw [putN_length]; omega)]⟩
      obtain ⟨y, hc⟩ := hc
      have hf := ar.free (o + k)
      have HS : Hid (∀ z : UInt8, Ar (wr.setCell ⟨b, o + k, none⟩ (.int .u8 z.toNat)) b t (cells ((putN bs o x k).set (o + k) z))) := fun z => by
        have := ar.set (o + k) (.int .u8 z.toNat)
        rwa [cells_set] at this
      have HP : Hid (putN bs o x (k + 1) = (putN bs o x k).set (o + k) (UInt8.ofNat (x / 256 ^ (3 - k)))) := rfl
      have HZ : Hid (∀ u, (wr.setCell ⟨b, o + k, none⟩ u).heap.size = wr.heap.size) := fun u => by simp [World.setCell]
      clear ar
      obtain rfl | rfl | rfl | rfl : k = 0 ∨ k = 1 ∨ k = 2 ∨ k = 3 := by omega
      · rw [Nat.add_zero] at hc hf
        go_wp2
        go_roundw
        case rel =>
          refine ⟨1, by omega, by go_num, ?_, kr.setCell (by simp) _, (HZ.out _).trans sr⟩
          rw [HP.out, byte_mod x (256 ^ (3 - 0)) ((x : Int) / 16777216) (by simp; omega)]
          exact HS.out _
        case measure => simp [intOf]
      · go_wp2
        go_roundw
        case rel =>
          refine ⟨2, by omega, by go_num, ?_, kr.setCell (by simp) _, (HZ.out _).trans sr⟩
          rw [HP.out, byte_mod x (256 ^ (3 - 1)) ((x : Int) / 65536 % 256) (by simp)]
          exact HS.out _
        case measure => simp [intOf]
      · go_wp2
        go_roundw
        case rel =>
          refine ⟨3, by omega, by go_num, ?_, kr.setCell (by simp) _, (HZ.out _).trans sr⟩
          rw [HP.out, byte_mod x (256 ^ (3 - 2)) ((x : Int) / 256 % 256) (by simp)]
          exact HS.out _
        case measure => simp [intOf]
      · go_wp2
        go_roundw
        case rel =>
          refine ⟨4, by omega, by go_num, ?_, kr.setCell (by simp) _, (HZ.out _).trans sr⟩
          rw [HP.out, byte_mod x (256 ^ (3 - 3)) ((x : Int) % 256) (by simp)]
          exact HS.out _
        case measure => simp [intOf]
    · have hkl : ¬ (k : Int) < 4 := by omega
      obtain rfl : k = 4 := by omega
      go_wp2
      go_end0
      exact ⟨rfl, ar, kr, sr⟩

end Go.Proofs.Ytmcaoimgmgjjiaa
