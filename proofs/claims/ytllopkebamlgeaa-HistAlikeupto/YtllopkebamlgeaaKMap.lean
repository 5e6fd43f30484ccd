/-
  Maps by texts in memory, whatever their elements.
-/
import Derived.Test.YtllopkebamlgeaaSB
import Derived.Maps.OwnSet
import Derived.Maps.RangeWalk
import Derived.Sort.KeysCollected
namespace Go.Proofs.Ytllopkebamlgeaa
open Go.RowKit Go.Maps Go.Sort

/-- How elements lie in a map, and what they read as. -/
structure Cde (α : Type) where
  enc : α → Value
  dat : α → DataW Unit
  R : Value → Option (DataW Unit × List MemPlace)
  reads : ∀ x, R (enc x) = some (dat x, [])
  inv : ∀ v z, R v = some z → ∃ x, v = enc x ∧ z = (dat x, [])
  inj : ∀ x y, dat x = dat y → x = y

def holdL : List Value → Option (DataW Unit × List MemPlace)
  | [.bool b] => some (.agg [.lit (.bool b)], [])
  | _ => none
def holdR : Value → Option (DataW Unit × List MemPlace)
  | .agg a => holdL a.toList
  | _ => none
theorem holdR_inv (v : Value) (z : DataW Unit × List MemPlace) (h : holdR v = some z) : ∃ x : Bool, v = .agg #[.bool x] ∧ z = (.agg [.lit (.bool x)], []) := by
  unfold holdR at h
  split at h
  · rename_i a
    obtain ⟨l⟩ := a
    unfold holdL at h
    split at h
    · rename_i b e
      simp only at e
      subst e
      exact ⟨b, rfl, by simpa using h.symm⟩
    · cases h
  · cases h
/-- A struct of one truth. -/
def codeH : Cde Bool := ⟨fun b => .agg #[.bool b], fun b => .agg [.lit (.bool b)], holdR, fun _ => rfl, holdR_inv, fun x y h => by simpa using h⟩
theorem unitR_inv (v : Value) (z : DataW Unit × List MemPlace) (h : unitElem v = some z) : ∃ _ : Unit, v = .agg #[] ∧ z = (.agg [], []) := by
  obtain ⟨rfl, rfl⟩ := unitElem_inv h
  exact ⟨(), rfl, rfl⟩
/-- Nothing: a set. -/
def codeU : Cde Unit := ⟨fun _ => .agg #[], fun _ => .agg [], unitElem, fun _ => unitElem_mk, unitR_inv, fun _ _ _ => rfl⟩
def mapD : Option Nat → DataW Unit
  | none => .agg []
  | some b => .lit (.int .i64 (b : Int))
def mapR : Value → Option (DataW Unit × List MemPlace)
  | .map b => some (mapD b, [])
  | _ => none
theorem mapR_inv (v : Value) (z : DataW Unit × List MemPlace) (h : mapR v = some z) : ∃ x, v = .map x ∧ z = (mapD x, []) := by
  unfold mapR at h
  split at h
  · rename_i b
    exact ⟨b, rfl, by simpa using h.symm⟩
  · cases h
theorem mapD_inj (x y : Option Nat) (h : mapD x = mapD y) : x = y := by
  cases x <;> cases y <;> simp [mapD] at h
  · rfl
  · rw [Int.ofNat_inj.1 h]
/-- A map, by its block. -/
def codeM : Cde (Option Nat) := ⟨Value.map, mapD, mapR, fun _ => rfl, mapR_inv, mapD_inj⟩

theorem text_keyed : Maps.Keyed Try.prog 9 := Maps.string_keyed Try.underlying9
theorem text_keyOf {x : List UInt8} (h : x.length ≤ 9223372036854775807) : keyOf Try.prog 9 (.string ⟨x.toArray⟩) = some (.string x) := by
  have := WideMaps.keyOf_string_mk (P := Try.prog) (k := 9) Try.underlying9 (s := ⟨x.toArray⟩) (by simp [ByteArray.size, maxLen]; omega)
  simpa using this
theorem turned_kept {w w' : World} {b : Nat} (h : w.mapTurned w' b) : Kept (· ≠ b) w w' := by
  have g := h.grown
  exact ⟨g.os, g.tape, g.output, g.size, fun k hk hne => g.block k hk (fun e => hne (by cases e; rfl))⟩
theorem turned_same {w w' : World} {b : Nat} (h : w.mapTurned w' b) : w'.heap.size = w.heap.size := by
  obtain ⟨es, clock, es', clock', hb, rfl⟩ := h
  simp [ChangeMaps.setBlock]
theorem strlit_ne {a b : List UInt8} (h : a ≠ b) : (Lit.string a) ≠ (Lit.string b) := by
  intro e; simp at e; exact h e

section
variable {α : Type} {C : Cde α}

/-- The datum has these elements. -/
structure Holds (C : Cde α) (D : DataW Unit) (f : List UInt8 → Option α) : Prop where
  no : ∀ x, f x = none → Maps.has D (.string x) = false
  yes : ∀ x a, f x = some a → ∀ d, D.atKey (.string x) d = C.dat a
/-- Block b is a map with these elements, at most n. -/
def Mp (C : Cde α) (w : World) (b n : Nat) (f : List UInt8 → Option α) : Prop := ∃ D : DataW Unit, w.ownsMap Try.prog 9 C.R b n D ∧ Holds C D f

variable {w w' : World} {b n : Nat} {mb : Option Nat} {f : List UInt8 → Option α}

theorem Mp.lt (h : Mp C w b n f) : b < w.heap.size := by obtain ⟨D, ho, _⟩ := h; exact ho.lt
theorem Mp.isMap (h : Mp C w b n f) : ∃ es clock, w.heap[b]? = some (.map es clock) := by obtain ⟨D, ⟨es, clock, hb, _⟩, _⟩ := h; exact ⟨es, clock, hb⟩
theorem Mp.kept {p : Nat → Prop} (h : Mp C w b n f) (k : Kept p w w') (hp : p b) : Mp C w' b n f := by
  have hlt := h.lt
  obtain ⟨D, ⟨es, clock, hb, r⟩, hh⟩ := h
  exact ⟨D, ⟨es, clock, (k.block b hlt hp).trans hb, r⟩, hh⟩
theorem Mp.mono {m : Nat} (h : Mp C w b n f) (hm : n ≤ m) : Mp C w b m f := by
  obtain ⟨D, ho, hh⟩ := h; exact ⟨D, ho.mono hm, hh⟩
theorem Mp.made (C : Cde α) (w : World) : Mp C (w.alloc (.map #[] 0)) w.heap.size 0 (fun _ => none) :=
  ⟨.map [], World.ownsMap_made _ _ _ _, fun _ _ => rfl, fun _ _ h => by cases h⟩
theorem Mp.congr {g : List UInt8 → Option α} (h : Mp C w b n f) (hg : ∀ x, g x = f x) : Mp C w b n g := by
  obtain rfl : g = f := funext hg
  exact h

theorem Holds.at {D : DataW Unit} (h : Holds C D f) (x : List UInt8) (z : α) : D.atKey (.string x) (C.dat z) = C.dat ((f x).getD z) ∧ Maps.has D (.string x) = (f x).isSome := by
  cases hf : f x with
  | none => exact ⟨Maps.atKey_of_not_has (h.no x hf) _, h.no x hf⟩
  | some a => exact ⟨h.yes x a hf _, Maps.has_true_of_atKey (h.yes x a hf)⟩
/-- v, ok := m[x] -/
theorem Mp.look (h : Mp C w b n f) {t e : TypeId} (ht : Try.prog.underlying t = some (.map 9 e)) {z : α} (hz : (zeroValue e).run Try.prog w = .ok (C.enc z) w) {x : List UInt8} (hx : x.length ≤ 9223372036854775807) :
    (Instr.lookup t (.map (some b)) (.string ⟨x.toArray⟩) true).run Try.prog w = .ok (.tuple #[C.enc ((f x).getD z), .bool (f x).isSome]) w := by
  obtain ⟨D, ho, hh⟩ := h
  obtain ⟨v, ps, hr, hv⟩ := ho.look_ok text_keyed ht hz (C.reads z) (text_keyOf hx)
  rw [(hh.at x z).2] at hr
  rw [(hh.at x z).1] at hv
  obtain ⟨y, rfl, hy⟩ := C.inv _ _ hv
  simp only [Prod.mk.injEq] at hy
  rw [← C.inj _ _ hy.1] at hr
  exact hr
/-- m[x] -/
theorem Mp.look1 (h : Mp C w b n f) {t e : TypeId} (ht : Try.prog.underlying t = some (.map 9 e)) {z : α} (hz : (zeroValue e).run Try.prog w = .ok (C.enc z) w) {x : List UInt8} (hx : x.length ≤ 9223372036854775807) :
    (Instr.lookup t (.map (some b)) (.string ⟨x.toArray⟩) false).run Try.prog w = .ok (C.enc ((f x).getD z)) w := by
  obtain ⟨D, ho, hh⟩ := h
  obtain ⟨v, ps, hr, hv⟩ := ho.lookup text_keyed ht hz (C.reads z) (text_keyOf hx)
  rw [(hh.at x z).1] at hv
  obtain ⟨y, rfl, hy⟩ := C.inv _ _ hv
  simp only [Prod.mk.injEq] at hy
  rw [← C.inj _ _ hy.1] at hr
  exact hr

/-- f with a at x; f without x. -/
def putM (f : List UInt8 → Option α) (x : List UInt8) (a : α) : List UInt8 → Option α := fun y => if y = x then some a else f y
def cutM (f : List UInt8 → Option α) (x : List UInt8) : List UInt8 → Option α := fun y => if y = x then none else f y

theorem Holds.put {D : DataW Unit} (hm : Maps.IsMap D) (h : Holds C D f) (x : List UInt8) (a : α) : Holds C (D.put (.string x) (C.dat a)) (putM f x a) := by
  have hk : WideAt.IsKeyLit (.string x) := trivial
  refine ⟨fun y e => ?_, fun y v e d => ?_⟩
  · unfold putM at e
    split at e
    · cases e
    · rename_i hne
      rw [Maps.has_put_other (strlit_ne hne)]
      exact h.no y e
  · unfold putM at e
    split at e
    · rename_i he
      subst he
      cases e
      exact Maps.atKey_put_same hm hk _ _
    · rename_i hne
      rw [Maps.atKey_put_other (strlit_ne hne)]
      exact h.yes y v e d
theorem Holds.cut {D : DataW Unit} (h : Holds C D f) (x : List UInt8) : Holds C (D.del (.string x)) (cutM f x) := by
  refine ⟨fun y e => ?_, fun y v e d => ?_⟩
  · unfold cutM at e
    split at e
    · rename_i he
      subst he
      exact Maps.has_del_same
    · rename_i hne
      rw [Maps.has_del_other (strlit_ne hne)]
      exact h.no y e
  · unfold cutM at e
    split at e
    · cases e
    · rename_i hne
      rw [Maps.atKey_del_other (strlit_ne hne)]
      exact h.yes y v e d
/-- m[x] = a -/
theorem Mp.store (h : Mp C w b n f) {t e : TypeId} (ht : Try.prog.underlying t = some (.map 9 e)) {x : List UInt8} (hx : x.length ≤ 9223372036854775807) (hn : n ≤ 1000000) (a : α) :
    ∃ w', (Instr.mapUpdate t (.map (some b)) (.string ⟨x.toArray⟩) (C.enc a)).run Try.prog w = .ok () w' ∧ Mp C w' b (n + 1) (putM f x a) ∧ Kept (· ≠ b) w w' ∧ w'.heap.size = w.heap.size := by
  obtain ⟨D, ho, hh⟩ := h
  obtain ⟨w', hr, h1, h2⟩ := ho.store text_keyed ht (by unfold maxLen; omega) (text_keyOf hx) (C.reads a)
  exact ⟨w', hr, ⟨_, h1, hh.put ho.isMap x a⟩, turned_kept h2, turned_same h2⟩
/-- delete(m, x) -/
theorem Mp.drop (h : Mp C w b n f) {t e : TypeId} (ht : Try.prog.underlying t = some (.map 9 e)) {x : List UInt8} (hx : x.length ≤ 9223372036854775807) (ty : TypeId) :
    ∃ w', (Builtin.delete_ #[t, 9] ty #[.map (some b), .string ⟨x.toArray⟩]).run Try.prog w = .ok (.tuple #[]) w' ∧ Mp C w' b n (cutM f x) ∧ Kept (· ≠ b) w w' ∧ w'.heap.size = w.heap.size := by
  obtain ⟨D, ho, hh⟩ := h
  obtain ⟨w', hr, h1, h2⟩ := ho.drop text_keyed ht (text_keyOf hx) ty
  exact ⟨w', hr, ⟨_, h1, hh.cut x⟩, turned_kept h2, turned_same h2⟩
/-- The keys that a map has. -/
theorem keys_of {D : DataW Unit} (ho : w.ownsMap Try.prog 9 C.R b n D) (hh : Holds C D f) : (strKeys D).Nodup ∧ (strKeys D).length = Maps.size D ∧ ∀ x, x ∈ strKeys D ↔ f x ≠ none := by
  obtain ⟨es, hD, hpw, _⟩ := ho.entries text_keyed
  obtain ⟨es', hD', hko⟩ := ho.keysOf
  obtain rfl : es = es' := by rw [hD] at hD'; simpa using hD'
  subst hD
  have hk : ∀ p ∈ es, ∃ x, p.1 = .string x := fun p hp => by obtain ⟨v, hv⟩ := hko p hp; obtain ⟨x, _, hx, _⟩ := Maps.keyOf_str Try.underlying9 hv; exact ⟨x, hx⟩
  refine ⟨?_, by simp [strKeys, Maps.size], fun x => ?_⟩
  · show (es.map fun p => strOf p.1).Nodup
    refine List.pairwise_map.2 (hpw.imp_of_mem fun {p q} hp' hq' hne e => hne ?_)
    obtain ⟨a, ha⟩ := hk p hp'
    obtain ⟨c, hc⟩ := hk q hq'
    rw [ha, hc] at e ⊢
    exact congrArg _ e
  · have e : f x ≠ none ↔ Maps.has (.map es : DataW Unit) (.string x) = true := by
      cases hf : f x with
      | none => rw [hh.no x hf]; simp
      | some a => rw [Maps.has_true_of_atKey (hh.yes x a hf)]; simp
    rw [e, Maps.has_eq, List.any_eq_true]
    show x ∈ es.map (fun p => strOf p.1) ↔ _
    rw [List.mem_map]
    constructor
    · rintro ⟨p, hp', rfl⟩
      obtain ⟨a, ha⟩ := hk p hp'
      exact ⟨p, hp', by rw [ha]; simp [Lit.sameKey, strOf]⟩
    · rintro ⟨p, hp', hs⟩
      obtain ⟨a, ha⟩ := hk p hp'
      rw [ha] at hs
      exact ⟨p, hp', by rw [ha]; simpa [Lit.sameKey, strOf] using hs⟩
/-- How many there are. -/
def Count {α : Type} (f : List UInt8 → Option α) (k : Nat) : Prop := ∃ ks : List (List UInt8), ks.Nodup ∧ ks.length = k ∧ ∀ x, x ∈ ks ↔ f x ≠ none
theorem Count.zero {k : Nat} (h : Count f k) : k = 0 ↔ ∀ x, f x = none := by
  obtain ⟨ks, hd, rfl, hm⟩ := h
  constructor
  · intro h0 x
    have : ks = [] := List.eq_nil_of_length_eq_zero h0
    subst this
    exact Classical.byContradiction fun hx => by simpa using (hm x).2 hx
  · intro h0
    cases ks with
    | nil => rfl
    | cons a l => exact absurd (h0 a) ((hm a).1 (List.mem_cons_self ..))
theorem Count.one (h : Count f 1) : ∃ x, f x ≠ none ∧ ∀ y, f y ≠ none → y = x := by
  obtain ⟨ks, hd, hl, hm⟩ := h
  obtain ⟨x, rfl⟩ := List.length_eq_one_iff.1 hl
  exact ⟨x, (hm x).1 (by simp), fun y hy => by simpa using (hm y).2 hy⟩
/-- If all that is there is at x, there is one at most. -/
theorem Count.few {k : Nat} (h : Count f k) {x : List UInt8} (hx : ∀ y, f y ≠ none → y = x) : k ≤ 1 := by
  obtain ⟨ks, hd, rfl, hm⟩ := h
  match ks with
  | [] => simp
  | [a] => simp
  | a :: a' :: l =>
    have h1 := hx a ((hm a).1 (by simp))
    have h2 := hx a' ((hm a').1 (by simp))
    subst h1
    rw [h2] at hd
    simp at hd
theorem Count.two {k : Nat} (h : Count f k) {x y : List UInt8} (hx : f x ≠ none) (hy : f y ≠ none) (hne : y ≠ x) : 2 ≤ k := by
  obtain ⟨ks, hd, rfl, hm⟩ := h
  have h1 := (hm x).2 hx
  have h2 := (hm y).2 hy
  match ks with
  | [] => simp at h1
  | [a] =>
    simp at h1 h2
    exact absurd (h2.trans h1.symm) hne
  | a :: a' :: l => simp
theorem Count.pos {k : Nat} (h : Count f k) {x : List UInt8} (hx : f x ≠ none) : 1 ≤ k := by
  obtain ⟨ks, hd, rfl, hm⟩ := h
  exact List.length_pos_of_mem ((hm x).2 hx)
theorem Count.none : Count (fun _ => none : List UInt8 → Option α) 0 := ⟨[], by simp, rfl, by simp⟩
/-- len(m) -/
theorem Mp.len (h : Mp C w b n f) {t e : TypeId} (ht : Try.prog.underlying t = some (.map 9 e)) :
    ∃ k, Count f k ∧ k ≤ n ∧ ∀ ty, (Builtin.len_ #[t] ty #[.map (some b)]).run Try.prog w = .ok (.int .i64 (k : Nat)) w := by
  obtain ⟨D, ho, hh⟩ := h
  obtain ⟨h1, h2, h3⟩ := keys_of ho hh
  exact ⟨_, ⟨_, h1, h2, h3⟩, ho.size_le, fun ty => ho.len ht ty⟩
theorem Mp.short (h : Mp C w b n f) {x : List UInt8} (hx : f x ≠ none) : x.length ≤ maxLen := by
  obtain ⟨D, ho, hh⟩ := h
  exact strKeys_le ho Try.underlying9 x (((keys_of ho hh).2.2 x).2 hx)

/-- A map, or nil, with these elements. -/
def Mo (C : Cde α) (w : World) (mb : Option Nat) (n : Nat) (f : List UInt8 → Option α) : Prop := (mb = none ∧ ∀ x, f x = none) ∨ ∃ b, mb = some b ∧ Mp C w b n f
theorem Mo.look (h : Mo C w mb n f) {t e : TypeId} (ht : Try.prog.underlying t = some (.map 9 e)) {z : α} (hz : (zeroValue e).run Try.prog w = .ok (C.enc z) w) {x : List UInt8} (hx : x.length ≤ 9223372036854775807) :
    (Instr.lookup t (.map mb) (.string ⟨x.toArray⟩) true).run Try.prog w = .ok (.tuple #[C.enc ((f x).getD z), .bool (f x).isSome]) w := by
  rcases h with ⟨rfl, h⟩ | ⟨b, rfl, h⟩
  · rw [h x]
    exact Maps.look_nil true text_keyed ht hz (text_keyOf hx)
  · exact h.look ht hz hx
theorem Mo.look1 (h : Mo C w mb n f) {t e : TypeId} (ht : Try.prog.underlying t = some (.map 9 e)) {z : α} (hz : (zeroValue e).run Try.prog w = .ok (C.enc z) w) {x : List UInt8} (hx : x.length ≤ 9223372036854775807) :
    (Instr.lookup t (.map mb) (.string ⟨x.toArray⟩) false).run Try.prog w = .ok (C.enc ((f x).getD z)) w := by
  rcases h with ⟨rfl, h⟩ | ⟨b, rfl, h⟩
  · rw [h x]
    exact Maps.look_nil false text_keyed ht hz (text_keyOf hx)
  · exact h.look1 ht hz hx
theorem Mo.len (h : Mo C w mb n f) {t e : TypeId} (ht : Try.prog.underlying t = some (.map 9 e)) :
    ∃ k, Count f k ∧ k ≤ n ∧ ∀ ty, (Builtin.len_ #[t] ty #[.map mb]).run Try.prog w = .ok (.int .i64 (k : Nat)) w := by
  rcases h with ⟨rfl, h⟩ | ⟨b, rfl, h⟩
  · obtain rfl : f = fun _ => none := funext h
    exact ⟨0, Count.none, Nat.zero_le _, fun ty => Maps.len_nil ht ty⟩
  · exact h.len ht
theorem Mo.kept {p : Nat → Prop} (h : Mo C w mb n f) (k : Kept p w w') (hp : ∀ b, mb = some b → p b) : Mo C w' mb n f := by
  rcases h with h | ⟨b, rfl, h⟩
  · exact .inl h
  · exact .inr ⟨b, rfl, h.kept k (hp b rfl)⟩
end

end Go.Proofs.Ytllopkebamlgeaa
