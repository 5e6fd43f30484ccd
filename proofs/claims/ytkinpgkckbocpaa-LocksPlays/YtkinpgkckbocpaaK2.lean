/-
  A table of locks in memory; New, others, Holders, Held, All.
-/
import Derived.Test.YtkinpgkckbocpaaK1
import Derived.Test.YtkinpgkckbocpaaKPlain
namespace Go.Proofs.Ytkinpgkckbocpaa
open Go.RowKit

/-- Which map of a table: by cases or by transactions; the whole, or one's own. -/
abbrev Lab := Bool × Option (List UInt8)
/-- One side of a table. -/
structure Sd {α : Type} (C : Code α) (s : Bool) (w : World) (n : Nat) (B : Lab → Option Nat) (f : List UInt8 → List UInt8 → Option α) : Prop where
  out : ∃ b, B (s, none) = some b ∧ Mp codeM w b n (fun x => (B (s, some x)).map some)
  inn : ∀ x b, B (s, some x) = some b → Mp C w b n (f x)
  non : ∀ x, B (s, some x) = none → ∀ y, f x y = none
  any : ∀ x b, B (s, some x) = some b → ∃ y, f x y ≠ none
/-- A table in block T, whose maps are in the blocks B: f by cases, g by transactions. -/
structure Tw (w : World) (T n : Nat) (B : Lab → Option Nat) (f : Lk) (g : List UInt8 → List UInt8 → Option Unit) : Prop where
  self : ∃ H D, B (false, none) = some H ∧ B (true, none) = some D ∧ w.heap[T]? = some (.cells #[.map (some H), .map (some D)] 54 (0, 0))
  left : Sd codeH false w n B f
  right : Sd codeU true w n B g
  apart : ∀ x y b, B x = some b → B y = some b → x = y
/-- Who holds what, by transactions. -/
def flip (h : Lk) : List UInt8 → List UInt8 → Option Unit := fun y c => (h c y).map (fun _ => ())
/-- A table as it stands between calls. -/
def Tb (w : World) (T n : Nat) (B : Lab → Option Nat) (h : Lk) : Prop := Tw w T n B h (flip h)
/-- What a call that turns a table leaves. -/
structure Stp (B : Lab → Option Nat) (w w' : World) (B' : Lab → Option Nat) : Prop where
  kept : Kept (fun k => ∀ x, B x ≠ some k) w w'
  news : ∀ x k, B' x = some k → B x = some k ∨ w.heap.size ≤ k

theorem flip_none {h : Lk} {y c : List UInt8} : flip h y c ≠ none ↔ h c y ≠ none := by
  unfold flip
  cases h c y <;> simp
theorem Stp.refl (B : Lab → Option Nat) (w : World) : Stp B w w B := ⟨Kept.refl _ _, fun _ _ h => .inl h⟩
theorem Stp.trans {B B' B'' : Lab → Option Nat} {w w' w'' : World} (a : Stp B w w' B') (b : Stp B' w' w'' B'') : Stp B w w'' B'' := by
  refine ⟨a.kept.then b.kept fun i hi hp x e => ?_, fun x k e => ?_⟩
  · rcases a.news x i e with h | h
    · exact hp x h
    · omega
  · have := a.kept.size
    rcases b.news x k e with h | h
    · exact a.news x k h
    · exact .inr (by omega)
theorem Stp.of (B : Lab → Option Nat) {w w' : World} (k : Kept (fun _ => True) w w') : Stp B w w' B := ⟨k.mono (fun _ _ _ => trivial), fun _ _ h => .inl h⟩
theorem Stp.then {B B' : Lab → Option Nat} {w w' w'' : World} (a : Stp B w w' B') (k : Kept (fun _ => True) w' w'') : Stp B w w'' B' := a.trans (Stp.of B' k)

section
variable {α : Type} {C : Code α} {s : Bool} {w w' : World} {n : Nat} {B : Lab → Option Nat} {f : List UInt8 → List UInt8 → Option α}
theorem Sd.lt (h : Sd C s w n B f) {x : Option (List UInt8)} {b : Nat} (hb : B (s, x) = some b) : b < w.heap.size := by
  cases x with
  | none =>
    obtain ⟨b', e, m⟩ := h.out
    rw [hb] at e
    cases e
    exact m.lt
  | some x => exact (h.inn x b hb).lt
theorem Sd.inner (h : Sd C s w n B f) (x : List UInt8) : Mo C w (B (s, some x)) n (f x) := by
  cases e : B (s, some x) with
  | none => exact .inl ⟨rfl, h.non x e⟩
  | some b => exact .inr ⟨b, rfl, h.inn x b e⟩
theorem Sd.kept {p : Nat → Prop} (h : Sd C s w n B f) (k : Kept p w w') (hp : ∀ x b, B (s, x) = some b → p b) : Sd C s w' n B f := by
  obtain ⟨b, e, m⟩ := h.out
  exact ⟨⟨b, e, m.kept k (hp _ b e)⟩, fun x b e => (h.inn x b e).kept k (hp _ b e), h.non, h.any⟩
theorem Sd.mono {m : Nat} (h : Sd C s w n B f) (hm : n ≤ m) : Sd C s w m B f := by
  obtain ⟨b, e, q⟩ := h.out
  exact ⟨⟨b, e, q.mono hm⟩, fun x b e => (h.inn x b e).mono hm, h.non, h.any⟩
theorem Sd.whole (h : Sd C s w n B f) {b : Nat} (hb : B (s, none) = some b) : Mp codeM w b n (fun x => (B (s, some x)).map some) := by
  obtain ⟨b', e, m⟩ := h.out
  rw [hb] at e
  cases e
  exact m
/-- m[x], the map of a side -/
theorem Sd.look1 (h : Sd C s w n B f) {b : Nat} (hb : B (s, none) = some b) {t e : TypeId} (ht : Try.prog.underlying t = some (.map 9 e)) (hz : (zeroValue e).run Try.prog w = .ok (.map none) w) {x : List UInt8} (hx : x.length ≤ 9223372036854775807) :
    (Instr.lookup t (.map (some b)) (.string ⟨x.toArray⟩) false).run Try.prog w = .ok (.map (B (s, some x))) w := by
  have := (h.whole hb).look1 ht (z := none) hz hx
  have e : ((B (s, some x)).map some).getD none = B (s, some x) := by cases B (s, some x) <;> rfl
  rw [e] at this
  exact this
theorem Sd.look (h : Sd C s w n B f) {b : Nat} (hb : B (s, none) = some b) {t e : TypeId} (ht : Try.prog.underlying t = some (.map 9 e)) (hz : (zeroValue e).run Try.prog w = .ok (.map none) w) {x : List UInt8} (hx : x.length ≤ 9223372036854775807) :
    (Instr.lookup t (.map (some b)) (.string ⟨x.toArray⟩) true).run Try.prog w = .ok (.tuple #[.map (B (s, some x)), .bool (B (s, some x)).isSome]) w := by
  have := (h.whole hb).look ht (z := none) hz hx
  have e : ((B (s, some x)).map some).getD none = B (s, some x) := by cases B (s, some x) <;> rfl
  rw [e, Option.isSome_map] at this
  exact this
theorem Sd.has (h : Sd C s w n B f) (x : List UInt8) : B (s, some x) ≠ none ↔ ∃ y, f x y ≠ none := by
  constructor
  · intro e
    obtain ⟨b, hb⟩ := Option.ne_none_iff_exists'.1 e
    exact h.any x b hb
  · rintro ⟨y, hy⟩ e
    exact hy (h.non x e y)
end

theorem zeroMapH (w : World) : (zeroValue 57).run Try.prog w = .ok (.map none) w := by kernel_rfl
theorem zeroMapU (w : World) : (zeroValue 63).run Try.prog w = .ok (.map none) w := by kernel_rfl
theorem zeroHold (w : World) : (zeroValue 59).run Try.prog w = .ok (.agg #[.bool false]) w := by kernel_rfl
theorem zeroUnit (w : World) : (zeroValue 62).run Try.prog w = .ok (.agg #[]) w := by kernel_rfl
theorem tcell {w : World} {b : Nat} {x y : Value} {t : TypeId} (h : w.heap[b]? = some (.cells #[x, y] t (0, 0))) : w.cell? ⟨b, 0, none⟩ = some x ∧ w.cell? ⟨b, 1, none⟩ = some y := by
  exact ⟨by simp [World.cell?, h], by simp [World.cell?, h]⟩

section
variable {w w' : World} {T n : Nat} {B : Lab → Option Nat} {f h : Lk} {g : List UInt8 → List UInt8 → Option Unit}
theorem Tw.tlt (t : Tw w T n B f g) : T < w.heap.size := by
  obtain ⟨H, D, _, _, hs⟩ := t.self
  exact lt_of_block hs
theorem Tw.lt (t : Tw w T n B f g) {x : Lab} {b : Nat} (hb : B x = some b) : b < w.heap.size := by
  obtain ⟨s, x⟩ := x
  cases s
  · exact t.left.lt hb
  · exact t.right.lt hb
theorem Tw.isMap (t : Tw w T n B f g) {x : Lab} {b : Nat} (hb : B x = some b) : ∃ es clock, w.heap[b]? = some (.map es clock) := by
  obtain ⟨s, x⟩ := x
  cases s
  · cases x with
    | none => exact (t.left.whole hb).isMap
    | some x => exact (t.left.inn x b hb).isMap
  · cases x with
    | none => exact (t.right.whole hb).isMap
    | some x => exact (t.right.inn x b hb).isMap
/-- What is no map is none of the table's. -/
theorem Tw.notMine (t : Tw w T n B f g) {k : Nat} {cs : Array Value} {ty : TypeId} {fr : Nat × Nat} (hk : w.heap[k]? = some (.cells cs ty fr)) (x : Lab) : B x ≠ some k := by
  intro e
  obtain ⟨es, clock, he⟩ := t.isMap e
  rw [hk] at he
  simp at he
theorem Tw.self_ne (t : Tw w T n B f g) (x : Lab) : B x ≠ some T := by
  obtain ⟨H, D, _, _, hs⟩ := t.self
  exact t.notMine hs x
theorem Tw.kept {p : Nat → Prop} (t : Tw w T n B f g) (k : Kept p w w') (hT : p T) (hp : ∀ x b, B x = some b → p b) : Tw w' T n B f g := by
  have hl := t.tlt
  obtain ⟨H, D, hH, hD, hs⟩ := t.self
  exact ⟨⟨H, D, hH, hD, (k.block T hl hT).trans hs⟩, t.left.kept k (fun x b e => hp _ b e), t.right.kept k (fun x b e => hp _ b e), t.apart⟩
theorem Tw.all (t : Tw w T n B f g) (k : Kept (fun _ => True) w w') : Tw w' T n B f g := t.kept k trivial (fun _ _ _ => trivial)
theorem Tw.mono {m : Nat} (t : Tw w T n B f g) (hm : n ≤ m) : Tw w T m B f g := ⟨t.self, t.left.mono hm, t.right.mono hm, t.apart⟩
theorem Tb.all (t : Tb w T n B h) (k : Kept (fun _ => True) w w') : Tb w' T n B h := Tw.all t k
theorem Tb.short (t : Tb w T n B h) {c y : List UInt8} (hn : h c y ≠ none) : c.length ≤ maxLen ∧ y.length ≤ maxLen := by
  refine ⟨?_, ?_⟩
  · obtain ⟨H, hH, m⟩ := t.left.out
    refine m.short (x := c) ?_
    have := (t.left.has c).2 ⟨y, hn⟩
    cases e : B (false, some c) with
    | none => exact absurd e this
    | some b => simp
  · obtain ⟨D, hD, m⟩ := t.right.out
    refine m.short (x := y) ?_
    have := (t.right.has y).2 ⟨c, flip_none.2 hn⟩
    cases e : B (true, some y) with
    | none => exact absurd e this
    | some b => simp
end

set_option maxHeartbeats 400000 in
theorem new_any {w : World} : Calls Try.prog 8 #[] w fun e w' => ∃ T B, e = .returned (.pointer (some ⟨T, 0, none⟩)) ∧ Tb w' T 0 B (fun _ _ => none) ∧ w.heap.size ≤ T ∧ (∀ x k, B x = some k → w.heap.size ≤ k) ∧ Kept (fun _ => True) w w' := by
  have hmm := @run_makeMap Try.prog
  have HH : Hid (Mp codeM (w.alloc (.map #[] 0)) w.heap.size 0 (fun _ => none)) := Mp.made codeM w
  have HD : Hid (Mp codeM ((w.alloc (.map #[] 0)).alloc (.map #[] 0)) (w.alloc (.map #[] 0)).heap.size 0 (fun _ => none)) := Mp.made codeM _
  go_enter Try.func8, Try.ntmps8
  go_wp2_with fail
  go_ret
  have hsz : (w.alloc (.map #[] 0)).heap.size = w.heap.size + 1 := by simp
  have hH := HH.out
  have hD := HD.out
  have hT := heap_alloc_new ((w.alloc (.map #[] 0)).alloc (.map #[] 0)) (.cells #[.map (some w.heap.size), .map (some (w.heap.size + 1))] 54)
  rw [show ((w.alloc (.map #[] 0)).alloc (.map #[] 0)).heap.size = w.heap.size + 1 + 1 by simp] at hT
  have k1 : ∀ (W : World) (o : Obj), Kept (fun _ => True) W (W.alloc o) := fun W o => (Kept.refl _ _).alloc o
  refine ⟨_, fun x => match x with | (false, none) => some w.heap.size | (true, none) => some (w.heap.size + 1) | _ => none, rfl, ⟨⟨_, _, rfl, rfl, hT⟩, ⟨⟨_, rfl, ?_⟩, ?_, ?_, ?_⟩, ⟨⟨_, rfl, ?_⟩, ?_, ?_, ?_⟩, ?_⟩, ?_, ?_, ((k1 w _).trans (k1 _ _)).trans (k1 _ _)⟩
  · exact (hH.kept (k1 _ _) trivial).kept (k1 _ _) trivial
  · exact fun x b e => by cases e
  · exact fun x _ y => rfl
  · exact fun x b e => by cases e
  · rw [hsz] at hD
    exact hD.kept (k1 _ _) trivial
  · exact fun x b e => by cases e
  · exact fun x _ y => rfl
  · exact fun x b e => by cases e
  · rintro ⟨_ | _, _ | x⟩ ⟨_ | _, _ | y⟩ b h1 h2 <;> simp at h1 h2 <;> first | rfl | omega
  · omega
  · rintro ⟨_ | _, _ | x⟩ k h1 <;> simp at h1 <;> omega

set_option maxHeartbeats 400000 in
theorem holders_any {w : World} {T n : Nat} {B : Lab → Option Nat} {h : Lk} (t : Tb w T n B h) {c : List UInt8} (hc : c.length ≤ 9223372036854775807) (hn : n ≤ 1000000) :
    Calls Try.prog 12 #[.pointer (some ⟨T, 0, none⟩), .string ⟨c.toArray⟩] w fun e w' => ∃ v us, e = .returned v ∧ Hol h c us ∧ us.length ≤ n ∧ Txs w' w.heap.size v us ∧ Kept (fun _ => True) w w' := by
  obtain ⟨H, D, hH, hD, hs⟩ := t.self
  obtain ⟨c0, c1⟩ := tcell hs
  have hl := t.left.look1 hH Try.underlying51 (zeroMapH w) hc
  have co := inOrder_hold (t.left.inner c) hn
  clear t hs
  go_enter Try.func12, Try.ntmps12
  go_wp2_with fail
  refine Calls.mono co ?_
  rintro e w1 ⟨v, us, rfl, h1, h2, h3, h4, h5⟩
  clear co
  go_wp2_with fail
  go_ret
  exact ⟨_, us, rfl, ⟨h1, h2⟩, h3, h4, h5⟩

set_option maxHeartbeats 400000 in
theorem held_any {w : World} {T n : Nat} {B : Lab → Option Nat} {h : Lk} (t : Tb w T n B h) {x : List UInt8} (hx : x.length ≤ 9223372036854775807) (hn : n ≤ 1000000) :
    Calls Try.prog 13 #[.pointer (some ⟨T, 0, none⟩), .string ⟨x.toArray⟩] w fun e w' => ∃ v us, e = .returned v ∧ Hel h x us ∧ us.length ≤ n ∧ Txs w' w.heap.size v us ∧ Kept (fun _ => True) w w' := by
  obtain ⟨H, D, hH, hD, hs⟩ := t.self
  obtain ⟨c0, c1⟩ := tcell hs
  have hl := t.right.look1 hD Try.underlying52 (zeroMapU w) hx
  have co := inOrder_unit (t.right.inner x) hn
  clear t hs
  go_enter Try.func13, Try.ntmps13
  go_wp2_with fail
  refine Calls.mono co ?_
  rintro e w1 ⟨v, us, rfl, h1, h2, h3, h4, h5⟩
  clear co
  go_wp2_with fail
  go_ret
  exact ⟨_, us, rfl, ⟨h1, fun c => by rw [h2 c, flip_none]⟩, h3, h4, h5⟩

set_option maxHeartbeats 400000 in
theorem all_any {w : World} {T n : Nat} {B : Lab → Option Nat} {h : Lk} (t : Tb w T n B h) (hn : n ≤ 1000000) :
    Calls Try.prog 14 #[.pointer (some ⟨T, 0, none⟩)] w fun e w' => ∃ v us, e = .returned v ∧ Als h us ∧ us.length ≤ n ∧ Txs w' w.heap.size v us ∧ Kept (fun _ => True) w w' := by
  obtain ⟨H, D, hH, hD, hs⟩ := t.self
  obtain ⟨c0, c1⟩ := tcell hs
  have co := inOrder_map (.inr ⟨D, rfl, t.right.whole hD⟩) hn
  have HA : Hid (∀ y, (B (true, some y)).map some ≠ none ↔ ∃ c, h c y ≠ none) := fun y => by
    have e : (B (true, some y)).map some ≠ none ↔ B (true, some y) ≠ none := by cases B (true, some y) <;> simp
    rw [e, t.right.has y]
    exact ⟨fun ⟨c, hc⟩ => ⟨c, flip_none.1 hc⟩, fun ⟨c, hc⟩ => ⟨c, flip_none.2 hc⟩⟩
  clear t hs
  go_enter Try.func14, Try.ntmps14
  go_wp2_with fail
  refine Calls.mono co ?_
  rintro e w1 ⟨v, us, rfl, h1, h2, h3, h4, h5⟩
  clear co
  go_wp2_with fail
  go_ret
  exact ⟨_, us, rfl, ⟨h1, fun y => by rw [h2 y]; exact HA.out y⟩, h3, h4, h5⟩

end Go.Proofs.Ytkinpgkckbocpaa
