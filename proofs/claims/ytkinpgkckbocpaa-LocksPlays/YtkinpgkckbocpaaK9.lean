/-
  A table that was made behind w0; the law's known.
-/
import Derived.Test.YtkinpgkckbocpaaK8
namespace Go.Proofs.Ytkinpgkckbocpaa
open Go.RowKit Go.Maps

/-- What is no map is as it was. -/
def Calm (w w' : World) : Prop := Kept (NoMap w) w w'
theorem Calm.of {w w' : World} (k : Kept (fun _ => True) w w') : Calm w w' := k.mono (fun _ _ _ => trivial)
theorem Calm.refl (w : World) : Calm w w := Kept.refl _ _
theorem Calm.trans {a b c : World} (h : Calm a b) (k : Calm b c) : Calm a c :=
  Kept.then h k (fun i hi hp es clock e => hp es clock ((h.block i hi hp).symm.trans e))
theorem Calm.cell {w w' : World} (h : Calm w w') {b o : Nat} {v : Value} (hc : w.cell? ⟨b, o, none⟩ = some v) : w'.cell? ⟨b, o, none⟩ = some v := cell_kept h hc (noMap_cell hc)
theorem Calm.cells {w w' : World} (h : Calm w w') {b : Nat} {cs : Array Value} {ty : TypeId} {fr : Nat × Nat} (hc : w.heap[b]? = some (.cells cs ty fr)) : w'.heap[b]? = some (.cells cs ty fr) := (h.block b (lt_of_block hc) (noMap_cells hc)).trans hc
theorem Calm.wn {w w' : World} (h : Calm w w') {v : Value} {l : List (List UInt8 × Bool)} (a : Wn w v l) : Wn w' v l := a.kept h (fun _ hb => hb)
theorem Calm.txs {w w' : World} (h : Calm w w') {base : Nat} {v : Value} {ss : List (List UInt8)} (a : Txs w base v ss) : Txs w' base v ss := by
  refine ⟨a.1, ?_⟩
  rcases a.2 with h0 | ⟨g, cap, cur, rfl, hb, hh, rest⟩
  · exact .inl h0
  · exact .inr ⟨g, cap, cur, rfl, hb, h.cells hh, rest⟩

/-- A table that was made behind w0. -/
structure TM (w0 w : World) (T n : Nat) (B : Lab → Option Nat) (h : Lk) : Prop where
  tb : Tb w T n B h
  alone : Alone h
  top : w0.heap.size ≤ T
  low : ∀ x k, B x = some k → w0.heap.size ≤ k
  kept : Kept (fun _ => True) w0 w
  short : ∀ c y, h c y ≠ none → c.length ≤ 9223372036854775807 ∧ y.length ≤ 9223372036854775807

section
variable {w0 w w' : World} {T n m : Nat} {B B' : Lab → Option Nat} {h h' : Lk}
theorem TM.all (t : TM w0 w T n B h) (k : Kept (fun _ => True) w w') : TM w0 w' T n B h := ⟨t.tb.all k, t.alone, t.top, t.low, t.kept.trans k, t.short⟩
theorem TM.mono (t : TM w0 w T n B h) (hm : n ≤ m) : TM w0 w T m B h := ⟨Tw.mono t.tb hm, t.alone, t.top, t.low, t.kept, t.short⟩
/-- Something else was written that is none of the table's. -/
theorem TM.beside {p : Nat → Prop} (t : TM w0 w T n B h) (k : Kept p w w') (hT : p T) (hm : ∀ b es clock, w.heap[b]? = some (.map es clock) → p b) (hp : ∀ i, i < w0.heap.size → p i) : TM w0 w' T n B h :=
  ⟨Tw.kept t.tb k hT (fun x b e => by obtain ⟨es, clock, he⟩ := t.tb.isMap e; exact hm b es clock he), t.alone, t.top, t.low, t.kept.then k (fun i hi _ => hp i hi), t.short⟩
theorem TM.calm (t : TM w0 w T n B h) (s : Stp B w w' B') : Calm w w' := s.kept.mono (fun _ _ hi x => t.tb.noMap hi x)
theorem TM.step (t : TM w0 w T n B h) (s : Stp B w w' B') (tb : Tb w' T m B' h') (ha : Alone h') (hs : ∀ c y, h' c y ≠ none → c.length ≤ 9223372036854775807 ∧ y.length ≤ 9223372036854775807) : TM w0 w' T m B' h' := by
  have hz := t.kept.size
  refine ⟨tb, ha, t.top, fun x k e => ?_, t.kept.then s.kept (fun i hi _ x e => ?_), hs⟩
  · rcases s.news x k e with e | e
    · exact t.low x k e
    · omega
  · have := t.low x i e
    omega
end

theorem new_tm {w : World} : Calls Try.prog 8 #[] w fun e w' => ∃ T B, e = .returned (.pointer (some ⟨T, 0, none⟩)) ∧ TM w w' T 0 B (fun _ _ => none) := by
  refine Calls.mono new_any ?_
  rintro e w' ⟨T, B, rfl, tb, h1, h2, k⟩
  exact ⟨T, B, rfl, tb, nobody_alone, h1, h2, k, fun c y e => absurd rfl e⟩
theorem take_tm {w0 w : World} {T n : Nat} {B : Lab → Option Nat} {h : Lk} (t : TM w0 w T n B h) {x : List UInt8} (hx : x.length ≤ 9223372036854775807) {v : Value} {l : List (List UInt8 × Bool)} (hw : Wn w v l) (hl : ∀ z ∈ l, z.1.length ≤ 9223372036854775807) (hn : n + l.length ≤ 1000000) :
    Calls Try.prog 9 #[.pointer (some ⟨T, 0, none⟩), .string ⟨x.toArray⟩, v] w fun e w' => ∃ (r : Int) (h' : Lk) (B' : Lab → Option Nat), e = .returned (.int .i64 r) ∧ Takes h x l r h' ∧ TM w0 w' T (n + l.length) B' h' ∧ Calm w w' := by
  refine Calls.mono (take_any t.tb t.alone hx hw hl hn) ?_
  rintro e w' ⟨r, h', B', rfl, hT, tb, s⟩
  refine ⟨r, h', B', rfl, hT, t.step s tb (hT.alone t.alone) (fun c y hn => ?_), t.calm s⟩
  rcases hT.some hn with h1 | ⟨rfl, z, hz, rfl⟩
  · exact t.short c y h1
  · exact ⟨hl z hz, hx⟩
theorem free_tm {w0 w : World} {T n : Nat} {B : Lab → Option Nat} {h : Lk} (t : TM w0 w T n B h) {x : List UInt8} (hx : x.length ≤ 9223372036854775807) (hn : n ≤ 1000000) :
    Calls Try.prog 15 #[.pointer (some ⟨T, 0, none⟩), .string ⟨x.toArray⟩] w fun e w' => ∃ (q : Bool) (B' : Lab → Option Nat), e = .returned (.bool q) ∧ (q = true ↔ Some1 h x) ∧ TM w0 w' T n B' (freed h x) ∧ Calm w w' := by
  refine Calls.mono (free_any t.tb hx hn (fun c y hc => (t.short c y hc).1)) ?_
  rintro e w' ⟨q, B', rfl, hq, tb, s⟩
  exact ⟨q, B', rfl, hq, t.step s tb (freed_alone t.alone x) (fun c y hn => t.short c y (freed_none.1 hn).1), t.calm s⟩

/-- Rows of Wants that were made just now. -/
theorem Wn.one {w : World} {g cap : Nat} {c : List UInt8} {wt : Bool} {ty : TypeId} {fr : Nat × Nat} (h : w.heap[g]? = some (.cells #[.string ⟨c.toArray⟩, .bool wt] ty fr)) : Wn w (.slice (some ⟨g, 0, none⟩) 1 cap) [(c, wt)] := by
  refine ⟨_, _, rfl, fun _ => ⟨g, 0, rfl, fun i hi => ?_⟩⟩
  have : i = 0 := by simp at hi; omega
  subst this
  exact ⟨by simp [World.cell?, h], by simp [World.cell?, h]⟩
theorem Wn.two {w : World} {g cap : Nat} {c d : List UInt8} {wt wu : Bool} {ty : TypeId} {fr : Nat × Nat} (h : w.heap[g]? = some (.cells #[.string ⟨c.toArray⟩, .bool wt, .string ⟨d.toArray⟩, .bool wu] ty fr)) : Wn w (.slice (some ⟨g, 0, none⟩) 2 cap) [(c, wt), (d, wu)] := by
  refine ⟨_, _, rfl, fun _ => ⟨g, 0, rfl, fun i hi => ?_⟩⟩
  have : i = 0 ∨ i = 1 := by simp at hi; omega
  rcases this with rfl | rfl
  · exact ⟨by simp [World.cell?, h], by simp [World.cell?, h]⟩
  · exact ⟨by simp [World.cell?, h], by simp [World.cell?, h]⟩
theorem Takes.ok {h h' : Lk} {x : List UInt8} {l : List (List UInt8 × Bool)} {r : Int} (t : Takes h x l r h') (hx : x ≠ []) (hn : ∀ z ∈ l, ¬ Ill h x z.1 z.2) : r = 0 ∧ h' = gives h x l := by
  rcases t with ⟨h1, _⟩ | ⟨_, ⟨z, hz, h1⟩, _⟩ | ⟨_, _, h1⟩
  · exact absurd h1 hx
  · exact absurd h1 (hn z hz)
  · exact h1
theorem Takes.busy {h h' : Lk} {x : List UInt8} {l : List (List UInt8 × Bool)} {r : Int} (t : Takes h x l r h') (hx : x ≠ []) (hn : ∃ z ∈ l, Ill h x z.1 z.2) : r = 35 ∧ h' = h := by
  obtain ⟨z, hz, hi⟩ := hn
  rcases t with ⟨h1, _⟩ | ⟨_, _, h1⟩ | ⟨_, h1, _⟩
  · exact absurd h1 hx
  · exact h1
  · exact absurd hi (h1 z hz)
theorem not_ill_free {h : Lk} {x c : List UInt8} (hc : ∀ y, y ≠ x → h c y = none) (wt : Bool) : ¬ Ill h x c wt := by
  rintro ⟨y, v, h1, h2, _⟩
  rw [hc y h1] at h2
  cases h2
theorem not_ill_read {h : Lk} {x c : List UInt8} (hc : ∀ y, y ≠ x → h c y ≠ some true) : ¬ Ill h x c false := by
  rintro ⟨y, v, h1, h2, rfl | h3⟩
  · exact hc y h1 h2
  · cases h3

set_option maxRecDepth 100000 in
set_option maxHeartbeats 1000000 in
theorem known_any {w : World} : Calls Try.prog 16 #[] w fun e w' => e = .returned (.bool true) ∧ Kept (fun _ => True) w w' := by
  have cn := new_tm (w := w)
  go_enter Try.func16, Try.ntmps16
  go_wp2_with fail
  refine Calls.mono cn ?_
  rintro e w1 ⟨T, B1, rfl, t1⟩
  clear cn
  have a1 := t1.all (w' := w1.alloc (.cells #[.string ⟨#[120]⟩, .bool true] 27)) ((Kept.refl _ _).alloc _)
  have c2 := take_tm a1 (x := [97]) (by decide) (Wn.one (cap := 1) (c := [120]) (wt := true) (heap_alloc_new w1 _)) (by simp) (by simp)
  clear t1 a1
  go_wp2_with fail
  refine Calls.mono c2 ?_
  rintro e w2 ⟨r1, h1, B2, rfl, hT1, t2, -⟩
  clear c2
  obtain ⟨rfl, rfl⟩ := hT1.ok (by decide) (fun z _ => not_ill_free (fun _ _ => rfl) _)
  clear hT1
  have a2 := t2.all (w' := w2.alloc (.cells #[.string ⟨#[120]⟩, .bool false] 27)) ((Kept.refl _ _).alloc _)
  have c3 := take_tm a2 (x := [98]) (by decide) (Wn.one (cap := 1) (c := [120]) (wt := false) (heap_alloc_new w2 _)) (by simp) (by simp)
  clear t2 a2
  go_wp2_with fail
  refine Calls.mono c3 ?_
  rintro e w3 ⟨r2, h2, B3, rfl, hT2, t3, -⟩
  clear c3
  obtain ⟨rfl, rfl⟩ := hT2.busy (by decide) ⟨_, List.mem_cons_self .., [97], true, by decide, by simp [gives, give], .inl rfl⟩
  clear hT2
  have c4 := free_tm t3 (x := [97]) (by decide) (by simp)
  clear t3
  go_wp2_with fail
  refine Calls.mono c4 ?_
  rintro e w4 ⟨q, B4, rfl, hq, t4, -⟩
  clear c4
  obtain rfl : q = true := hq.2 ⟨[120], by simp [gives, give]⟩
  clear hq
  have a4 := t4.all (w' := w4.alloc (.cells #[.string ⟨#[120]⟩, .bool false] 27)) ((Kept.refl _ _).alloc _)
  have c5 := take_tm a4 (x := [98]) (by decide) (Wn.one (cap := 1) (c := [120]) (wt := false) (heap_alloc_new w4 _)) (by simp) (by simp)
  clear t4 a4
  go_wp2_with fail
  refine Calls.mono c5 ?_
  rintro e w5 ⟨r3, h3, B5, rfl, hT3, t5, -⟩
  clear c5
  obtain ⟨rfl, -⟩ := hT3.ok (by decide) (fun z hz => not_ill_free (fun y _ => by
    simp at hz
    subst hz
    unfold freed
    split
    · rfl
    · rename_i hne
      simp [gives, give, hne]) _)
  have HK : Hid (Kept (fun _ => True) w w5) := t5.kept
  clear hT3 t5
  go_wp2_with fail
  go_ret
  exact ⟨rfl, HK.out⟩

end Go.Proofs.Ytkinpgkckbocpaa
