/-
  read: the first word from a place on.
-/
import Derived.Test.YtnddpalngjmhnaaDoorQ2
import Derived.Lib.SmallJoins
import Derived.Laws.DeepStrings4
namespace Go.Proofs.YtnddpalngjmhnaaDoor
open Go.RowKit

theorem Tryd.infoWord : (Tryd.prog.info? 117).map (·.size) = some 4 := by
  have h : (Tryd.prog.info? 117).map (fun i => i.size) = some 4 := by kernel_rfl
  exact h
theorem results_word {fn : Func} {p : Nat} (h : fn.results = #[.cell p 117]) (tmps : Array Value) (w : World) {g : Nat} {x y z u : Value} {t : TypeId} {fr : Nat × Nat} (hp : tmps.getD p undef = .pointer (some ⟨g, 0, none⟩)) (hg : w.heap[g]? = some (.cells #[x, y, z, u] t fr)) :
    (results fn tmps).run Tryd.prog w = .ok (.agg #[x, y, z, u]) w :=
  results_cell_row h tmps w g t #[x, y, z, u] fr _ hp hg Tryd.underlying117 rfl Tryd.infoWord

/-- The frame of read. -/
def Fr (s : List UInt8) (R B i dg : Nat) (a : Act) : Prop :=
  ∃ u : Nat → Value, a = { tmps := List.toArray (.string ⟨s.toArray⟩ :: .int .i64 (i : Nat) :: u 2 :: u 3 :: .pointer (some ⟨R, 0, none⟩) :: .pointer (some ⟨B, 0, none⟩) :: .int .i64 (dg : Nat) :: u 7 :: u 8 :: u 9 :: u 10 :: u 11 :: u 12 :: u 13 :: u 14 :: u 15 :: u 16 :: u 17 :: u 18 :: u 19 :: u 20 :: u 21 :: u 22 :: u 23 :: u 24 :: u 25 :: u 26 :: u 27 :: u 28 :: u 29 :: u 30 :: u 31 :: u 32 :: u 33 :: u 34 :: u 35 :: u 36 :: u 37 :: u 38 :: u 39 :: u 40 :: u 41 :: u 42 :: u 43 :: u 44 :: u 45 :: u 46 :: u 47 :: u 48 :: u 49 :: u 50 :: u 51 :: u 52 :: u 53 :: u 54 :: u 55 :: u 56 :: u 57 :: u 58 :: u 59 :: u 60 :: u 61 :: u 62 :: u 63 :: u 64 :: u 65 :: u 66 :: u 67 :: u 68 :: u 69 :: u 70 :: u 71 :: u 72 :: u 73 :: u 74 :: u 75 :: u 76 :: u 77 :: u 78 :: u 79 :: u 80 :: u 81 :: u 82 :: u 83 :: u 84 :: u 85 :: u 86 :: u 87 :: u 88 :: u 89 :: u 90 :: u 91 :: u 92 :: u 93 :: u 94 :: u 95 :: u 96 :: u 97 :: u 98 :: u 99 :: u 100 :: u 101 :: u 102 :: u 103 :: u 104 :: u 105 :: u 106 :: u 107 :: u 108 :: u 109 :: u 110 :: u 111 :: []), defers := [] }
set_option maxRecDepth 100000 in
theorem arr112 (u : Nat → Value) : ((List.range 112).map u).toArray = List.toArray (u 0 :: u 1 :: u 2 :: u 3 :: u 4 :: u 5 :: u 6 :: u 7 :: u 8 :: u 9 :: u 10 :: u 11 :: u 12 :: u 13 :: u 14 :: u 15 :: u 16 :: u 17 :: u 18 :: u 19 :: u 20 :: u 21 :: u 22 :: u 23 :: u 24 :: u 25 :: u 26 :: u 27 :: u 28 :: u 29 :: u 30 :: u 31 :: u 32 :: u 33 :: u 34 :: u 35 :: u 36 :: u 37 :: u 38 :: u 39 :: u 40 :: u 41 :: u 42 :: u 43 :: u 44 :: u 45 :: u 46 :: u 47 :: u 48 :: u 49 :: u 50 :: u 51 :: u 52 :: u 53 :: u 54 :: u 55 :: u 56 :: u 57 :: u 58 :: u 59 :: u 60 :: u 61 :: u 62 :: u 63 :: u 64 :: u 65 :: u 66 :: u 67 :: u 68 :: u 69 :: u 70 :: u 71 :: u 72 :: u 73 :: u 74 :: u 75 :: u 76 :: u 77 :: u 78 :: u 79 :: u 80 :: u 81 :: u 82 :: u 83 :: u 84 :: u 85 :: u 86 :: u 87 :: u 88 :: u 89 :: u 90 :: u 91 :: u 92 :: u 93 :: u 94 :: u 95 :: u 96 :: u 97 :: u 98 :: u 99 :: u 100 :: u 101 :: u 102 :: u 103 :: u 104 :: u 105 :: u 106 :: u 107 :: u 108 :: u 109 :: u 110 :: u 111 :: []) := by
  kernel_rfl
theorem Fr.mk' {s : List UInt8} {R B i dg : Nat} {t : Array Value} (hn : t.size = 112) (h0 : t.getD 0 undef = .string ⟨s.toArray⟩) (h1 : t.getD 1 undef = .int .i64 (i : Nat)) (h4 : t.getD 4 undef = .pointer (some ⟨R, 0, none⟩)) (h5 : t.getD 5 undef = .pointer (some ⟨B, 0, none⟩)) (h6 : t.getD 6 undef = .int .i64 (dg : Nat)) : Fr s R B i dg { tmps := t, defers := [] } := by
  refine ⟨fun j => t.getD j undef, ?_⟩
  congr 1
  rw [← h0, ← h1, ← h4, ← h5, ← h6]
  refine Eq.trans ?_ (arr112 fun j => t.getD j undef)
  refine Array.ext (by simp [hn]) fun j hj hj' => ?_
  simp [Array.getD, hj]

/-- What is known at each label: m: how far it is to the end. -/
def Rs (s : List UInt8) (p m l i q k : Nat) (n : Int) (dg : Nat) : Prop :=
  (l = 0 ∧ m = 6 * (s.length - i) + 5 ∧ p ≤ i ∧ i ≤ s.length ∧ Wo s p = Wo s i ∧ k = 0 ∧ q = 0 ∧ n = 0 ∧ dg = 0) ∨
  (l = 3 ∧ m = 6 * (s.length - i) + 4 ∧ ∃ e, At1 s p q e ∧ Dg s q e dg ∧ dg ≤ i ∧ i ≤ e ∧ i ≤ dg + 4 ∧ (tex s dg i).all isD = true ∧ k = 0 ∧ n = digs (tex s dg i)) ∨
  (l = 2 ∧ m = 6 * (s.length - i) + 3 ∧ ∃ e, At1 s p q e ∧ q ≤ i ∧ i ≤ e ∧ (tex s q i).all isL = true ∧ (∀ h : q < s.length, isL s[q] = true) ∧ k = 0 ∧ n = 0) ∨
  (l = 4 ∧ m = 6 * (s.length - i) + 2 ∧ ∃ e, At1 s p q e ∧ q ≤ i ∧ i ≤ e ∧ kd (tex s q e) = 1) ∨
  (l = 5 ∧ m = 6 * (s.length - i) + 1 ∧ ∃ e, At1 s p q e ∧ q ≤ i ∧ i ≤ e ∧ (i = e → k = kd (tex s q e) ∧ (k = 2 → n = num (tex s q e))) ∧ (i < e → kd (tex s q e) = 1)) ∨
  (l = 1 ∧ m = 6 * (s.length - i) ∧ ((q = s.length ∧ i = s.length ∧ k = 0 ∧ Wo s p = []) ∨ ∃ e, At1 s p q e ∧ i = e ∧ k = kd (tex s q e) ∧ (k = 2 → n = num (tex s q e))))

/-- The two words of read in memory: what it answers, and what it has so far. -/
structure Mm (w0 w : World) (k q t n : Int) : Prop where
  kept : Kept (fun _ => True) w0 w
  res : w.heap[w0.heap.size]? = some (.cells #[.int .i64 0, .int .i64 0, .int .i64 0, .int .i64 0] 117 (0, 0))
  cur : w.heap[w0.heap.size + 1]? = some (.cells #[.int .i64 k, .int .i64 q, .int .i64 t, .int .i64 n] 117 (0, 0))
theorem set_word {w : World} {b : Nat} {cs : Array Value} {t : TypeId} {fr : Nat × Nat} (h : w.heap[b]? = some (.cells cs t fr)) (k : Nat) (u : Value) :
    (w.setCell ⟨b, k, none⟩ u).heap[b]? = some (.cells (cs.setIfInBounds k u) t fr) := Go.Joins.block_setCell h u
theorem Mm.set {w0 w : World} {k q t n : Int} (h : Mm w0 w k q t n) {k' q' t' n' : Int} (j : Nat) (u : Value) (he : (#[Value.int .i64 k, .int .i64 q, .int .i64 t, .int .i64 n] : Array Value).setIfInBounds j u = #[.int .i64 k', .int .i64 q', .int .i64 t', .int .i64 n']) : Mm w0 (w.setCell ⟨w0.heap.size + 1, j, none⟩ u) k' q' t' n' := by
  refine ⟨⟨h.kept.os, h.kept.tape, h.kept.output, Nat.le_trans h.kept.size (by simp [World.setCell]), fun i hi hp => (heap_setCell_other w _ i u (by simp; omega)).trans (h.kept.block i hi hp)⟩, (heap_setCell_other w _ _ u (by simp)).trans h.res, ?_⟩
  rw [set_word h.cur, he]
theorem Mm.cells {w0 w : World} {k q t n : Int} (h : Mm w0 w k q t n) :
    w.cell? ⟨w0.heap.size + 1, 0, none⟩ = some (.int .i64 k) ∧ w.cell? ⟨w0.heap.size + 1, 1, none⟩ = some (.int .i64 q) ∧ w.cell? ⟨w0.heap.size + 1, 2, none⟩ = some (.int .i64 t) ∧ w.cell? ⟨w0.heap.size + 1, 3, none⟩ = some (.int .i64 n) ∧ (∀ j, w.frozen? ⟨w0.heap.size + 1, j, none⟩ = false) :=
  ⟨by simp [World.cell?, h.cur], by simp [World.cell?, h.cur], by simp [World.cell?, h.cur], by simp [World.cell?, h.cur], fun j => by simp [World.frozen?, h.cur]⟩
theorem Mm.drewN {w0 w : World} {k q t n : Int} (h : Mm w0 w k q t n) (c : Nat) : Mm w0 (w.drewN c) k q t n := ⟨h.kept.drewN c, h.res, h.cur⟩

/-- What holds at each label. -/
def Rj (w0 : World) (s : List UInt8) (p m l : Nat) (a : Act) (w : World) : Prop :=
  ∃ (i q k : Nat) (n : Int) (dg : Nat), Rs s p m l i q k n dg ∧ Fr s w0.heap.size (w0.heap.size + 1) i dg a ∧ Mm w0 w k q 0 n

/-- The body of a function's scope. -/
def scopeIn : Option Code → Code
  | some (.seq _ (.scope c)) => c
  | _ => .skip
/-- What read answers. -/
def Rd (s : List UInt8) (p k q t : Nat) (n : Int) : Prop :=
  (k = 0 ∧ q = s.length ∧ t = s.length ∧ Wo s p = []) ∨ (At1 s p q t ∧ k = kd (tex s q t) ∧ (k = 2 → n = num (tex s q t)))
abbrev Rp (w : World) (s : List UInt8) (p : Nat) : Exit → Act → World → Prop :=
  bodyPost Tryd.prog Tryd.f81 fun e w' => (∃ (k q t : Nat) (n : Int), e = .returned (.agg #[.int .i64 (k : Nat), .int .i64 (q : Nat), .int .i64 (t : Nat), .int .i64 n]) ∧ Rd s p k q t n) ∧ Kept (fun _ => True) w w'
/-- The way from a label on, as all six are asked. -/
abbrev Rw (w : World) (s : List UInt8) (p M l : Nat) (a : Act) (w1 : World) : Prop :=
  From Tryd.prog (scopeIn Tryd.f81.body) (Exit.jumps (fun l' a' w' => ∃ m', m' < M ∧ Rj w s p m' l' a' w') (Rp w s p)) l a w1

theorem at_text (s : List UInt8) (i : Nat) (_ : i < s.length) (h' : i < (⟨s.toArray⟩ : ByteArray).size) : (⟨s.toArray⟩ : ByteArray)[i]'h' = s[i] := rfl
theorem cut_text (s : List UInt8) (q i : Nat) (h : q ≤ i) (hi : i ≤ s.length) (w0 : World) : (Instr.slice 9 (.string ⟨s.toArray⟩) (some (.int .i64 (q : Int))) (some (.int .i64 (i : Int))) none).run Tryd.prog w0 = .ok (.string ⟨(tex s q i).toArray⟩) w0 := by
  have hs : ((⟨s.toArray⟩ : ByteArray).size : Int) = (s.length : Int) := by simp [ByteArray.size]
  rw [run_slice_string_if (P := Tryd.prog) w0 9 ⟨s.toArray⟩ .i64 .i64 q i Tryd.underlying9, if_pos ⟨by omega, by omega⟩, if_pos ⟨by omega, by omega⟩]
  congr 2
  apply ByteArray.ext
  simp [tex]
/-- Behind the word there is a blank, or nothing. -/
theorem At1.out {s : List UInt8} {p q e i : Nat} (h : At1 s p q e) (h1 : q ≤ i) (h2 : i ≤ e) : (∃ hi : i < s.length, i < e ∧ s[i] ≠ 32) ∨ (i = e ∧ i = s.length) ∨ (i = e ∧ ∃ hi : i < s.length, s[i] = 32) := by
  rcases Nat.lt_or_ge i e with h3 | h3
  · obtain ⟨hi, hc⟩ := h.in h1 h3
    exact .inl ⟨hi, h3, hc⟩
  · have : i = e := by omega
    subst this
    rcases Nat.lt_or_ge i s.length with h4 | h4
    · exact .inr (.inr ⟨rfl, h4, h.ends h4⟩)
    · have := h.within
      exact .inr (.inl ⟨rfl, by omega⟩)

set_option maxRecDepth 100000 in
set_option maxHeartbeats 1000000 in
theorem rd0a {w w1 : World} {s : List UInt8} (_ : s.length ≤ 281474976710656) {p i : Nat} {a : Act} (h1 : p ≤ i) (hlt : i < s.length) (h3 : Wo s p = Wo s i) (hc : s[i] = 32) (hF : Fr s w.heap.size (w.heap.size + 1) i 0 a) (hM : Mm w w1 0 0 0 0) :
    Rw w s p (6 * (s.length - i) + 5) 0 a w1 := by
  obtain ⟨u, rfl⟩ := hF
  have HM : Hid (Mm w w1 0 0 0 0) := hM
  have HW : Hid (Wo s p = Wo s (i + 1)) := h3.trans (Wo_blank hlt hc)
  clear hM h3
  have hx := at_text s i hlt (by simpa [ByteArray.size] using hlt)
  rw [hc] at hx
  clear hc
  have i1 : (i : Int) < (s.length : Int) := by omega
  have i0 : (0 : Int) ≤ (i : Int) := by omega
  refine ⟨_, rfl, ?_⟩
  go_wp2_with fail
  go_step3
  exact ⟨_, by omega, i + 1, 0, 0, 0, 0, .inl ⟨rfl, rfl, by omega, by omega, HW.out, rfl, rfl, rfl, rfl⟩, Fr.mk' rfl rfl rfl rfl rfl rfl, HM.out⟩

set_option maxRecDepth 100000 in
set_option maxHeartbeats 1000000 in
theorem rd0b {w w1 : World} {s : List UInt8} (_ : s.length ≤ 281474976710656) {p i : Nat} {a : Act} (hlt : i = s.length) (h3 : Wo s p = Wo s i) (hF : Fr s w.heap.size (w.heap.size + 1) i 0 a) (hM : Mm w w1 0 0 0 0) :
    Rw w s p (6 * (s.length - i) + 5) 0 a w1 := by
  obtain ⟨u, rfl⟩ := hF
  subst hlt
  have HM : Hid (Mm w (w1.setCell ⟨w.heap.size + 1, 1, none⟩ (.int .i64 (s.length : Nat))) 0 s.length 0 0) := hM.set 1 _ rfl
  have HW : Hid (Wo s p = []) := h3.trans (Wo_end (by omega))
  obtain ⟨c0, c1, c2, c3, hfz⟩ := hM.cells
  have hf1 := hfz 1
  clear hM h3 hfz
  refine ⟨_, rfl, ?_⟩
  go_wp2_with fail
  go_step3
  exact ⟨_, by omega, s.length, s.length, 0, 0, 0, .inr (.inr (.inr (.inr (.inr ⟨rfl, rfl, .inl ⟨rfl, rfl, rfl, HW.out⟩⟩)))), Fr.mk' rfl rfl rfl rfl rfl rfl, HM.out⟩

/-- What may be used of labels that are nearer to the end. -/
abbrev Ri (w : World) (s : List UInt8) (p M : Nat) : Prop := Hid (∀ m' l' a' w', m' < M → Rj w s p m' l' a' w' → Rw w s p M l' a' w')

set_option maxRecDepth 100000 in
set_option maxHeartbeats 1000000 in
theorem rd0c {w w1 : World} {s : List UInt8} (_ : s.length ≤ 281474976710656) {p i : Nat} {a : Act} (h1 : p ≤ i) (hlt : i < s.length) (h3 : Wo s p = Wo s i) (hc : s[i] ≠ 32) (hF : Fr s w.heap.size (w.heap.size + 1) i 0 a) (hM : Mm w w1 0 0 0 0) (IH : Ri w s p (6 * (s.length - i) + 5)) :
    Rw w s p (6 * (s.length - i) + 5) 0 a w1 := by
  obtain ⟨u, rfl⟩ := hF
  obtain ⟨e, hE⟩ := At1.mk' h1 hlt hc h3
  have HE : Hid (At1 s p i e) := hE
  have hie := hE.some
  have hel := hE.within
  have HM : Hid (Mm w (w1.setCell ⟨w.heap.size + 1, 1, none⟩ (.int .i64 (i : Nat))) 0 i 0 0) := hM.set 1 _ rfl
  obtain ⟨c0, c1, c2, c3, hfz⟩ := hM.cells
  have hf1 := hfz 1
  clear hM h3 hE hfz
  have hx := at_text s i hlt (by simpa [ByteArray.size] using hlt)
  have i1 : (i : Int) < (s.length : Int) := by omega
  have i2 : ((i : Int) == (s.length : Int)) = false := by simp; omega
  have i0 : (0 : Int) ≤ (i : Int) := by omega
  by_cases hl : isL s[i] = true
  · have HT : Hid (∀ h : i < s.length, isL s[i] = true) := fun _ => hl
    have cl := fun W => isLetter_any (w := W) s[i]
    rw [hl] at cl
    have hc' : ((s[i].toNat : Int) == 32) = false := by simp only [beq_eq_false_iff_ne, ne_eq]; intro q; exact hc (UInt8.toNat_inj.1 (by simpa using (by omega : s[i].toNat = 32)))
    clear hc hl
    generalize s[i] = c at hx cl hc'
    refine ⟨_, rfl, ?_⟩
    go_wp2_with fail
    refine Calls.mono (cl _) ?_
    rintro e' w2 ⟨rfl, rfl⟩
    go_wp2_with fail
    go_step3
    exact ⟨_, by omega, i, i, 0, 0, 0, .inr (.inr (.inl ⟨rfl, rfl, e, HE.out, Nat.le_refl _, by omega, by simp [tex_self], HT.out, rfl, rfl⟩)), Fr.mk' rfl rfl rfl rfl rfl rfl, HM.out⟩
  · have hl' : isL s[i] = false := by simpa using hl
    have HT : Hid (∀ h : i < s.length, isL s[i] = false) := fun _ => hl'
    have cl := fun W => isLetter_any (w := W) s[i]
    rw [hl'] at cl
    have hc' : ((s[i].toNat : Int) == 32) = false := by simp only [beq_eq_false_iff_ne, ne_eq]; intro q; exact hc (UInt8.toNat_inj.1 (by simpa using (by omega : s[i].toNat = 32)))
    clear hc hl hl'
    by_cases hm : s[i] = 45
    · have HD : Hid (Dg s i e (i + 1)) := ⟨HT.out, .inr ⟨rfl, fun _ => hm⟩, by omega⟩
      rw [hm] at hx cl
      clear hm hc'
      refine ⟨_, rfl, ?_⟩
      go_wp2_with fail
      refine Calls.mono (cl _) ?_
      rintro e' w2 ⟨rfl, rfl⟩
      go_wp2_with fail
      go_step3
      iterate 2 (first | go_values | go_skip | go_guarded | go_step | go_upon | go_back)
      refine From.use (IH.out (6 * (s.length - (i + 1)) + 4) 3 _ _ (by omega) ⟨i + 1, i, 0, 0, i + 1, .inr (.inl ⟨rfl, rfl, e, HE.out, HD.out, Nat.le_refl _, by omega, by omega, by simp [tex_self], rfl, by simp [tex_self, digs]⟩), ?_, ?_⟩) rfl
      · exact Fr.mk' rfl rfl rfl rfl rfl rfl
      · exact HM.out
    · have HD : Hid (Dg s i e i) := ⟨HT.out, .inl ⟨rfl, fun _ => hm⟩, by omega⟩
      have hm' : ((s[i].toNat : Int) == 45) = false := by simp only [beq_eq_false_iff_ne, ne_eq]; intro q; exact hm (UInt8.toNat_inj.1 (by simpa using (by omega : s[i].toNat = 45)))
      clear hm
      generalize s[i] = c at hx cl hc' hm'
      refine ⟨_, rfl, ?_⟩
      go_wp2_with fail
      refine Calls.mono (cl _) ?_
      rintro e' w2 ⟨rfl, rfl⟩
      go_wp2_with fail
      go_step3
      iterate 2 (first | go_values | go_skip | go_guarded | go_step | go_upon | go_back)
      refine From.use (IH.out (6 * (s.length - i) + 4) 3 _ _ (by omega) ⟨i, i, 0, 0, i, .inr (.inl ⟨rfl, rfl, e, HE.out, HD.out, Nat.le_refl _, by omega, by omega, by simp [tex_self], rfl, by simp [tex_self, digs]⟩), ?_, ?_⟩) rfl
      · exact Fr.mk' rfl rfl rfl rfl rfl rfl
      · exact HM.out

end Go.Proofs.YtnddpalngjmhnaaDoor
