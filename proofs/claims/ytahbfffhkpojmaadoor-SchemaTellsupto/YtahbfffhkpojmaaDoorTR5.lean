/-
  The document's type under way; part: the first one.
-/
import Derived.Test.YtahbfffhkpojmaaDoorTR4
import Derived.Test.YtahbfffhkpojmaaDoorTW
namespace Go.Proofs.YtahbfffhkpojmaaDoor
open Go.RowKit

/-- A type in block T, its rows behind it. -/
structure Pt (w : World) (T : Nat) (t : Ty) (va vs vm : Value) : Prop where
  self : w.heap[T]? = some (.cells #[.string ⟨t.name.toArray⟩, va, vs, vm] 26 (0, 0))
  attrs : Ao w (T + 1) va t.attrs
  stages : Ro w (T + 1) vs t.stages
  marks : Ro w (T + 1) vm t.marks
  apart : ∀ k, vs.ownBlock = some k → vm.ownBlock ≠ some k
section
variable {w w' : World} {T : Nat} {t : Ty} {va vs vm : Value}
theorem Pt.all (h : Pt w T t va vs vm) (k : Kept (fun _ => True) w w') : Pt w' T t va vs vm :=
  ⟨(k.block _ (lt_of_block h.self) trivial).trans h.self, own_keep h.attrs k (fun _ _ => trivial), own_keep h.stages k (fun _ _ => trivial), own_keep h.marks k (fun _ _ => trivial), h.apart⟩
theorem Pt.rows (h : Pt w T t va vs vm) {v : Value} (hv : v = va ∨ v = vs ∨ v = vm) : ∀ i, v.ownBlock = some i → T + 1 ≤ i ∧ i < w.heap.size := by
  intro i e
  rcases hv with rfl | rfl | rfl
  · exact World.ownsRow.lt h.attrs i e
  · exact World.ownsRow.lt h.stages i e
  · exact World.ownsRow.lt h.marks i e
theorem Pt.types (h : Pt w T t va vs vm) : (∀ i, va.ownBlock = some i → vs.ownBlock ≠ some i) ∧ (∀ i, va.ownBlock = some i → vm.ownBlock ≠ some i) := by
  have key : ∀ {v : Value} {xs : List Ru}, Ro w (T + 1) v xs → ∀ i, va.ownBlock = some i → v.ownBlock ≠ some i := by
    intro v xs hR i e q
    rcases h.attrs.2 with ⟨hv, _⟩ | ⟨g, cap, cur, hv, _, hh, _⟩
    · rw [hv] at e; simp [Value.ownBlock] at e
    · rw [hv] at e; simp [Value.ownBlock] at e
      subst e
      rcases hR.2 with ⟨hv', _⟩ | ⟨g', cap', cur', hv', _, hh', _⟩
      · rw [hv'] at q; simp [Value.ownBlock] at q
      · rw [hv'] at q; simp [Value.ownBlock] at q
        subst q
        rw [hh] at hh'
        simp at hh'
  exact ⟨key h.stages, key h.marks⟩
theorem Pt.setN (h : Pt w T t va vs vm) (n : List UInt8) : Pt (w.setCell ⟨T, 0, none⟩ (.string ⟨n.toArray⟩)) T { t with name := n } va vs vm := by
  have k : Kept (· ≠ T) w (w.setCell ⟨T, 0, none⟩ (.string ⟨n.toArray⟩)) := (Kept.refl _ _).setCell (by simp) _
  refine ⟨set_cell h.self 0 _, own_keep h.attrs k (fun i e => ?_), own_keep h.stages k (fun i e => ?_), own_keep h.marks k (fun i e => ?_), h.apart⟩
  · have := (h.rows (.inl rfl) i e).1; omega
  · have := (h.rows (.inr (.inl rfl)) i e).1; omega
  · have := (h.rows (.inr (.inr rfl)) i e).1; omega
theorem Pt.putA (h : Pt w T t va vs vm) {v' : Value} {x : At} (hA : Ao w' (T + 1) v' (t.attrs ++ [x])) (hK : Kept (fun k => va.ownBlock ≠ some k) w w') : Pt (w'.setCell ⟨T, 1, none⟩ v') T { t with attrs := t.attrs ++ [x] } v' vs vm := by
  have hlow : va.ownBlock ≠ some T := fun e => by have := (h.rows (.inl rfl) _ e).1; omega
  have hself : w'.heap[T]? = _ := (hK.block _ (lt_of_block h.self) hlow).trans h.self
  have k2 : Kept (· ≠ T) w' (w'.setCell ⟨T, 1, none⟩ v') := (Kept.refl _ _).setCell (by simp) v'
  have big : ∀ {v : Value} {e sz n : Nat} {xs : List Value}, w'.ownsRow (T + 1) e sz v n xs → (w'.setCell ⟨T, 1, none⟩ v').ownsRow (T + 1) e sz v n xs := fun hO => own_keep hO k2 (fun i e => by have := (World.ownsRow.lt hO i e).1; omega)
  exact ⟨set_cell hself 1 v', big hA, big (own_keep h.stages hK (fun i e e' => h.types.1 i e' e)), big (own_keep h.marks hK (fun i e e' => h.types.2 i e' e)), h.apart⟩
theorem Pt.putS (h : Pt w T t va vs vm) {v' : Value} {x : Ru} (hA : Ro w' (T + 1) v' (t.stages ++ [x])) (hK : Kept (fun k => vs.ownBlock ≠ some k) w w') (hr : ∀ k, v'.ownBlock = some k → vs.ownBlock = some k ∨ w.heap.size ≤ k) : Pt (w'.setCell ⟨T, 2, none⟩ v') T { t with stages := t.stages ++ [x] } va v' vm := by
  have hlow : vs.ownBlock ≠ some T := fun e => by have := (h.rows (.inr (.inl rfl)) _ e).1; omega
  have hself : w'.heap[T]? = _ := (hK.block _ (lt_of_block h.self) hlow).trans h.self
  have k2 : Kept (· ≠ T) w' (w'.setCell ⟨T, 2, none⟩ v') := (Kept.refl _ _).setCell (by simp) v'
  have big : ∀ {v : Value} {e sz n : Nat} {xs : List Value}, w'.ownsRow (T + 1) e sz v n xs → (w'.setCell ⟨T, 2, none⟩ v').ownsRow (T + 1) e sz v n xs := fun hO => own_keep hO k2 (fun i e => by have := (World.ownsRow.lt hO i e).1; omega)
  refine ⟨set_cell hself 2 v', big (own_keep h.attrs hK (fun i e e' => h.types.1 i e e')), big hA, big (own_keep h.marks hK (fun i e e' => h.apart i e' e)), fun i e e' => ?_⟩
  rcases hr i e with q | q
  · exact h.apart i q e'
  · have := (h.rows (.inr (.inr rfl)) i e').2
    omega
theorem Pt.putM (h : Pt w T t va vs vm) {v' : Value} {x : Ru} (hA : Ro w' (T + 1) v' (t.marks ++ [x])) (hK : Kept (fun k => vm.ownBlock ≠ some k) w w') (hr : ∀ k, v'.ownBlock = some k → vm.ownBlock = some k ∨ w.heap.size ≤ k) : Pt (w'.setCell ⟨T, 3, none⟩ v') T { t with marks := t.marks ++ [x] } va vs v' := by
  have hlow : vm.ownBlock ≠ some T := fun e => by have := (h.rows (.inr (.inr rfl)) _ e).1; omega
  have hself : w'.heap[T]? = _ := (hK.block _ (lt_of_block h.self) hlow).trans h.self
  have k2 : Kept (· ≠ T) w' (w'.setCell ⟨T, 3, none⟩ v') := (Kept.refl _ _).setCell (by simp) v'
  have big : ∀ {v : Value} {e sz n : Nat} {xs : List Value}, w'.ownsRow (T + 1) e sz v n xs → (w'.setCell ⟨T, 3, none⟩ v').ownsRow (T + 1) e sz v n xs := fun hO => own_keep hO k2 (fun i e => by have := (World.ownsRow.lt hO i e).1; omega)
  refine ⟨set_cell hself 3 v', big (own_keep h.attrs hK (fun i e e' => h.types.2 i e e')), big (own_keep h.stages hK (fun i e e' => h.apart i e e')), big hA, fun i e e' => ?_⟩
  rcases hr i e' with q | q
  · exact h.apart i e q
  · have := (h.rows (.inr (.inl rfl)) i e).2
    omega
end
/-- What part answers. -/
def Pans (w : World) (T : Nat) (_ : Ty) (o : Option Ty) (e : Ending) (w' : World) : Prop :=
  ∃ ok t' va' vs' vm', e = .returned (.bool ok) ∧ Pt w' T t' va' vs' vm' ∧ Kept (· < T) w w' ∧ ((o = none ∧ ok = false) ∨ (o = some t' ∧ ok = true))
theorem Wr.cells {w : World} {base g n cap : Nat} {ws : List (Nat × List UInt8)} (h : Wr w base (.slice (some ⟨g, 0, none⟩) n cap) ws) (i : Nat) (hi : i < ws.length) : w.cell? ⟨g, i * 2, none⟩ = some (.int .i64 ((ws[i]).1 : Nat)) ∧ w.cell? ⟨g, i * 2 + 1, none⟩ = some (.string ⟨((ws[i]).2).toArray⟩) := by
  have hc : ∀ j, j < 2 → w.cell? ⟨g, i * 2 + j, none⟩ = (wlay ws[i])[j]? := by
    intro j hj
    have e : n = ws.length := by
      obtain ⟨_, _, e, _⟩ := h.shape
      injection e
    subst e
    exact (World.ownsRow.cellAt h _ (by omega)).trans (wrow_get ws i hi j hj)
  exact ⟨hc 0 (by omega), hc 1 (by omega)⟩
theorem end_some (p : List UInt8) : ∃ E, IsEnd p E := by
  have : ∀ n, n ≤ p.length → (∀ i (h : i < p.length), n ≤ i → p[i] = 32) → ∃ E, IsEnd p E := by
    intro n
    induction n with
    | zero => intro h1 h2; exact ⟨0, Nat.zero_le _, fun h => absurd h (Nat.lt_irrefl _), h2⟩
    | succ n ih =>
      intro h1 h2
      by_cases hc : p[n] = 32
      · refine ih (by omega) (fun i h h3 => ?_)
        rcases Nat.eq_or_lt_of_le h3 with e | e
        · subst e; exact hc
        · exact h2 i h e
      · exact ⟨n + 1, h1, fun _ => by simpa using hc, h2⟩
  exact this p.length (Nat.le_refl _) (fun i h h2 => by omega)

set_option maxRecDepth 100000 in
set_option maxHeartbeats 4000000 in
theorem part_first {w : World} {T : Nat} {t : Ty} {va vs vm : Value} (h : Pt w T t va vs vm) (p : List UInt8) (hp : p.length ≤ 10000) :
    Calls Tryd.prog 21 #[.pointer (some ⟨T, 0, none⟩), .bool true, .string ⟨p.toArray⟩] w (Pans w T t ((fst1 p).map fun n => { t with name := n })) := by
  obtain ⟨E, hE⟩ := end_some p
  obtain ⟨f1, f2⟩ := fst_words hE
  have F1 : Hid _ := f1
  have F2 : Hid _ := f2
  have cw := words_any (w := w) p hp
  have HP : Hid (Pt w T t va vs vm) := h
  clear f1 f2 hE h
  go_enter Tryd.func21, Tryd.ntmps21
  go_wp2_with fail
  refine Calls.mono cw ?_
  rintro e w1 ⟨⟨v, rfl, hW⟩, k1⟩
  obtain ⟨wo, wc, rfl, hwc, hwg⟩ := hW.shape
  have HP1 : Hid (Pt w1 T t va vs vm) := HP.out.all k1
  have HK1 : Hid (Kept (· < T) w w1) := k1.mono (fun _ _ _ => trivial)
  have HWG : Hid _ := hwg
  have HW : Hid (Wr w1 w.heap.size (.slice wo (Wo p 0).length wc) (Wo p 0)) := hW
  clear cw hW k1 HP hwg
  generalize Wo p 0 = ws at *
  obtain ⟨n, hn⟩ : ∃ n, n = ws.length := ⟨_, rfl⟩
  have HN : Hid (n = ws.length) := hn
  rw [← hn] at HW HWG hwc ⊢
  clear hn
  by_cases h2 : n = 2
  · obtain ⟨a, b, rfl⟩ : ∃ a b, ws = [a, b] := by
      have := HN.out
      rw [h2] at this
      rcases ws with _ | ⟨a, _ | ⟨b, _ | ⟨c, r⟩⟩⟩
      · simp at this
      · simp at this
      · exact ⟨a, b, rfl⟩
      · simp at this
    subst h2
    obtain ⟨g, rfl⟩ := HWG.out (by omega)
    have d1 := (HW.out.cells 0 (by simp)).2
    have d3 := (HW.out.cells 1 (by simp)).2
    simp only [Nat.zero_mul, Nat.zero_add, List.getElem_cons_zero, List.getElem_cons_succ, Nat.one_mul] at d1 d3
    obtain ⟨⟨c0, c1, c2, c3⟩, e0, e1, e2, e3⟩ := four_cell HP1.out.self
    by_cases hx : a.2 = [116, 121, 112, 101]
    · have HF : Hid (fst1 p = some b.2) := F1.out a b rfl hx
      rw [hx] at d1
      have HP2 : Hid _ := HP1.out.setN b.2
      have HK2 : Hid (∀ u, Kept (· < T) w (w1.setCell ⟨T, 0, none⟩ u)) := fun u => HK1.out.setCell (by simp) u
      clear F1 F2 HW HP1
      go_wp2_with fail
      go_ret
      exact ⟨true, _, _, _, _, rfl, HP2.out, HK2.out _, .inr ⟨by rw [HF.out]; rfl, rfl⟩⟩
    · have HF : Hid (fst1 p = none) := F2.out (fun a' b' e => by cases e; exact hx)
      have hx' : (a.2 == ([116, 121, 112, 101] : List UInt8)) = false := beq_eq_false_iff_ne.2 hx
      clear F1 F2 HW hx
      generalize a.2 = ax at *
      go_wp2_with fail
      go_ret
      exact ⟨false, _, _, _, _, rfl, HP1.out, HK1.out, .inl ⟨by rw [HF.out]; rfl, rfl⟩⟩
  · have HF : Hid (fst1 p = none) := F2.out (fun a b e => by
      exfalso
      apply h2
      rw [HN.out, e]
      rfl)
    have h2' : ((n : Int) != 2) = true := by simp; omega
    clear F1 F2 h2
    go_wp2_with fail
    go_ret
    exact ⟨false, _, _, _, _, rfl, HP1.out, HK1.out, .inl ⟨by rw [HF.out]; rfl, rfl⟩⟩

end Go.Proofs.YtahbfffhkpojmaaDoor
