/-
  Gotos that go ahead, and from their label ahead once more.
-/
import Derived.Test.YtebpkhemkdgbjaaSB
import Derived.Test.YtebpkhemkdgbjaaY0
import Derived.Test.YtebpkhemkdgbjaaMSr
import Derived.BigQuiet
import Derived.Test.YtebpkhemkdgbjaaWStr
namespace Go.Proofs.Ytebpkhemkdgbjaa
open Go.RowKit

/-- By a goto: on from its label, and no further goto. -/
def Exit.ahead1 (P : Program) (c : Code) (Q : Exit → Act → World → Prop) : Exit → Act → World → Prop
  | .goto l, a, w => ∃ rest, findLabel c l = some rest ∧ rest.wp P (Exit.noGoto Q) a w
  | e, a, w => Q e a w
/-- .. and one more goto. -/
def Exit.ahead2 (P : Program) (c : Code) (Q : Exit → Act → World → Prop) : Exit → Act → World → Prop
  | .goto l, a, w => ∃ rest, findLabel c l = some rest ∧ rest.wp P (Exit.ahead1 P c Q) a w
  | e, a, w => Q e a w

theorem arrives1 {P : Program} {Q : Exit → Act → World → Prop} {c rest : Code} {a : Act} {w : World} (h : rest.wp P (Exit.ahead1 P c Q) a w) (b : Frame) (k : List Item) (cs : List Frame) :
    ∃ e a₂ w₂, Q e a₂ w₂ ∧ (∀ l, e ≠ .goto l) ∧ Arrives P (lone (b.at a (.code rest :: .inScope c :: k)) cs w) b k cs e a₂ w₂ := by
  obtain ⟨e, a₁, w₁, hq, harr⟩ := h b (.inScope c :: k) cs
  cases e with
  | normal => exact ⟨.normal, a₁, w₁, hq, by simp, Steps.trans harr (.one step_inScope)⟩
  | exit id => exact ⟨.exit id, a₁, w₁, hq, by simp, fun k' hk => harr k' (by simp [exitTo, hk])⟩
  | goto l =>
    obtain ⟨rest', hf, hr⟩ := hq
    have hg : gotoIn l (.inScope c :: k) = some (.code rest' :: .inScope c :: k) := by simp [gotoIn, hf]
    obtain ⟨e₂, a₂, w₂, hq₂, harr₂⟩ := hr b (.inScope c :: k) cs
    cases e₂ with
    | normal => exact ⟨.normal, a₂, w₂, hq₂, by simp, Steps.trans (harr _ hg) (Steps.trans harr₂ (.one step_inScope))⟩
    | exit id => exact ⟨.exit id, a₂, w₂, hq₂, by simp, fun k' hk => Steps.trans (harr _ hg) (harr₂ k' (by simp [exitTo, hk]))⟩
    | goto l' => exact hq₂.elim
    | ret => exact ⟨_, a₂, w₂, hq₂, by simp, .of_steps (harr _ hg) harr₂⟩
    | panic ch => exact ⟨_, a₂, w₂, hq₂, by simp, .of_steps (harr _ hg) harr₂⟩
    | outgrown => exact ⟨_, a₂, w₂, hq₂, by simp, .of_steps (harr _ hg) harr₂⟩
  | ret => exact ⟨_, a₁, w₁, hq, by simp, harr⟩
  | panic ch => exact ⟨_, a₁, w₁, hq, by simp, harr⟩
  | outgrown => exact ⟨_, a₁, w₁, hq, by simp, harr⟩
theorem wp_scope_ahead2 {P : Program} {a : Act} {w : World} {Q : Exit → Act → World → Prop} {c : Code} (first : c.wp P (Exit.ahead2 P c Q) a w) : (Code.scope c).wp P Q a w := by
  intro b k cs
  obtain ⟨e, a₁, w₁, hq, harr⟩ := first b (.inScope c :: k) cs
  cases e with
  | normal => exact ⟨.normal, a₁, w₁, hq, .head step_scope (Steps.trans harr (.one step_inScope))⟩
  | exit id => exact ⟨.exit id, a₁, w₁, hq, fun k' hk => .head step_scope (harr k' (by simp [exitTo, hk]))⟩
  | goto l =>
    obtain ⟨rest, hf, hr⟩ := hq
    have hg : gotoIn l (.inScope c :: k) = some (.code rest :: .inScope c :: k) := by simp [gotoIn, hf]
    obtain ⟨e₂, a₂, w₂, hq₂, hn, harr₂⟩ := arrives1 hr b k cs
    cases e₂ with
    | normal => exact ⟨.normal, a₂, w₂, hq₂, Steps.trans (.head step_scope (harr _ hg)) harr₂⟩
    | exit id => exact ⟨.exit id, a₂, w₂, hq₂, fun k' hk => Steps.trans (.head step_scope (harr _ hg)) (harr₂ k' hk)⟩
    | goto l' => exact absurd rfl (hn l')
    | ret => exact ⟨_, a₂, w₂, hq₂, .of_steps (.head step_scope (harr _ hg)) harr₂⟩
    | panic ch => exact ⟨_, a₂, w₂, hq₂, .of_steps (.head step_scope (harr _ hg)) harr₂⟩
    | outgrown => exact ⟨_, a₂, w₂, hq₂, .of_steps (.head step_scope (harr _ hg)) harr₂⟩
  | ret => exact ⟨_, a₁, w₁, hq, .of_steps (.one step_scope) harr⟩
  | panic ch => exact ⟨_, a₁, w₁, hq, .of_steps (.one step_scope) harr⟩
  | outgrown => exact ⟨_, a₁, w₁, hq, .of_steps (.one step_scope) harr⟩

end Go.Proofs.Ytebpkhemkdgbjaa

namespace Go.Proofs.Ytebpkhemkdgbjaa
open Go.RowKit

theorem groups_any {w : World} {b T : Nat} {ov tv : Value} {z : Tn} (h : Tm w b T ov tv z) :
    Calls Try.prog 27 #[.pointer (some ⟨T, 0, none⟩)] w fun e w' => ∃ v, e = .returned v ∧ Its w' w.heap.size v (grp (oh z.ow) z.ow.length 3) ∧ Kept (fun _ => True) w w' := by
  rw [grp_oh]
  have cm := members_any h
  have cb := fun W : World => (show Calls Try.prog 42 #[(memO z.ow).val, .agg #[.bool false, .bool false, .bool false]] W _ from but_any (memO z.ow) B3.none)
  generalize butG (memO z.ow) B3.none 3 = gs at *
  generalize (memO z.ow).val = mv at *
  go_enter Try.func27, Try.ntmps27
  go_wp2_with (first
    | (go_at_call 36; (with_reducible refine Calls.mono cm ?_); rintro e w1 ⟨rfl, k1⟩)
    | (go_at_call 42; (with_reducible refine Calls.mono (cb _) ?_); rintro e w2 ⟨v, rfl, h2, k2⟩))
  go_ret
  exact ⟨v, rfl, Its.low h2 k1.size, k1.trans k2⟩

theorem outcome_any {w : World} {b T : Nat} {ov tv : Value} {z : Tn} (h : Tm w b T ov tv z) :
    Calls Try.prog 13 #[.pointer (some ⟨T, 0, none⟩)] w fun e w' => e = .returned (.int .i64 z.oc) ∧ w' = w := by
  have c8 := h.c.2.2.1
  clear h
  go_enter Try.func13, Try.ntmps13
  go_wp2_with fail
  go_ret
  exact ⟨rfl, rfl⟩

theorem Tstep.none {T : Nat} {tv : Value} (w : World) : Tstep T tv w w := Kept.refl _ _
theorem late_any {w : World} {b T : Nat} {ov tv : Value} {z : Tn} (h : Tm w b T ov tv z) :
    Calls Try.prog 14 #[.pointer (some ⟨T, 0, none⟩)] w fun e w' => e = .returned (.tuple #[]) ∧ Tm w' b T ov tv z.late ∧ Tstep T tv w w' := by
  have c8 := h.c.2.2.1
  have cs := stop_any h 2
  have H : Hid (Tm w b T ov tv z) := h
  clear h
  unfold Tn.late
  by_cases hc : z.oc = 0
  · rw [if_pos hc]
    rw [hc] at c8
    clear hc
    go_enter Try.func14, Try.ntmps14
    go_wp2_with (go_at_call 39; (with_reducible refine Calls.mono cs ?_); rintro e w2 ⟨rfl, h2, k2⟩)
    go_end0
    exact ⟨rfl, h2, k2⟩
  · rw [if_neg hc]
    have hn : (z.oc == 0) = false := by simpa using hc
    clear hc cs
    go_enter Try.func14, Try.ntmps14
    go_wp2_with fail
    go_end0
    exact ⟨rfl, H.out, Kept.refl _ _⟩

theorem b3_cell {w : World} {A s : Nat} {t : B3} {g : Nat} (h : w.cell? ⟨A, s, none⟩ = some (.bool t.a) ∧ w.cell? ⟨A, s + 1, none⟩ = some (.bool t.b) ∧ w.cell? ⟨A, s + 2, none⟩ = some (.bool t.c)) (hg : g < 3) : w.cell? ⟨A, s + g, none⟩ = some (.bool (t.at g)) := by
  have hc : g = 0 ∨ g = 1 ∨ g = 2 := by omega
  rcases hc with rfl | rfl | rfl
  · exact h.1
  · exact h.2.1
  · exact h.2.2
theorem ack_any {w : World} {b T : Nat} {ov tv : Value} {z : Tn} (h : Tm w b T ov tv z) (g : Int) :
    Calls Try.prog 11 #[.pointer (some ⟨T, 0, none⟩), .int .i64 g] w fun e w' => e = .returned (.tuple #[]) ∧ ∃ z' : Tn, z' = z.ack g ∧ Tm w' b T ov tv z' ∧ Tstep T tv w w' := by
  have c8 := h.c.2.2.1
  have H : Hid (Tm w b T ov tv z) := h
  have cm := members_any h
  have ch := fun W : World => has_any (w := W) (memO z.ow) g
  by_cases hc : z.oc = 0
  · have e : z.ack g = z := if_neg (by simp [hc])
    rw [hc] at c8
    clear hc h cm ch
    go_enter Try.func11, Try.ntmps11
    go_wp2_with fail
    go_end0
    exact ⟨rfl, z, e.symm, H.out, Kept.refl _ _⟩
  · have hn : (z.oc != 0) = true := by simpa using hc
    by_cases hh : hasG (memO z.ow) g = true
    · obtain ⟨n, hn3, rfl, -⟩ := hasG_yes hh
      have e : z.ack (n : Int) = { z with dn := z.dn.set n } := if_pos ⟨hc, hh⟩
      rw [hh] at ch
      have j0 : (0 : Int) ≤ (n : Int) := by omega
      have j1 : (n : Int) < 3 := by omega
      clear hc hh
      generalize (memO z.ow).val = mv at *
      go_enter Try.func11, Try.ntmps11
      go_wp2_with (first
        | (go_at_call 36; (with_reducible refine Calls.mono cm ?_); rintro e w1 ⟨rfl, k1⟩)
        | (go_at_call 37; (with_reducible refine Calls.mono (ch _) ?_); rintro e w2 ⟨rfl, k2⟩; have H2 : Hid (Tm w2 b T ov tv z) := H.out.all (k1.trans k2); have cg := b3_cell (s := 5) H2.out.cd hn3; have fg := H2.out.free (5 + n)))
      go_end0
      exact ⟨rfl, _, e.symm, H2.out.acked hn3, ((k1.trans k2).mono (fun _ _ _ => trivial)).trans ((Kept.refl _ _).setCell (by simp) _)⟩
    · have hf : hasG (memO z.ow) g = false := by simpa using hh
      have e : z.ack g = z := if_neg (by simp [hf])
      rw [hf] at ch
      clear hc hh hf
      generalize (memO z.ow).val = mv at *
      go_enter Try.func11, Try.ntmps11
      go_wp2_with (first
        | (go_at_call 36; (with_reducible refine Calls.mono cm ?_); rintro e w1 ⟨rfl, k1⟩)
        | (go_at_call 37; (with_reducible refine Calls.mono (ch _) ?_); rintro e w2 ⟨rfl, k2⟩))
      go_end0
      exact ⟨rfl, z, e.symm, H.out.all (k1.trans k2), (k1.trans k2).mono (fun _ _ _ => trivial)⟩

end Go.Proofs.Ytebpkhemkdgbjaa

namespace Go.Proofs.Ytebpkhemkdgbjaa
open Go.RowKit

theorem eql_b3 (s t : B3) (W : World) : (binOp .eql 81 (.agg #[.bool s.a, .bool s.b, .bool s.c]) (.agg #[.bool t.a, .bool t.b, .bool t.c])).run Try.prog W = .ok (.bool (B3.eqv s t)) W := by
  obtain ⟨a, b, c⟩ := s
  obtain ⟨x, y, z⟩ := t
  cases a <;> cases b <;> cases c <;> cases x <;> cases y <;> cases z <;> kernel_rfl

/-- What a Vote leaves. -/
def EVote (T : Nat) (ov tv : Value) (b : Nat) (z' : Tn) (w : World) (e : Ending) (w' : World) : Prop := e = .returned (.tuple #[]) ∧ Tm w' b T ov tv z' ∧ Tstep T tv w w'

set_option maxRecDepth 100000 in
set_option maxHeartbeats 2000000 in
theorem vote_any {w : World} {b T : Nat} {ov tv : Value} {z : Tn} (h : Tm w b T ov tv z) (g : Int) (yes : Bool) {xo : Option Addr} {xc : Nat} {xs : List (List UInt8)} (hx : Xv (fun x => x ≠ T ∧ tv.ownBlock ≠ some x) w xo xc xs) (ar wy : Int) :
    Calls Try.prog 12 #[.pointer (some ⟨T, 0, none⟩), .int .i64 g, .bool yes, .slice xo xs.length xc, .int .i64 ar, .int .i64 wy] w fun e w' => EVote T ov tv b (z.vote g yes xs ar wy) w e w' := by
  have c8 := h.c.2.2.1
  have H : Hid (Tm w b T ov tv z) := h
  have HX : Hid (Xv (fun x => x ≠ T ∧ tv.ownBlock ≠ some x) w xo xc xs) := hx
  have cm := members_any h
  have ch := fun W : World => has_any (w := W) (memO z.ow) g
  have HN : Hid (z.oc ≠ 0 ∨ hasG (memO z.ow) g = false ∨ hasG z.vo g = true → z.vote g yes xs ar wy = z) := vote_nothing
  by_cases hc : z.oc = 0
  · rw [hc] at c8
    by_cases hh : hasG (memO z.ow) g = true
    · rw [hh] at ch
      have cv : Hid (∀ W : World, Calls Try.prog 37 #[.agg #[.bool z.vo.a, .bool z.vo.b, .bool z.vo.c], .int .i64 g] W fun e w' => e = .returned (.bool (hasG z.vo g)) ∧ Kept (fun _ => True) W w') := fun W => has_any (w := W) z.vo g
      obtain ⟨n, hn3, rfl, -⟩ := hasG_yes hh
      have j0 : (0 : Int) ≤ (n : Int) := by omega
      have j1 : (n : Int) < 3 := by omega
      cases hv : hasG z.vo (n : Int)
      · rw [hv] at cv
        cases yes
        · cases hp : passesP wy
          · have cp := fun W : World => passes_any (w := W) wy
            rw [hp] at cp
            rw [vote_no hc hh hv hp]
            clear hv hp hc hh h hx HN
            generalize (memO z.ow).val = mv at *
            go_enter Try.func12, Try.ntmps12
            go_wp2_with fail
            refine wp_scope_ahead2 ?_
            go_wp2_with (first
              | (go_at_call 36; (with_reducible refine Calls.mono cm ?_); rintro e w1 ⟨rfl, k1⟩; obtain ⟨d2, d3, d4⟩ := (H.out.all k1).cv)
              | (go_at_call 37; (with_reducible refine Calls.mono (ch _) ?_); rintro e w2 ⟨rfl, k2⟩; obtain ⟨e2, e3, e4⟩ := (H.out.all (k1.trans k2)).cv)
              | (go_at_call 37; (with_reducible refine Calls.mono (cv.out _) ?_); rintro e w3 ⟨rfl, k3⟩; have K3 : Hid (Kept (fun _ => True) w w3) := (k1.trans k2).trans k3; clear k1 k2 k3)
              | (go_at_call 38; (with_reducible refine Calls.mono (cp _) ?_); rintro e _ ⟨rfl, rfl⟩)
              | (go_at_call 39; (with_reducible refine Calls.mono (stop_any (H.out.all K3.out) 3) ?_); rintro e w4 ⟨rfl, h4, k4⟩; have f9 := h4.free 9; have f10 := h4.free 10; have c9 := h4.c.2.2.2.1; have c10 := h4.c.2.2.2.2; have H4 : Hid (Tm w4 b T ov tv (z.stop 3)) := h4; have K4 : Hid (Tstep T tv w w4) := (K3.out.mono (fun _ _ _ => trivial)).trans k4; clear h4 k4))
            simp only [Exit.ahead2]
            refine bodyPost_ret (results_none rfl _ _ _) rfl ?_
            exact ⟨rfl, H4.out.reason ar wy, (K4.out.setCell (by simp) _).setCell (by simp) _⟩
          · have cp := fun W : World => passes_any (w := W) wy
            rw [hp] at cp
            rw [vote_no_again hc hh hv hp]
            clear hv hp hc hh h hx HN
            generalize (memO z.ow).val = mv at *
            go_enter Try.func12, Try.ntmps12
            go_wp2_with fail
            refine wp_scope_ahead2 ?_
            go_wp2_with (first
              | (go_at_call 36; (with_reducible refine Calls.mono cm ?_); rintro e w1 ⟨rfl, k1⟩; obtain ⟨d2, d3, d4⟩ := (H.out.all k1).cv)
              | (go_at_call 37; (with_reducible refine Calls.mono (ch _) ?_); rintro e w2 ⟨rfl, k2⟩; obtain ⟨e2, e3, e4⟩ := (H.out.all (k1.trans k2)).cv)
              | (go_at_call 37; (with_reducible refine Calls.mono (cv.out _) ?_); rintro e w3 ⟨rfl, k3⟩; have K3 : Hid (Kept (fun _ => True) w w3) := (k1.trans k2).trans k3; clear k1 k2 k3)
              | (go_at_call 38; (with_reducible refine Calls.mono (cp _) ?_); rintro e _ ⟨rfl, rfl⟩))
            go_step3
            refine ⟨_, rfl, ?_⟩
            go_wp2_with (go_at_call 39; (with_reducible refine Calls.mono (stop_any (H.out.all K3.out) 2) ?_); rintro e w4 ⟨rfl, h4, k4⟩; have H4 : Hid (Tm w4 b T ov tv (z.stop 2)) := h4; have K4 : Hid (Tstep T tv w w4) := (K3.out.mono (fun _ _ _ => trivial)).trans k4; clear h4 k4)
            simp only [Exit.ahead1]
            refine bodyPost_ret (results_none rfl _ _ _) rfl ?_
            exact ⟨rfl, H4.out, K4.out⟩
        · by_cases hl : xs.length = (idx (oh z.ow) z.ow.length n).length
          · have HL : Hid (xs.length = (idx (oh z.ow) z.ow.length n).length) := hl
            have hl' : ((xs.length : Int) != ((idx (oh z.ow) z.ow.length n).length : Int)) = false := by simp; omega
            have HZ : Hid (∀ q, B3.eqv (z.vo.set n) (memO z.ow) = q → z.vote (n : Int) true xs ar wy = if q = true then { z.keep n xs with oc := 1 } else z.keep n xs) := fun q e => by
              cases q
              · rw [vote_kept hc hh hv hl e]; rfl
              · rw [vote_all hc hh hv hl e]; rfl
            have HMM : Hid (∀ W, Tm W b T ov tv (z.keep n xs) → Calls Try.prog 36 #[.pointer (some ⟨T, 0, none⟩)] W fun e w' => e = .returned (memO z.ow).val ∧ Kept (fun _ => True) W w') := fun W hW => members_any (z := z.keep n xs) hW
            have HCV : Hid (∀ W, Tm W b T ov tv (z.keep n xs) → W.cell? ⟨T, 2, none⟩ = some (.bool (z.vo.set n).a) ∧ W.cell? ⟨T, 3, none⟩ = some (.bool (z.vo.set n).b) ∧ W.cell? ⟨T, 4, none⟩ = some (.bool (z.vo.set n).c)) := fun W hW => Tm.cv (z := z.keep n xs) hW
            have e := HZ.out _ rfl
            rw [e]
            clear hv hc hh h hx HN hl e HZ
            unfold B3.val at cm ch HMM
            generalize memO z.ow = mm at *
            generalize z.vo.set n = sv at *
            obtain ⟨ma, mb, mc⟩ := mm
            obtain ⟨sa, sb, sc⟩ := sv
            simp only at cm ch HMM HCV
            have heq0 : Hid (∀ W : World, (binOp .eql 81 (.agg #[.bool sa, .bool sb, .bool sc]) (.agg #[.bool ma, .bool mb, .bool mc])).run Try.prog W = .ok (.bool (B3.eqv ⟨sa, sb, sc⟩ ⟨ma, mb, mc⟩)) W) := eql_b3 ⟨sa, sb, sc⟩ ⟨ma, mb, mc⟩
            generalize B3.eqv ⟨sa, sb, sc⟩ ⟨ma, mb, mc⟩ = q at *
            go_enter Try.func12, Try.ntmps12
            go_wp2_with fail
            refine wp_scope_ahead2 ?_
            go_wp2_with (first
              | (go_at_call 36; (with_reducible refine Calls.mono cm ?_); rintro e w1 ⟨rfl, k1⟩; obtain ⟨d2, d3, d4⟩ := (H.out.all k1).cv)
              | (go_at_call 37; (with_reducible refine Calls.mono (ch _) ?_); rintro e w2 ⟨rfl, k2⟩; obtain ⟨e2, e3, e4⟩ := (H.out.all (k1.trans k2)).cv)
              | (go_at_call 37; (with_reducible refine Calls.mono (cv.out _) ?_); rintro e w3 ⟨rfl, k3⟩; have K3 : Hid (Kept (fun _ => True) w w3) := (k1.trans k2).trans k3; clear k1 k2 k3))
            go_step3
            refine ⟨_, rfl, ?_⟩
            go_wp2_with (first
              | (go_at_call 40; (with_reducible refine Calls.mono (share_any (H.out.all K3.out) n) ?_); rintro e w4 ⟨rfl, hw4⟩; have K4 : Hid (Kept (fun _ => True) w w4) := by { show Kept _ _ _; rw [hw4]; exact K3.out }; clear hw4)
              | (go_at_call 41; (with_reducible refine Calls.mono (keep_any (H.out.all K4.out) hn3 (HX.out.all K4.out) HL.out) ?_); rintro e w5 ⟨rfl, h5, k5⟩; have H5 : Hid (Tm w5 b T ov tv (z.keep n xs)) := h5; have K5 : Hid (Tstep T tv w w5) := (K4.out.mono (fun _ _ _ => trivial)).trans k5; clear h5 k5))
            have heq := heq0.out
            have C2 : ∀ W, Kept (fun _ => True) w5 W → W.cell? ⟨T, 2, none⟩ = some (.bool sa) := fun W k => (HCV.out W (H5.out.all k)).1
            have C3 : ∀ W, Kept (fun _ => True) w5 W → W.cell? ⟨T, 3, none⟩ = some (.bool sb) := fun W k => (HCV.out W (H5.out.all k)).2.1
            have C4 : ∀ W, Kept (fun _ => True) w5 W → W.cell? ⟨T, 4, none⟩ = some (.bool sc) := fun W k => (HCV.out W (H5.out.all k)).2.2
            have hkk : ∀ W, Kept (fun _ => True) w5 W → Tm W b T ov tv (z.keep n xs) := fun W k => H5.out.all k
            have HKK : Hid (∀ W, Kept (fun _ => True) w5 W → Tm W b T ov tv (z.keep n xs)) := hkk
            clear hkk
            go_region_held3 (fun W => Kept (fun _ => True) w5 W) (first | assumption | (repeat (first | assumption | exact Kept.refl _ _ | refine Kept.drew ?_))) ((go_at_call 36; (with_reducible refine Calls.mono (HMM.out _ (HKK.out _ (by first | assumption | (repeat (first | assumption | exact Kept.refl _ _ | refine Kept.drew ?_))))) ?_); rintro e w8 ⟨rfl, k8⟩; have s8 : Kept (fun _ => True) w5 w8 := (Kept.refl _ _).drew.trans k8; clear k8))
            cases q
            · go_wp2_with fail
              simp only [Exit.ahead1]
              refine bodyPost_ret (results_none rfl _ _ _) rfl ?_
              exact ⟨rfl, H5.out.all s8, K5.out.trans (s8.mono (fun _ _ _ => trivial))⟩
            · have H8 : Hid (Tm w8 b T ov tv (z.keep n xs)) := H5.out.all s8
              have f8 := H8.out.free 8
              have c8' := H8.out.c.2.2.1
              have K8 : Hid (Tstep T tv w w8) := K5.out.trans (s8.mono (fun _ _ _ => trivial))
              clear s8
              go_wp2_with fail
              go_step3
              refine ⟨_, rfl, ?_⟩
              go_wp2_with fail
              refine wp_label ?_
              simp only [Exit.noGoto]
              go_end0
              exact ⟨rfl, H8.out.outcome 1, K8.out.setCell (by simp) _⟩
          · rw [vote_long hc hh hv hl]
            have hl' : ((xs.length : Int) != ((idx (oh z.ow) z.ow.length n).length : Int)) = true := by simp; omega
            clear hv hc hh h hx HN hl
            generalize (memO z.ow).val = mv at *
            go_enter Try.func12, Try.ntmps12
            go_wp2_with fail
            refine wp_scope_ahead2 ?_
            go_wp2_with (first
              | (go_at_call 36; (with_reducible refine Calls.mono cm ?_); rintro e w1 ⟨rfl, k1⟩; obtain ⟨d2, d3, d4⟩ := (H.out.all k1).cv)
              | (go_at_call 37; (with_reducible refine Calls.mono (ch _) ?_); rintro e w2 ⟨rfl, k2⟩; obtain ⟨e2, e3, e4⟩ := (H.out.all (k1.trans k2)).cv)
              | (go_at_call 37; (with_reducible refine Calls.mono (cv.out _) ?_); rintro e w3 ⟨rfl, k3⟩; have K3 : Hid (Kept (fun _ => True) w w3) := (k1.trans k2).trans k3; clear k1 k2 k3))
            go_step3
            refine ⟨_, rfl, ?_⟩
            go_wp2_with (go_at_call 40; (with_reducible refine Calls.mono (share_any (H.out.all K3.out) n) ?_); rintro e _ ⟨rfl, rfl⟩)
            go_step3
            refine ⟨_, rfl, ?_⟩
            go_wp2_with fail
            go_end0
            exact ⟨rfl, H.out.all K3.out, K3.out.mono (fun _ _ _ => trivial)⟩
      · have e := HN.out (.inr (.inr hv))
        rw [hv] at cv
        rw [e]
        clear hv hc hh h hx HN e
        generalize (memO z.ow).val = mv at *
        go_enter Try.func12, Try.ntmps12
        go_wp2_with fail
        refine wp_scope_ahead2 ?_
        go_wp2_with (first
              | (go_at_call 36; (with_reducible refine Calls.mono cm ?_); rintro e w1 ⟨rfl, k1⟩; obtain ⟨d2, d3, d4⟩ := (H.out.all k1).cv)
              | (go_at_call 37; (with_reducible refine Calls.mono (ch _) ?_); rintro e w2 ⟨rfl, k2⟩; obtain ⟨e2, e3, e4⟩ := (H.out.all (k1.trans k2)).cv)
              | (go_at_call 37; (with_reducible refine Calls.mono (cv.out _) ?_); rintro e w3 ⟨rfl, k3⟩; have K3 : Hid (Kept (fun _ => True) w w3) := (k1.trans k2).trans k3; clear k1 k2 k3))
        go_step3
        refine ⟨_, rfl, ?_⟩
        go_wp2_with fail
        go_end0
        exact ⟨rfl, H.out.all K3.out, K3.out.mono (fun _ _ _ => trivial)⟩
    · have hf : hasG (memO z.ow) g = false := by simpa using hh
      have e := HN.out (.inr (.inl hf))
      rw [hf] at ch
      rw [e]
      clear hf hc hh h hx HN e
      generalize (memO z.ow).val = mv at *
      go_enter Try.func12, Try.ntmps12
      go_wp2_with fail
      refine wp_scope_ahead2 ?_
      go_wp2_with (first
              | (go_at_call 36; (with_reducible refine Calls.mono cm ?_); rintro e w1 ⟨rfl, k1⟩; obtain ⟨d2, d3, d4⟩ := (H.out.all k1).cv)
              | (go_at_call 37; (with_reducible refine Calls.mono (ch _) ?_); rintro e w2 ⟨rfl, k2⟩; obtain ⟨e2, e3, e4⟩ := (H.out.all (k1.trans k2)).cv))
      go_step3
      refine ⟨_, rfl, ?_⟩
      go_wp2_with fail
      go_end0
      exact ⟨rfl, H.out.all (k1.trans k2), (k1.trans k2).mono (fun _ _ _ => trivial)⟩
  · have hn : (z.oc != 0) = true := by simpa using hc
    rw [HN.out (.inl hc)]
    clear hc h hx HN
    go_enter Try.func12, Try.ntmps12
    go_wp2_with fail
    refine wp_scope_ahead2 ?_
    go_wp2_with fail
    go_step3
    refine ⟨_, rfl, ?_⟩
    go_wp2_with fail
    go_end0
    exact ⟨rfl, H.out, Kept.refl _ _⟩

end Go.Proofs.Ytebpkhemkdgbjaa

namespace Go.Proofs.Ytebpkhemkdgbjaa
open Go.RowKit

theorem append_texts (w : World) (ty : TypeId) (base b2 : Nat) (v v2 : Value) (ss ts : List (List UInt8)) (h : Txs w base v ss) (h2 : Txs w b2 v2 ts) (hb : base ≤ w.heap.size) (hm : ss.length + ts.length ≤ 1099511627776) :
    ∃ ao' cap' w', (Builtin.append_ #[37, 37] ty #[v, v2]).run Try.prog w = .ok (.slice ao' (ss.length + ts.length) cap') w' ∧ Txs w' base (.slice ao' (ss.length + ts.length) cap') (ss ++ ts) ∧ w.grownBy w' v.ownBlock := by
  obtain ⟨i, hi, hz0, hz1, hz2⟩ := info_parts Try.infoText
  rcases h2.2 with ⟨rfl, h0⟩ | ⟨g, cap, cur, rfl, _, hg, hc, _⟩
  · have e : ts = [] := List.eq_nil_of_length_eq_zero h0
    subst e
    have hrun := run_append_owned_none (P := Try.prog) (w := w) base 37 ty 9 i 1 Try.underlying37 hi v ss.length (srow ss) h
    obtain ⟨ao, c, rfl, _, _⟩ := h.shape
    exact ⟨ao, c, w, hrun, by simpa using h, ⟨rfl, rfl, rfl, Nat.le_refl _, fun _ _ _ => rfl⟩⟩
  · have hsrc : ∀ j u, (srow ts)[j]? = some u → w.cell? ((⟨g, 0, none⟩ : Addr).add j) = some u := by
      intro j u hu
      have hj : j < ts.length := by
        have := (List.getElem?_eq_some_iff.1 hu).1
        simpa [srow] using this
      have e : (⟨g, 0, none⟩ : Addr).add j = ⟨g, j, none⟩ := by simp [Addr.add]; omega
      rw [e, h2.cell j hj, ← srow_get ts j hj]
      exact hu
    obtain ⟨v', w', hr, q2, q3, _, q5⟩ := run_append_own_at (P := Try.prog) w base 37 ty 9 i (.string ⟨#[]⟩) 1 16 Try.underlying37 hi hz0 hz1 hz2 rfl (by decide) v ss.length (srow ss) h ⟨g, 0, none⟩ ts.length cap (srow ts) (by simp [srow]) hsrc (srow_one ts) (by unfold maxLen; omega) (by omega) hb
    obtain ⟨ao', cap', rfl⟩ := own_shape_any q2
    refine ⟨ao', cap', w', hr, ?_, q3⟩
    unfold Txs
    rw [srow_append, List.length_append]
    exact q2
theorem wpList_append_texts {w : World} {ops : Array Oper} {rest : List Oper} {o : Oper} {a : Act} {Q : Exit → Act → World → Prop} (hgd : o.guard = none) (sl y : Operand) (ho : o.op = .call { callee := .builtin .append, args := #[sl, y], argTypes := #[37, 37] })
    (base b2 : Nat) (v v2 : Value) (ss ts : List (List UInt8)) (hs : a.eval sl = v) (h : Txs w base v ss) (hy : a.eval y = v2) (h2 : Txs w b2 v2 ts) (hb : base ≤ w.heap.size) (hm : ss.length + ts.length ≤ 1099511627776)
    (hK : ∀ ao' cap' w', Txs w' base (.slice ao' (ss.length + ts.length) cap') (ss ++ ts) → w.grownBy w' v.ownBlock → wpList Try.prog ops Q rest (a.put o.dst (.slice ao' (ss.length + ts.length) cap')) w') : wpList Try.prog ops Q (o :: rest) a w := by
  refine wpList_plain hgd fun K hK' => ?_
  obtain ⟨ao', cap', w', hr, q2, q3⟩ := append_texts w o.type base b2 v v2 ss ts h h2 hb hm
  unfold Oper.wp execOp
  simp only [ho, resolve, invoke, builtin, Sem.run_bind, Sem.run_pure, Result.andThen_ok, List.map_toArray, List.map_cons, List.map_nil, hs, hy, hr]
  exact hK' _ _ (hK ao' cap' w' q2 q3)
theorem step_append_texts {w : World} {ops : Array Oper} {o : Oper} {a : Act} {K : Act → World → Prop} {Q : Exit → Act → World → Prop} {E : Prop} (hgd : o.guard = none) (sl y : Operand) (ho : o.op = .call { callee := .builtin .append, args := #[sl, y], argTypes := #[37, 37] })
    (base b2 : Nat) (v v2 : Value) (ss ts : List (List UInt8)) (hs : a.eval sl = v) (h : Txs w base v ss) (hy : a.eval y = v2) (h2 : Txs w b2 v2 ts) (hb : base ≤ w.heap.size) (hm : ss.length + ts.length ≤ 1099511627776)
    (hK : ∀ ao' cap' w', Txs w' base (.slice ao' (ss.length + ts.length) cap') (ss ++ ts) → w.grownBy w' v.ownBlock → K (a.put o.dst (.slice ao' (ss.length + ts.length) cap')) w') : if Region.wanted o (yielded ops a.tmps) = true then Oper.wp Try.prog o a w K Q else E := by
  have hw : Region.wanted o (yielded ops a.tmps) = true := by simp [Region.wanted, hgd]
  rw [if_pos hw]
  obtain ⟨ao', cap', w', hr, q2, q3⟩ := append_texts w o.type base b2 v v2 ss ts h h2 hb hm
  unfold Oper.wp execOp
  simp only [ho, resolve, invoke, builtin, Sem.run_bind, Sem.run_pure, Result.andThen_ok, List.map_toArray, List.map_cons, List.map_nil, hs, hy, hr]
  exact hK _ _ _ q2 q3

end Go.Proofs.Ytebpkhemkdgbjaa

namespace Go.Proofs.Ytebpkhemkdgbjaa
open Go.RowKit

set_option maxRecDepth 100000 in
set_option maxHeartbeats 1000000 in
theorem left_any_t {w : World} {b T : Nat} {ov tv : Value} {z : Tn} (h : Tm w b T ov tv z) :
    Calls Try.prog 15 #[.pointer (some ⟨T, 0, none⟩)] w fun e w' => ∃ v, e = .returned v ∧ Its w' w.heap.size v (butG (memO z.ow) z.dn 3) ∧ Kept (fun _ => True) w w' := by
  have H : Hid (Tm w b T ov tv z) := h
  have cm : Hid (∀ W, Kept (fun _ => True) w W → Calls Try.prog 36 #[.pointer (some ⟨T, 0, none⟩)] W fun e w' => e = .returned (memO z.ow).val ∧ Kept (fun _ => True) W w') := fun W k => members_any (h.all k)
  have cb : Hid (∀ W, Calls Try.prog 42 #[(memO z.ow).val, .agg #[.bool z.dn.a, .bool z.dn.b, .bool z.dn.c]] W fun e w' => ∃ v, e = .returned v ∧ Its w' W.heap.size v (butG (memO z.ow) z.dn 3) ∧ Kept (fun _ => True) W w') := fun W => but_any (memO z.ow) z.dn
  have C5 : ∀ W, Kept (fun _ => True) w W → W.cell? ⟨T, 5, none⟩ = some (.bool z.dn.a) := fun W k => (H.out.all k).cd.1
  have C6 : ∀ W, Kept (fun _ => True) w W → W.cell? ⟨T, 6, none⟩ = some (.bool z.dn.b) := fun W k => (H.out.all k).cd.2.1
  have C7 : ∀ W, Kept (fun _ => True) w W → W.cell? ⟨T, 7, none⟩ = some (.bool z.dn.c) := fun W k => (H.out.all k).cd.2.2
  clear h
  generalize butG (memO z.ow) z.dn 3 = gs at *
  generalize (memO z.ow).val = mv at *
  go_enter Try.func15, Try.ntmps15
  go_wp2_with fail
  go_region_held3 (fun W => Kept (fun _ => True) w W) (first | assumption | (repeat (first | assumption | exact Kept.refl _ _ | refine Kept.drew ?_))) (first
    | (go_at_call 36; (with_reducible refine Calls.mono (cm.out _ (by first | assumption | (repeat (first | assumption | exact Kept.refl _ _ | refine Kept.drew ?_)))) ?_); rintro e w8 ⟨rfl, k8⟩; have s8 : Kept (fun _ => True) w w8 := (Kept.refl _ _).drew.trans k8; clear k8)
    | (go_at_call 42; (with_reducible refine Calls.mono (cb.out _) ?_); rintro e w9 ⟨v, rfl, h9, k9⟩; have s9 : Kept (fun _ => True) w w9 := s8.trans k9; have H9 : Hid (Its w9 w.heap.size v gs) := Its.low h9 s8.size; clear h9 k9))
  go_wp2_with fail
  go_ret
  exact ⟨v, rfl, H9.out, s9⟩

theorem Try.sizeReply : (Try.prog.info? 45).map (·.size) = some 4 := by kernel_rfl
theorem results_reply {fn : Func} {p : Nat} (h : fn.results = #[.cell p 45]) (tmps : Array Value) (w : World) {g : Nat} {x y z u : Value} {t : TypeId} {fr : Nat × Nat} (hp : tmps.getD p undef = .pointer (some ⟨g, 0, none⟩)) (hg : w.heap[g]? = some (.cells #[x, y, z, u] t fr)) :
    (results fn tmps).run Try.prog w = .ok (.agg #[x, y, z, u]) w :=
  results_cell_row h tmps w g t #[x, y, z, u] fr _ hp hg Try.underlying45 rfl Try.sizeReply

theorem rfour_cell {w : World} {b : Nat} {x y z u : Value} {t : TypeId} {fr : Nat × Nat} (h : w.heap[b]? = some (.cells #[x, y, z, u] t fr)) :
    w.cell? ⟨b, 0, none⟩ = some x ∧ w.cell? ⟨b, 1, none⟩ = some y ∧ w.cell? ⟨b, 2, none⟩ = some z ∧ w.cell? ⟨b, 3, none⟩ = some u :=
  ⟨cell_of_row w b 0 _ _ _ h, cell_of_row w b 1 _ _ _ h, cell_of_row w b 2 _ _ _ h, cell_of_row w b 3 _ _ _ h⟩
/-- What Reply answers. -/
def EReply (z : Tn) (w : World) (e : Ending) (w' : World) : Prop := ∃ ro rc, e = .returned (.agg #[.int .i64 z.oc, .slice ro z.told.length rc, .int .i64 z.ar, .int .i64 z.wy]) ∧ Txs w' w.heap.size (.slice ro z.told.length rc) z.told ∧ Kept (fun _ => True) w w'

set_option maxRecDepth 100000 in
set_option maxHeartbeats 1000000 in
theorem reply_any {w : World} {b T : Nat} {ov tv : Value} {z : Tn} (h : Tm w b T ov tv z) :
    Calls Try.prog 18 #[.pointer (some ⟨T, 0, none⟩)] w fun e w' => EReply z w e w' := by
  have hX := heap_alloc_new w (.cells #[.int .i64 0, .slice none 0 0, .int .i64 0, .int .i64 0] 45)
  have kX : Kept (fun _ => True) w (w.alloc (.cells #[.int .i64 0, .slice none 0 0, .int .i64 0, .int .i64 0] 45)) := (Kept.refl _ _).alloc _
  have H : Hid (Tm (w.alloc (.cells #[.int .i64 0, .slice none 0 0, .int .i64 0, .int .i64 0] 45)) b T ov tv z) := h.all kX
  have HX : Hid ((w.alloc (.cells #[.int .i64 0, .slice none 0 0, .int .i64 0, .int .i64 0] 45)).heap[w.heap.size]? = some (.cells #[.int .i64 0, .slice none 0 0, .int .i64 0, .int .i64 0] 45 (0, 0))) := hX
  have KX : Hid (Kept (fun _ => True) w (w.alloc (.cells #[.int .i64 0, .slice none 0 0, .int .i64 0, .int .i64 0] 45))) := kX
  clear h hX kX
  go_enter Try.func18, Try.ntmps18
  go_wp2_with fail
  generalize w.alloc (.cells #[.int .i64 0, .slice none 0 0, .int .i64 0, .int .i64 0] 45) = w1 at *
  have C8 : ∀ W, Kept (fun _ => True) w1 W → W.cell? ⟨T, 8, none⟩ = some (.int .i64 z.oc) := fun W k => (H.out.all k).c.2.2.1
  have C9 : ∀ W, Kept (fun _ => True) w1 W → W.cell? ⟨T, 9, none⟩ = some (.int .i64 z.ar) := fun W k => (H.out.all k).c.2.2.2.1
  have C10 : ∀ W, Kept (fun _ => True) w1 W → W.cell? ⟨T, 10, none⟩ = some (.int .i64 z.wy) := fun W k => (H.out.all k).c.2.2.2.2
  go_region_held3 (fun W => Kept (fun _ => True) w1 W) (first | assumption | (repeat (first | assumption | exact Kept.refl _ _ | refine Kept.drew ?_ | refine Kept.alloc ?_ _ | refine Kept.setFresh ?_ (by first | exact Nat.le_refl _) _))) (fail)
  have hR := heap_alloc_new w1 (.cells #[.int .i64 z.oc, .slice none 0 0, .int .i64 z.ar, .int .i64 z.wy] 45)
  have kR : Kept (fun _ => True) w1 (w1.alloc (.cells #[.int .i64 z.oc, .slice none 0 0, .int .i64 z.ar, .int .i64 z.wy] 45)).drew := ((Kept.refl _ _).alloc _).drew
  have HR : Hid ((w1.alloc (.cells #[.int .i64 z.oc, .slice none 0 0, .int .i64 z.ar, .int .i64 z.wy] 45)).drew.heap[w1.heap.size]? = some (.cells #[.int .i64 z.oc, .slice none 0 0, .int .i64 z.ar, .int .i64 z.wy] 45 (0, 0))) := hR
  have H2 : Hid (Tm (w1.alloc (.cells #[.int .i64 z.oc, .slice none 0 0, .int .i64 z.ar, .int .i64 z.wy] 45)).drew b T ov tv z) := H.out.all kR
  have HX2 : Hid ((w1.alloc (.cells #[.int .i64 z.oc, .slice none 0 0, .int .i64 z.ar, .int .i64 z.wy] 45)).drew.heap[w.heap.size]? = some (.cells #[.int .i64 0, .slice none 0 0, .int .i64 0, .int .i64 0] 45 (0, 0))) := (kR.block _ (lt_of_block HX.out) trivial).trans HX.out
  have K2 : Hid (Kept (fun _ => True) w (w1.alloc (.cells #[.int .i64 z.oc, .slice none 0 0, .int .i64 z.ar, .int .i64 z.wy] 45)).drew) := KX.out.trans kR
  have HLT : Hid (w.heap.size < w1.heap.size) := lt_of_block HX.out
  clear hR kR C8 C9 C10 H HX KX
  generalize (w1.alloc (.cells #[.int .i64 z.oc, .slice none 0 0, .int .i64 z.ar, .int .i64 z.wy] 45)).drew = w2 at *
  generalize w1.heap.size = R at *
  have c8 := H2.out.c.2.2.1
  obtain ⟨r0, r1, r2, r3⟩ := rfour_cell HR.out
  by_cases hc : z.oc = 1
  · have HT : Hid (z.told = z.tx) := if_pos hc
    have hq : (z.oc == 1) = true := by simpa using hc
    have c1 := H2.out.c.2.1
    have c1d : w2.drew.cell? ⟨T, 1, none⟩ = some tv := c1
    have r1d : w2.drew.cell? ⟨R, 1, none⟩ = some (.slice none 0 0) := r1
    have HML : Hid (([] : List (List UInt8)).length + z.tx.length ≤ 1099511627776) := by
      show _ ≤ _
      have := H2.out.len
      have := H2.out.few
      simp only [List.length_nil]
      omega
    have H2d : Hid (Txs w2.drew b tv z.tx) := H2.out.tx.kept (p := fun _ => True) ((Kept.refl _ _).drew) (fun _ _ => trivial)
    clear hc
    go_wp2_with fail
    go_region_law (first
      | (refine step_append_texts ?_ (.tmp 23) (.tmp 27) ?_ w.heap.size b (.slice none 0 0) tv [] z.tx ?_ ?_ ?_ ?_ ?_ ?_ ?_; rfl; rfl; rfl; exact Txs.nil _ _; rfl; exact H2d.out; exact K2.out.size; exact HML.out; intro ro rc w3 ho3 hg3; have k3 : Kept (fun _ => True) w2 w3 := (Kept.refl _ _).drew.trans ((grown_kept hg3).mono (fun _ _ _ => by simp [Value.ownBlock])); have HO3 : Hid (Txs w3 w.heap.size (.slice ro (([] : List (List UInt8)).length + z.tx.length) rc) ([] ++ z.tx)) := ho3; have K3 : Hid (Kept (fun _ => True) w2 w3) := k3; have hR3 := (k3.block _ (lt_of_block HR.out) trivial).trans HR.out; obtain ⟨q0, q1, q2, q3⟩ := rfour_cell hR3; have f1 : w3.frozen? ⟨R, 1, none⟩ = false := (by simp [World.frozen?, hR3]); have HR3 : Hid (w3.heap[R]? = some (.cells #[.int .i64 z.oc, .slice none 0 0, .int .i64 z.ar, .int .i64 z.wy] 45 (0, 0))) := hR3; clear ho3 hg3 k3 hR3))
    all_goals
      have HO4 : Hid (Txs (w3.setCell ⟨R, 1, none⟩ (.slice ro z.tx.length rc)) w.heap.size (.slice ro z.tx.length rc) z.tx) := by
        have ho : Txs w3 w.heap.size (.slice ro z.tx.length rc) z.tx := by simpa using HO3.out
        exact ho.kept (p := (· ≠ R)) ((Kept.refl _ _).setCell (by simp) _) (fun x hx e => ho.ne HR3.out (by decide) (e ▸ hx))
      have hR4 := mset_at HR3.out 1 (.slice ro z.tx.length rc)
      have kR4 : Kept (· ≠ R) w3 (w3.setCell ⟨R, 1, none⟩ (.slice ro z.tx.length rc)) := (Kept.refl _ _).setCell (by simp) _
      have hX3 := (K3.out.block _ (lt_of_block HX2.out) trivial).trans HX2.out
      have hX4 := (kR4.block _ (lt_of_block hX3) (Nat.ne_of_lt HLT.out)).trans hX3
      have K4 : Hid (Kept (fun _ => True) w (w3.setCell ⟨R, 1, none⟩ (.slice ro z.tx.length rc))) := (K2.out.trans K3.out).setFresh (Nat.le_of_lt HLT.out) _
      have HX4 : Hid ((w3.setCell ⟨R, 1, none⟩ (.slice ro z.tx.length rc)).heap[w.heap.size]? = some (.cells #[.int .i64 0, .slice none 0 0, .int .i64 0, .int .i64 0] 45 (0, 0))) := hX4
      clear kR4 hX3 K3 HR3 HO3 H2d K2 q0 q1 q2 q3 f1 r0 r1 r2 r3 c8 c1 c1d r1d
      generalize w3.setCell ⟨R, 1, none⟩ (.slice ro z.tx.length rc) = w4 at *
      obtain ⟨q0, q1, q2, q3⟩ := rfour_cell hR4
      obtain ⟨x0, x1, x2, x3⟩ := rfour_cell hX4
      have f0 : w4.frozen? ⟨w.heap.size, 0, none⟩ = false := by simp [World.frozen?, hX4]
      have f1 : w4.frozen? ⟨w.heap.size, 1, none⟩ = false := by simp [World.frozen?, hX4]
      have f2 : w4.frozen? ⟨w.heap.size, 2, none⟩ = false := by simp [World.frozen?, hX4]
      have f3 : w4.frozen? ⟨w.heap.size, 3, none⟩ = false := by simp [World.frozen?, hX4]
      clear hR4 hX4
      go_wp2_with fail
      refine bodyPost_ret (results_reply rfl _ _ rfl (mset_at (mset_at (mset_at (mset_at HX4.out 0 _) 1 _) 2 _) 3 _)) rfl ?_
      have kz : Kept (· ≠ w.heap.size) w4 ((((w4.setCell ⟨w.heap.size, 0, none⟩ (.int .i64 z.oc)).setCell ⟨w.heap.size, 1, none⟩ (.slice ro z.tx.length rc)).setCell ⟨w.heap.size, 2, none⟩ (.int .i64 z.ar)).setCell ⟨w.heap.size, 3, none⟩ (.int .i64 z.wy)) := ((((Kept.refl _ _).setCell (by simp) _).setCell (by simp) _).setCell (by simp) _).setCell (by simp) _
      refine ⟨ro, rc, ?_, ?_, (((K4.out.setFresh (Nat.le_refl _) _).setFresh (Nat.le_refl _) _).setFresh (Nat.le_refl _) _).setFresh (Nat.le_refl _) _⟩
      · rw [HT.out]
      · rw [HT.out]
        exact HO4.out.kept kz (fun x hx e => HO4.out.ne HX4.out (by decide) (e ▸ hx))
  · have HT : Hid (z.told = []) := if_neg hc
    have hq : (z.oc == 1) = false := by simpa using hc
    clear hc
    obtain ⟨x0, x1, x2, x3⟩ := rfour_cell HX2.out
    have f0 : w2.frozen? ⟨w.heap.size, 0, none⟩ = false := by simp [World.frozen?, HX2.out]
    have f1 : w2.frozen? ⟨w.heap.size, 1, none⟩ = false := by simp [World.frozen?, HX2.out]
    have f2 : w2.frozen? ⟨w.heap.size, 2, none⟩ = false := by simp [World.frozen?, HX2.out]
    have f3 : w2.frozen? ⟨w.heap.size, 3, none⟩ = false := by simp [World.frozen?, HX2.out]
    go_wp2_with fail
    refine bodyPost_ret (results_reply rfl _ _ rfl (mset_at (mset_at (mset_at (mset_at HX2.out 0 _) 1 _) 2 _) 3 _)) rfl ?_
    refine ⟨none, 0, ?_, ?_, (((K2.out.setFresh (Nat.le_refl _) _).setFresh (Nat.le_refl _) _).setFresh (Nat.le_refl _) _).setFresh (Nat.le_refl _) _⟩
    · rw [HT.out]; rfl
    · rw [HT.out]; exact Txs.nil _ _

end Go.Proofs.Ytebpkhemkdgbjaa
