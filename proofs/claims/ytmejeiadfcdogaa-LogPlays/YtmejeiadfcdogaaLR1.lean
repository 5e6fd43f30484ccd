/-
  The document's log in memory; Next, Get, Learn.
-/
import Derived.Test.YtmejeiadfcdogaaL3
import Derived.Test.YtmejeiadfcdogaaPArr
namespace Go.Proofs.Ytmejeiadfcdogaa
open Go.RowKit

/-- The cells of the document's log. -/
def rcell (b t : Nat) (f : Vals) (i : Nat) : Value :=
  if i < 512 then .string ⟨((f (i : Int)).getD []).toArray⟩ else if i < 1024 then .bool (f ((i - 512 : Nat) : Int)).isSome else if i = 1024 then .int .i64 (b : Nat) else .int .i64 (t : Nat)
theorem rcell_v (b t : Nat) (f : Vals) {s : Nat} (h : s < 512) : rcell b t f s = .string ⟨((f (s : Int)).getD []).toArray⟩ := by unfold rcell; rw [if_pos h]
theorem rcell_k (b t : Nat) (f : Vals) {s : Nat} (h : s < 512) : rcell b t f (512 + s) = .bool (f (s : Int)).isSome := by
  unfold rcell
  rw [if_neg (by omega), if_pos (by omega), show 512 + s - 512 = s by omega]
theorem rcell_b (b t : Nat) (f : Vals) : rcell b t f 1024 = .int .i64 (b : Nat) := rfl
theorem rcell_t (b t : Nat) (f : Vals) : rcell b t f 1025 = .int .i64 (t : Nat) := rfl

/-- The document's log in block R. -/
def Rl (w : World) (R b t : Nat) (f : Vals) : Prop := Af w R 42 1026 (rcell b t f)

section
variable {w w' : World} {R b t : Nat} {f : Vals}
theorem Rl.lt (h : Rl w R b t f) : R < w.heap.size := Af.lt h
theorem Rl.kept {p : Nat → Prop} (h : Rl w R b t f) (k : Kept p w w') (hp : p R) : Rl w' R b t f := Af.kept h k hp
theorem Rl.cv (h : Rl w R b t f) {s : Nat} (hs : s < 512) : w.cell? ⟨R, s, none⟩ = some (.string ⟨((f (s : Int)).getD []).toArray⟩) := by
  rw [← rcell_v b t f hs]; exact Af.cell h (by omega)
theorem Rl.ck (h : Rl w R b t f) {s : Nat} (hs : s < 512) : w.cell? ⟨R, 512 + s, none⟩ = some (.bool (f (s : Int)).isSome) := by
  rw [← rcell_k b t f hs]; exact Af.cell h (by omega)
theorem Rl.cb (h : Rl w R b t f) : w.cell? ⟨R, 1024, none⟩ = some (.int .i64 (b : Nat)) := Af.cell h (by omega)
theorem Rl.ct (h : Rl w R b t f) : w.cell? ⟨R, 1025, none⟩ = some (.int .i64 (t : Nat)) := Af.cell h (by omega)
theorem Rl.fr (h : Rl w R b t f) (i : Nat) : w.frozen? ⟨R, i, none⟩ = false := Af.free h i

theorem Rl.setBase (h : Rl w R b t f) (k : Nat) : Rl (w.setCell ⟨R, 1024, none⟩ (.int .i64 (k : Nat))) R k t f :=
  (Af.set h 1024 _).congr (fun i hi => by
    by_cases e : i = 1024
    · subst e; rw [if_pos rfl]; rfl
    · rw [if_neg e]; unfold rcell; simp only [e, if_false])
theorem Rl.setTaken (h : Rl w R b t f) (k : Nat) : Rl (w.setCell ⟨R, 1025, none⟩ (.int .i64 (k : Nat))) R b k f :=
  (Af.set h 1025 _).congr (fun i hi => by
    by_cases e : i = 1025
    · subst e; rw [if_pos rfl]; rfl
    · rw [if_neg e]
      have : i < 1025 := by omega
      unfold rcell
      split
      · rfl
      · split
        · rfl
        · rw [if_pos (by omega), if_pos (by omega)])
/-- A slot's two cells are written. -/
theorem Rl.put (h : Rl w R b t f) {s : Nat} (hs : s < 512) (v : List UInt8) : Rl ((w.setCell ⟨R, 512 + s, none⟩ (.bool true)).setCell ⟨R, s, none⟩ (.string ⟨v.toArray⟩)) R b t (put f (s : Int) v) :=
  (Af.set (Af.set h (512 + s) (.bool true)) s (.string ⟨v.toArray⟩)).congr (fun i hi => by
    by_cases e : i = s
    · subst e
      rw [if_pos rfl, rcell_v _ _ _ hs]
      simp [Proofs.Ytmejeiadfcdogaa.put]
    · rw [if_neg e]
      by_cases e2 : i = 512 + s
      · subst e2
        rw [if_pos rfl, rcell_k _ _ _ hs]
        simp [Proofs.Ytmejeiadfcdogaa.put]
      · rw [if_neg e2]
        unfold rcell Proofs.Ytmejeiadfcdogaa.put
        split
        · rw [if_neg (by omega)]
        · split
          · rw [if_neg (by omega)]
          · rfl)
theorem Rl.strike (h : Rl w R b t f) {s : Nat} (hs : s < 512) : Rl ((w.setCell ⟨R, 512 + s, none⟩ (.bool false)).setCell ⟨R, s, none⟩ (.string ⟨#[]⟩)) R b t (strike f (s : Int)) :=
  (Af.set (Af.set h (512 + s) (.bool false)) s (.string ⟨#[]⟩)).congr (fun i hi => by
    by_cases e : i = s
    · subst e
      rw [if_pos rfl, rcell_v _ _ _ hs]
      simp [Proofs.Ytmejeiadfcdogaa.strike]
    · rw [if_neg e]
      by_cases e2 : i = 512 + s
      · subst e2
        rw [if_pos rfl, rcell_k _ _ _ hs]
        simp [Proofs.Ytmejeiadfcdogaa.strike]
      · rw [if_neg e2]
        unfold rcell Proofs.Ytmejeiadfcdogaa.strike
        split
        · rw [if_neg (by omega)]
        · split
          · rw [if_neg (by omega)]
          · rfl)

/-- The document's log has what x has. -/
structure Rm (w : World) (R : Nat) (x : Lo) : Prop where
  rl : Rl w R x.base x.taken x.f
  ok : x.Ok
theorem Rm.kept {p : Nat → Prop} {x : Lo} (h : Rm w R x) (k : Kept p w w') (hp : p R) : Rm w' R x := ⟨h.rl.kept k hp, h.ok⟩
theorem Rm.lt {x : Lo} (h : Rm w R x) : R < w.heap.size := h.rl.lt

set_option maxRecDepth 100000 in
set_option maxHeartbeats 1000000 in
theorem rnext_any {x : Lo} (h : Rm w R x) :
    Calls Try.prog 26 #[.pointer (some ⟨R, 0, none⟩)] w fun e w' => ∃ m : Nat, e = .returned (.int .i64 (m : Nat)) ∧ IsNext x.f x.taken m ∧ w' = w := by
  have H : Hid (Rm w R x) := h
  have cb := h.rl.cb
  have hb : x.base ≤ 512 := Nat.le_trans h.ok.le h.ok.most
  clear h
  go_enter Try.func26, Try.ntmps26
  go_wp2_with fail
  go_loopw [3] (fun u wr => ∃ k : Nat, u = .int .i64 (k : Nat) ∧ x.base ≤ k ∧ k ≤ 512 ∧ (∀ z : Int, x.base ≤ z → z < k → x.f z ≠ none) ∧ wr = w) (fun u _ => 512 - (intOf u).toNat)
  case atStart => exact ⟨x.base, rfl, Nat.le_refl _, hb, fun z a b => by omega, rfl⟩
  case round =>
    obtain ⟨k, rfl, h1, h2, h3, rfl⟩ := hrel
    have H3 : Hid (∀ z : Int, x.base ≤ z → z < k → x.f z ≠ none) := h3
    clear h3
    have g0 : (0 : Int) ≤ (k : Int) := by omega
    by_cases hk : k < 512
    · have g1 : (k : Int) < 512 := by omega
      have ck := H.out.rl.ck hk
      cases hf : x.f (k : Int) with
      | none =>
        rw [hf] at ck
        simp only [Option.isSome_none] at ck
        have HF : Hid (x.f (k : Int) = none) := hf
        clear hf
        go_wp2
        go_ret
        exact ⟨k, rfl, H.out.ok.base_next ⟨h1, H3.out, HF.out⟩, rfl⟩
      | some v =>
        rw [hf] at ck
        simp only [Option.isSome_some] at ck
        have HF : Hid (x.f (k : Int) = some v) := hf
        clear hf
        go_wp2
        refine ⟨⟨k + 1, by go_num, by omega, by omega, fun z a b => ?_, trivial⟩, by simp [intOf]; omega⟩
        by_cases hz : z = (k : Int)
        · rw [hz, HF.out]; simp
        · exact H3.out z a (by omega)
    · have g1 : ¬ (k : Int) < 512 := by omega
      have e : k = 512 := by omega
      subst e
      go_wp2
      go_ret
      exact ⟨512, rfl, H.out.ok.base_next ⟨h1, H3.out, H.out.ok.high _ (by omega)⟩, rfl⟩
end

end Go.Proofs.Ytmejeiadfcdogaa
