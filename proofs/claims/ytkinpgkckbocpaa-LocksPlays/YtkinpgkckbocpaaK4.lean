/-
  put and give.
-/
import Derived.Test.YtkinpgkckbocpaaK3
namespace Go.Proofs.Ytkinpgkckbocpaa
open Go.RowKit Go.Maps

/-- f with v at a, b. -/
def updF {α : Type} (f : List UInt8 → List UInt8 → Option α) (a b : List UInt8) (v : α) : List UInt8 → List UInt8 → Option α := fun x y => if x = a ∧ y = b then some v else f x y
/-- What a put into one side leaves. -/
structure Puts (s : Bool) (B : Lab → Option Nat) (w w' : World) (B' : Lab → Option Nat) : Prop where
  kept : Kept (fun k => ∀ x, B (s, x) ≠ some k) w w'
  other : ∀ x : Lab, x.1 ≠ s → B' x = B x
  top : B' (s, none) = B (s, none)
  apart : ∀ x y b, B' (s, x) = some b → B' (s, y) = some b → x = y
  news : ∀ x b, B' (s, x) = some b → B (s, x) = some b ∨ w.heap.size ≤ b

section
variable {α : Type} {C : Code α} {s : Bool} {w w' : World} {n : Nat} {B : Lab → Option Nat} {f : List UInt8 → List UInt8 → Option α} {a b : List UInt8} {v : α}
theorem updF_row : updF f a b v a = putM (f a) b v := by
  funext y
  simp [updF, putM]
theorem updF_other {x : List UInt8} (hx : x ≠ a) : updF f a b v x = f x := by
  funext y
  simp [updF, hx]
theorem Sd.put_old (S : Sd C s w n B f) (hA : ∀ x y b, B (s, x) = some b → B (s, y) = some b → x = y) {k : Nat} (hk : B (s, some a) = some k) (m : Mp C w' k (n + 1) (putM (f a) b v)) (kp : Kept (· ≠ k) w w') :
    Sd C s w' (n + 1) B (updF f a b v) ∧ Puts s B w w' B := by
  obtain ⟨H, hH, mo⟩ := S.out
  have hne : ∀ x q, B (s, x) = some q → x ≠ some a → q ≠ k := fun x q hq hx e => hx (hA x (some a) k (e ▸ hq) hk)
  refine ⟨⟨⟨H, hH, (mo.kept kp (hne none H hH (by simp))).mono (by omega)⟩, fun x q hq => ?_, fun x hx y => ?_, fun x q hq => ?_⟩, kp.mono (fun i _ hi e => hi (some a) (e ▸ hk)), fun _ _ => rfl, rfl, hA, fun _ _ e => .inl e⟩
  · by_cases hx : x = a
    · subst hx
      rw [hk] at hq
      cases hq
      rw [updF_row]
      exact m
    · rw [updF_other hx]
      exact ((S.inn x q hq).kept kp (hne _ q hq (by simpa using hx))).mono (by omega)
  · have hxa : x ≠ a := by rintro rfl; rw [hk] at hx; cases hx
    rw [updF_other hxa]
    exact S.non x hx y
  · by_cases hx : x = a
    · subst hx
      exact ⟨b, by simp [updF]⟩
    · rw [updF_other hx]
      exact S.any x q hq
/-- B with q at a place. -/
def upB (B : Lab → Option Nat) (x : Lab) (q : Option Nat) : Lab → Option Nat := fun y => if y = x then q else B y
theorem upB_same (B : Lab → Option Nat) (x : Lab) (q : Option Nat) : upB B x q x = q := by simp [upB]
theorem upB_other (B : Lab → Option Nat) {x y : Lab} (q : Option Nat) (h : y ≠ x) : upB B x q y = B y := by simp [upB, h]
theorem Sd.put_new (S : Sd C s w n B f) (hA : ∀ x y b, B (s, x) = some b → B (s, y) = some b → x = y) (hk : B (s, some a) = none) {H q : Nat} (hH : B (s, none) = some H) (hq : w.heap.size ≤ q) (mo : Mp codeM w' H (n + 1) (putM (fun x => (B (s, some x)).map some) a (some q))) (mi : Mp C w' q (n + 1) (putM (fun _ => none) b v)) (kp : Kept (fun k => k ≠ H ∧ k ≠ q) w w') :
    Sd C s w' (n + 1) (upB B (s, some a) (some q)) (updF f a b v) ∧ Puts s B w w' (upB B (s, some a) (some q)) := by
  have hlt : ∀ x k, B (s, x) = some k → k < w.heap.size := fun x k e => S.lt e
  have hn0 : (s, none) ≠ ((s, some a) : Lab) := by simp
  have hf : f a = fun _ => none := funext (S.non a hk)
  refine ⟨⟨⟨H, by rw [upB_other _ _ hn0]; exact hH, ?_⟩, fun x k e => ?_, fun x e y => ?_, fun x k e => ?_⟩, kp.mono (fun i hi h => ⟨fun e => h none (e ▸ hH), fun e => by omega⟩), fun x hx => upB_other _ _ (fun e => hx (by rw [e])), upB_other _ _ hn0, fun x y k h1 h2 => ?_, fun x k e => ?_⟩
  · refine mo.congr fun x => ?_
    by_cases hx : x = a
    · subst hx
      rw [upB_same]
      simp [putM]
    · rw [upB_other _ _ (by simpa using hx)]
      simp [putM, hx]
  · by_cases hx : x = a
    · subst hx
      rw [upB_same] at e
      cases e
      rw [updF_row, hf]
      exact mi
    · rw [upB_other _ _ (by simpa using hx)] at e
      rw [updF_other hx]
      have h1 := hlt _ k e
      exact ((S.inn x k e).kept kp ⟨fun h => by have := hA (some x) none k e (h ▸ hH); simp at this, by omega⟩).mono (by omega)
  · by_cases hx : x = a
    · subst hx
      rw [upB_same] at e
      cases e
    · rw [upB_other _ _ (by simpa using hx)] at e
      rw [updF_other hx]
      exact S.non x e y
  · by_cases hx : x = a
    · subst hx
      exact ⟨b, by simp [updF]⟩
    · rw [upB_other _ _ (by simpa using hx)] at e
      rw [updF_other hx]
      exact S.any x k e
  · by_cases hx : x = some a
    · by_cases hy : y = some a
      · rw [hx, hy]
      · subst hx
        rw [upB_same] at h1
        cases h1
        rw [upB_other _ _ (by simpa using hy)] at h2
        have := hlt _ _ h2
        omega
    · rw [upB_other _ _ (by simpa using hx)] at h1
      by_cases hy : y = some a
      · subst hy
        rw [upB_same] at h2
        cases h2
        have := hlt _ _ h1
        omega
      · rw [upB_other _ _ (by simpa using hy)] at h2
        exact hA x y k h1 h2
  · by_cases hx : x = some a
    · subst hx
      rw [upB_same] at e
      cases e
      exact .inr hq
    · rw [upB_other _ _ (by simpa using hx)] at e
      exact .inl e
end

/-- Ahead of a put something was made. -/
theorem Puts.late {s : Bool} {B B' : Lab → Option Nat} {w w1 w' : World} (k : Kept (fun _ => True) w w1) (p : Puts s B w1 w' B') : Puts s B w w' B' :=
  ⟨(k.mono (fun _ _ _ => trivial)).trans p.kept, p.other, p.top, p.apart, fun x b e => by
    have := k.size
    rcases p.news x b e with h | h
    · exact .inl h
    · exact .inr (by omega)⟩

set_option maxRecDepth 100000 in
set_option maxHeartbeats 1000000 in
theorem put_hold {w : World} {n H : Nat} {B : Lab → Option Nat} {f : List UInt8 → List UInt8 → Option Bool} (S : Sd codeH false w n B f) (hA : ∀ x y b, B (false, x) = some b → B (false, y) = some b → x = y) (hH : B (false, none) = some H) {a b : List UInt8} (ha : a.length ≤ 9223372036854775807) (hb : b.length ≤ 9223372036854775807) (v : Bool) (hn : n ≤ 1000000) :
    Calls Try.prog 33 #[.map (some H), .string ⟨a.toArray⟩, .string ⟨b.toArray⟩, .agg #[.bool v]] w fun e w' => e = .returned (.tuple #[]) ∧ ∃ B', Sd codeH false w' (n + 1) B' (updF f a b v) ∧ Puts false B w w' B' := by
  have qm : ∀ (w : World) (r : Option Nat), (binOp .eql 57 (.map r) (.map none)).run Try.prog w = .ok (.bool r.isNone) w := fun w r => run_eql_map_nil w _ _ _ r Try.underlying57
  have k0 : Kept (fun _ => True) w (w.alloc (.cells #[.bool v] 59)) := (Kept.refl _ _).alloc _
  have HK0 : Hid (Kept (fun _ => True) w (w.alloc (.cells #[.bool v] 59))) := k0
  have S0 := S.kept k0 (fun _ _ _ => trivial)
  have hbx := heap_alloc_new w (.cells #[.bool v] 59)
  have hwl' : Hid ((w.alloc (.cells #[.bool v] 59)).heap.size = w.heap.size + 1) := by show _ = _; simp
  clear S
  have hl := S0.look1 hH Try.underlying51 (zeroMapH _) ha
  have HS : Hid (Sd codeH false (w.alloc (.cells #[.bool v] 59)) n B f) := S0
  have HA : Hid (∀ x y b, B (false, x) = some b → B (false, y) = some b → x = y) := hA
  clear hA k0
  cases hk : B (false, some a) with
  | some k =>
    have HB : Hid (B (false, some a) = some k) := hk
    rw [hk] at hl
    obtain ⟨w1, hst, m1, k1, z1⟩ := (S0.inn a k hk).store Try.underlying57 hb hn v
    have hst' : (Instr.mapUpdate 57 (.map (some k)) (.string ⟨b.toArray⟩) (.agg #[.bool v])).run Try.prog (w.alloc (.cells #[.bool v] 59)) = .ok () w1 := hst
    have HM : Hid (Mp codeH w1 k (n + 1) (putM (f a) b v)) := m1
    have HK1 : Hid (Kept (· ≠ k) (w.alloc (.cells #[.bool v] 59)) w1) := k1
    clear hst m1 k1 hk S0 hbx
    go_enter Try.func33, Try.ntmps33
    go_wp2_with fail
    go_end0
    obtain ⟨r1, r2⟩ := HS.out.put_old HA.out HB.out HM.out HK1.out
    exact ⟨rfl, B, r1, r2.late HK0.out⟩
  | none =>
    have HB : Hid (B (false, some a) = none) := hk
    rw [hk] at hl
    have hmm := @run_makeMap Try.prog
    have k1 : Kept (fun _ => True) (w.alloc (.cells #[.bool v] 59)) ((w.alloc (.cells #[.bool v] 59)).alloc (.map #[] 0)) := (Kept.refl _ _).alloc _
    have mi := Mp.made codeH (w.alloc (.cells #[.bool v] 59))
    rw [hwl'.out] at mi
    have S1 := S0.kept k1 (fun _ _ _ => trivial)
    obtain ⟨w2, hst, m2, k2, z2⟩ := (S1.whole hH).store Try.underlying51 ha hn (some (w.heap.size + 1))
    have hst' : (Instr.mapUpdate 51 (.map (some H)) (.string ⟨a.toArray⟩) (.map (some (w.heap.size + 1)))).run Try.prog ((w.alloc (.cells #[.bool v] 59)).alloc (.map #[] 0)) = .ok () w2 := hst
    have hHlt : H < w.heap.size + 1 := by have := S0.lt hH; have := hwl'.out; omega
    have mi2 := mi.kept k2 (fun e => by omega)
    have hl2 := m2.look1 Try.underlying51 (z := none) (zeroMapH w2) ha
    have el : (putM (fun x => (B (false, some x)).map some) a (some (w.heap.size + 1)) a).getD none = some (w.heap.size + 1) := by simp [putM]
    rw [el] at hl2
    change (Instr.lookup _ _ _ false).run _ _ = .ok (.map (some (w.heap.size + 1))) w2 at hl2
    have hne : w.heap.size ≠ H := by
      intro e
      obtain ⟨es, clock, hm⟩ := (S0.whole hH).isMap
      rw [e] at hbx
      rw [hm] at hbx
      simp at hbx
    have hbx2 : w2.heap[w.heap.size]? = some (.cells #[.bool v] 59) := (k2.block w.heap.size (by simp; omega) hne).trans ((k1.block w.heap.size (by simp) trivial).trans hbx)
    obtain ⟨w3, hst3, m3, k3, z3⟩ := mi2.store Try.underlying57 hb (by omega) v
    have hst3' : (Instr.mapUpdate 57 (.map (some (w.heap.size + 1))) (.string ⟨b.toArray⟩) (.agg #[.bool v])).run Try.prog w2 = .ok () w3 := hst3
    have HM : Hid (Mp codeM w3 H (n + 1) (putM (fun x => (B (false, some x)).map some) a (some (w.heap.size + 1)))) := m2.kept k3 (fun e => by omega)
    have HI : Hid (Mp codeH w3 (w.heap.size + 1) (n + 1) (putM (fun _ => none) b v)) := m3.mono (by omega)
    have HKK : Hid (Kept (fun k => k ≠ H ∧ k ≠ w.heap.size + 1) (w.alloc (.cells #[.bool v] 59)) w3) := ((k1.mono (fun _ _ _ => trivial)).trans (k2.mono (fun _ _ h => h.1))).trans (k3.mono (fun _ _ h => h.2))
    clear hst hst3 m2 m3 mi mi2 k1 k2 k3 S0 S1 hk el hbx hne
    have hcl : w2.cell? ⟨w.heap.size, 0, none⟩ = some (.bool v) := by simp [World.cell?, hbx2]
    go_enter Try.func33, Try.ntmps33
    go_wp2_with fail
    go_end0
    obtain ⟨r1, r2⟩ := HS.out.put_new HA.out HB.out hH (by rw [hwl'.out]; exact Nat.le_refl _) HM.out HI.out HKK.out
    exact ⟨rfl, _, r1, r2.late HK0.out⟩

set_option maxRecDepth 100000 in
set_option maxHeartbeats 1000000 in
theorem put_unit {w : World} {n H : Nat} {B : Lab → Option Nat} {f : List UInt8 → List UInt8 → Option Unit} (S : Sd codeU true w n B f) (hA : ∀ x y b, B (true, x) = some b → B (true, y) = some b → x = y) (hH : B (true, none) = some H) {a b : List UInt8} (ha : a.length ≤ 9223372036854775807) (hb : b.length ≤ 9223372036854775807) (hn : n ≤ 1000000) :
    Calls Try.prog 34 #[.map (some H), .string ⟨a.toArray⟩, .string ⟨b.toArray⟩, .agg #[]] w fun e w' => e = .returned (.tuple #[]) ∧ ∃ B', Sd codeU true w' (n + 1) B' (updF f a b ()) ∧ Puts true B w w' B' := by
  have qm : ∀ (w : World) (r : Option Nat), (binOp .eql 63 (.map r) (.map none)).run Try.prog w = .ok (.bool r.isNone) w := fun w r => run_eql_map_nil w _ _ _ r Try.underlying63
  have k0 : Kept (fun _ => True) w (w.alloc (.cells #[] 62)) := (Kept.refl _ _).alloc _
  have HK0 : Hid (Kept (fun _ => True) w (w.alloc (.cells #[] 62))) := k0
  have S0 := S.kept k0 (fun _ _ _ => trivial)
  have hbx := heap_alloc_new w (.cells #[] 62)
  have hwl' : Hid ((w.alloc (.cells #[] 62)).heap.size = w.heap.size + 1) := by show _ = _; simp
  clear S
  have hl := S0.look1 hH Try.underlying52 (zeroMapU _) ha
  have HS : Hid (Sd codeU true (w.alloc (.cells #[] 62)) n B f) := S0
  have HA : Hid (∀ x y b, B (true, x) = some b → B (true, y) = some b → x = y) := hA
  clear hA k0
  cases hk : B (true, some a) with
  | some k =>
    have HB : Hid (B (true, some a) = some k) := hk
    rw [hk] at hl
    obtain ⟨w1, hst, m1, k1, z1⟩ := (S0.inn a k hk).store Try.underlying63 hb hn ()
    have hst' : (Instr.mapUpdate 63 (.map (some k)) (.string ⟨b.toArray⟩) (.agg #[])).run Try.prog (w.alloc (.cells #[] 62)) = .ok () w1 := hst
    have HM : Hid (Mp codeU w1 k (n + 1) (putM (f a) b ())) := m1
    have HK1 : Hid (Kept (· ≠ k) (w.alloc (.cells #[] 62)) w1) := k1
    clear hst m1 k1 hk S0 hbx
    go_enter Try.func34, Try.ntmps34
    go_wp2_with fail
    go_end0
    obtain ⟨r1, r2⟩ := HS.out.put_old HA.out HB.out HM.out HK1.out
    exact ⟨rfl, B, r1, r2.late HK0.out⟩
  | none =>
    have HB : Hid (B (true, some a) = none) := hk
    rw [hk] at hl
    have hmm := @run_makeMap Try.prog
    have k1 : Kept (fun _ => True) (w.alloc (.cells #[] 62)) ((w.alloc (.cells #[] 62)).alloc (.map #[] 0)) := (Kept.refl _ _).alloc _
    have mi := Mp.made codeU (w.alloc (.cells #[] 62))
    rw [hwl'.out] at mi
    have S1 := S0.kept k1 (fun _ _ _ => trivial)
    obtain ⟨w2, hst, m2, k2, z2⟩ := (S1.whole hH).store Try.underlying52 ha hn (some (w.heap.size + 1))
    have hst' : (Instr.mapUpdate 52 (.map (some H)) (.string ⟨a.toArray⟩) (.map (some (w.heap.size + 1)))).run Try.prog ((w.alloc (.cells #[] 62)).alloc (.map #[] 0)) = .ok () w2 := hst
    have hHlt : H < w.heap.size + 1 := by have := S0.lt hH; have := hwl'.out; omega
    have mi2 := mi.kept k2 (fun e => by omega)
    have hl2 := m2.look1 Try.underlying52 (z := none) (zeroMapU w2) ha
    have el : (putM (fun x => (B (true, some x)).map some) a (some (w.heap.size + 1)) a).getD none = some (w.heap.size + 1) := by simp [putM]
    rw [el] at hl2
    change (Instr.lookup _ _ _ false).run _ _ = .ok (.map (some (w.heap.size + 1))) w2 at hl2
    have hne : w.heap.size ≠ H := by
      intro e
      obtain ⟨es, clock, hm⟩ := (S0.whole hH).isMap
      rw [e] at hbx
      rw [hm] at hbx
      simp at hbx
    have hbx2 : w2.heap[w.heap.size]? = some (.cells #[] 62) := (k2.block w.heap.size (by simp; omega) hne).trans ((k1.block w.heap.size (by simp) trivial).trans hbx)
    obtain ⟨w3, hst3, m3, k3, z3⟩ := mi2.store Try.underlying63 hb (by omega) ()
    have hst3' : (Instr.mapUpdate 63 (.map (some (w.heap.size + 1))) (.string ⟨b.toArray⟩) (.agg #[])).run Try.prog w2 = .ok () w3 := hst3
    have HM : Hid (Mp codeM w3 H (n + 1) (putM (fun x => (B (true, some x)).map some) a (some (w.heap.size + 1)))) := m2.kept k3 (fun e => by omega)
    have HI : Hid (Mp codeU w3 (w.heap.size + 1) (n + 1) (putM (fun _ => none) b ())) := m3.mono (by omega)
    have HKK : Hid (Kept (fun k => k ≠ H ∧ k ≠ w.heap.size + 1) (w.alloc (.cells #[] 62)) w3) := ((k1.mono (fun _ _ _ => trivial)).trans (k2.mono (fun _ _ h => h.1))).trans (k3.mono (fun _ _ h => h.2))
    clear hst hst3 m2 m3 mi mi2 k1 k2 k3 S0 S1 hk el hbx hne
    go_enter Try.func34, Try.ntmps34
    go_wp2_with fail
    go_end0
    obtain ⟨r1, r2⟩ := HS.out.put_new HA.out HB.out hH (by rw [hwl'.out]; exact Nat.le_refl _) HM.out HI.out HKK.out
    exact ⟨rfl, _, r1, r2.late HK0.out⟩

end Go.Proofs.Ytkinpgkckbocpaa
