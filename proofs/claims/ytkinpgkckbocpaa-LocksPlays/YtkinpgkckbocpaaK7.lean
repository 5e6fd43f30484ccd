/-
  leave and Free.
-/
import Derived.Test.YtkinpgkckbocpaaK6
import Derived.Laws.IdiomRangeMap
namespace Go.Proofs.Ytkinpgkckbocpaa
open Go.RowKit Go.Maps

/-- f without a, b. -/
def cutF {α : Type} (f : List UInt8 → List UInt8 → Option α) (a b : List UInt8) : List UInt8 → List UInt8 → Option α := fun x y => if x = a ∧ y = b then none else f x y

section
variable {α : Type} {C : Code α} {s : Bool} {w w' : World} {n : Nat} {B : Lab → Option Nat} {f f' : List UInt8 → List UInt8 → Option α} {a b : List UInt8}
theorem cutF_row : cutF f a b a = cutM (f a) b := by
  funext y
  simp [cutF, cutM]
theorem cutF_other {x : List UInt8} (hx : x ≠ a) : cutF f a b x = f x := by
  funext y
  simp [cutF, hx]
theorem Sd.cut_old (S : Sd C s w n B f) (hA : ∀ x y b, B (s, x) = some b → B (s, y) = some b → x = y) {k : Nat} (hk : B (s, some a) = some k) (m : Mp C w' k n (cutM (f a) b)) (kp : Kept (· ≠ k) w w') (he : ∃ y, cutM (f a) b y ≠ none) :
    Sd C s w' n B (cutF f a b) ∧ Puts s B w w' B := by
  obtain ⟨H, hH, mo⟩ := S.out
  have hne : ∀ x q, B (s, x) = some q → x ≠ some a → q ≠ k := fun x q hq hx e => hx (hA x (some a) k (e ▸ hq) hk)
  refine ⟨⟨⟨H, hH, mo.kept kp (hne none H hH (by simp))⟩, fun x q hq => ?_, fun x hx y => ?_, fun x q hq => ?_⟩, kp.mono (fun i _ hi e => hi (some a) (e ▸ hk)), fun _ _ => rfl, rfl, hA, fun _ _ e => .inl e⟩
  · by_cases hx : x = a
    · subst hx
      rw [hk] at hq
      cases hq
      rw [cutF_row]
      exact m
    · rw [cutF_other hx]
      exact (S.inn x q hq).kept kp (hne _ q hq (by simpa using hx))
  · have hxa : x ≠ a := by rintro rfl; rw [hk] at hx; cases hx
    rw [cutF_other hxa]
    exact S.non x hx y
  · by_cases hx : x = a
    · subst hx
      rw [cutF_row]
      exact he
    · rw [cutF_other hx]
      exact S.any x q hq
/-- The map of a is struck from its side. -/
theorem Sd.strike (S : Sd C s w n B f) (hA : ∀ x y b, B (s, x) = some b → B (s, y) = some b → x = y) {H : Nat} (hH : B (s, none) = some H) (mo : Mp codeM w' H n (cutM (fun x => (B (s, some x)).map some) a)) (kp : Kept (fun k => k ≠ H ∧ B (s, some a) ≠ some k) w w') (h0 : ∀ y, f' a y = none) (h1 : ∀ x, x ≠ a → f' x = f x) :
    Sd C s w' n (upB B (s, some a) none) f' ∧ Puts s B w w' (upB B (s, some a) none) := by
  have hn0 : (s, none) ≠ ((s, some a) : Lab) := by simp
  have hof : ∀ x k, upB B (s, some a) none (s, x) = some k → B (s, x) = some k ∧ x ≠ some a := by
    intro x k e
    by_cases hx : x = some a
    · subst hx
      rw [upB_same] at e
      cases e
    · rw [upB_other _ _ (by simpa using hx)] at e
      exact ⟨e, hx⟩
  refine ⟨⟨⟨H, by rw [upB_other _ _ hn0]; exact hH, ?_⟩, fun x k e => ?_, fun x e y => ?_, fun x k e => ?_⟩, kp.mono (fun i hi h => ⟨fun e => h none (e ▸ hH), h (some a)⟩), fun x hx => upB_other _ _ (fun e => hx (by rw [e])), upB_other _ _ hn0, fun x y k e1 e2 => hA x y k (hof x k e1).1 (hof y k e2).1, fun x k e => .inl (hof x k e).1⟩
  · refine mo.congr fun x => ?_
    by_cases hx : x = a
    · subst hx
      rw [upB_same]
      simp [cutM]
    · rw [upB_other _ _ (by simpa using hx)]
      simp [cutM, hx]
  · obtain ⟨e, hx⟩ := hof _ k e
    rw [h1 x (by simpa using hx)]
    exact (S.inn x k e).kept kp ⟨fun h => by have := hA (some x) none k e (h ▸ hH); simp at this, fun h => hx (hA (some x) (some a) k e h)⟩
  · by_cases hx : x = a
    · subst hx
      exact h0 y
    · rw [upB_other _ _ (by simpa using hx)] at e
      rw [h1 x hx]
      exact S.non x e y
  · obtain ⟨e, hx⟩ := hof _ k e
    rw [h1 x (by simpa using hx)]
    exact S.any x k e
end

/-- One side alone is turned. -/
theorem Tw.oneL {w w1 : World} {T n : Nat} {B B1 : Lab → Option Nat} {f f' : Lk} {g : List UInt8 → List UInt8 → Option Unit} (t : Tw w T n B f g) (SL : Sd codeH false w1 n B1 f') (P1 : Puts false B w w1 B1) : Tw w1 T n B1 f' g ∧ Stp B w w1 B1 := by
  have o1 : ∀ x, B1 (true, x) = B (true, x) := fun x => P1.other (true, x) (by simp)
  have sr : Sd codeU true w1 n B1 g := (t.right.labels o1).kept P1.kept (fun x b e y e2 => by
    rw [o1] at e
    have := t.apart _ _ b e e2
    simp at this)
  refine t.two SL P1 sr ⟨Kept.refl _ _, fun _ _ => rfl, rfl, fun x y b e1 e2 => ?_, fun _ _ e => .inl e⟩
  rw [o1] at e1 e2
  have := t.apart _ _ b e1 e2
  simpa using this
theorem Tw.oneR {w w1 : World} {T n : Nat} {B B1 : Lab → Option Nat} {f : Lk} {g g' : List UInt8 → List UInt8 → Option Unit} (t : Tw w T n B f g) (SR : Sd codeU true w1 n B1 g') (P1 : Puts true B w w1 B1) : Tw w1 T n B1 f g' ∧ Stp B w w1 B1 := by
  refine t.two t.left ⟨Kept.refl _ _, fun _ _ => rfl, rfl, fun x y b e1 e2 => ?_, fun _ _ e => .inl e⟩ SR P1
  have := t.apart _ _ b e1 e2
  simpa using this

set_option maxRecDepth 100000 in
set_option maxHeartbeats 1000000 in
theorem leave_any {w : World} {T n : Nat} {B : Lab → Option Nat} {f : Lk} {g : List UInt8 → List UInt8 → Option Unit} (t : Tw w T n B f g) {x c : List UInt8} (hx : x.length ≤ 9223372036854775807) (hc : c.length ≤ 9223372036854775807) (hf : f c x ≠ none) :
    Calls Try.prog 30 #[.pointer (some ⟨T, 0, none⟩), .string ⟨x.toArray⟩, .string ⟨c.toArray⟩] w fun e w' => e = .returned (.tuple #[]) ∧ ∃ B', Tw w' T n B' (cutF f c x) g ∧ Stp B w w' B' ∧ (∀ y, B' (true, y) = B (true, y)) ∧ Kept (fun k => ∀ y, B (false, y) ≠ some k) w w' := by
  obtain ⟨H, D, hH, hD, hs⟩ := t.self
  have hA : ∀ x y b, B (false, x) = some b → B (false, y) = some b → x = y := fun x y b e1 e2 => by
    have := t.apart _ _ b e1 e2
    simpa using this
  obtain ⟨k, hk⟩ := Option.ne_none_iff_exists'.1 ((t.left.has c).2 ⟨x, hf⟩)
  have hl := t.left.look1 hH Try.underlying51 (zeroMapH w) hc
  rw [hk] at hl
  obtain ⟨w1, hdr, m1, k1, z1⟩ := (t.left.inn c k hk).drop Try.underlying57 hx 0
  have hkH : k ≠ H := fun e => by have := hA (some c) none k hk (e ▸ hH); simp at this
  have hmo := (t.left.whole hH).kept k1 (Ne.symm hkH)
  have hl1 := hmo.look1 Try.underlying51 (z := none) (zeroMapH w1) hc
  rw [hk] at hl1
  change (Instr.lookup _ _ _ false).run _ _ = .ok (.map (some k)) w1 at hl1
  obtain ⟨m, hm, hmn, hlen⟩ := m1.len Try.underlying57
  have c0 := (tcell hs).1
  have hTk : T ≠ k := fun e => t.self_ne _ (e ▸ hk)
  have c1 := cell_kept k1 c0 hTk
  have HT : Hid (Tw w T n B f g) := t
  have HM : Hid (Count (cutM (f c) x) m) := hm
  have HM1 : Hid (Mp codeH w1 k n (cutM (f c) x)) := m1
  have HK1 : Hid (Kept (· ≠ k) w w1) := k1
  have HA : Hid (∀ x y b, B (false, x) = some b → B (false, y) = some b → x = y) := hA
  have HKK : Hid (B (false, some c) = some k) := hk
  by_cases h0 : m = 0
  · subst h0
    obtain ⟨w2, hdr2, m2, k2, z2⟩ := hmo.drop Try.underlying51 hc 0
    have HE : Hid (∀ y, cutM (f c) x y = none) := hm.zero.1 rfl
    have HM2 : Hid (Mp codeM w2 H n (cutM (fun x => (B (false, some x)).map some) c)) := m2
    have HK2 : Hid (Kept (fun i => i ≠ H ∧ B (false, some c) ≠ some i) w w2) := (k1.mono (fun i _ h e => h.2 (e ▸ hk))).trans (k2.mono (fun i _ h => h.1))
    clear t hs m1 k1 hmo hm m2 k2 hA hk hf
    go_enter Try.func30, Try.ntmps30
    go_wp2_with fail
    go_end0
    obtain ⟨r1, r2⟩ := HT.out.left.strike (f' := cutF f c x) HA.out hH HM2.out HK2.out (fun y => by rw [cutF_row]; exact HE.out y) (fun x hx => cutF_other hx)
    obtain ⟨y1, y2⟩ := HT.out.oneL r1 r2
    exact ⟨rfl, _, y1, y2, fun y => r2.other (true, y) (by simp), r2.kept⟩
  · have h0' : ((m : Int) == 0) = false := by simp; omega
    have HE : Hid (∃ y, cutM (f c) x y ≠ none) := by
      refine Classical.byContradiction fun hn => h0 (hm.zero.2 fun y => Classical.byContradiction fun hy => hn ⟨y, hy⟩)
    clear t hs m1 k1 hmo hm hA hk hf
    go_enter Try.func30, Try.ntmps30
    go_wp2_with fail
    go_end0
    obtain ⟨r1, r2⟩ := HT.out.left.cut_old HA.out HKK.out HM1.out HK1.out HE.out
    obtain ⟨y1, y2⟩ := HT.out.oneL r1 r2
    exact ⟨rfl, _, y1, y2, fun y => rfl, r2.kept⟩

end Go.Proofs.Ytkinpgkckbocpaa
