/-
  known.
-/
import Derived.Test.YtpgoedpodfidjaaP7
namespace Go.Proofs.Ytpgoedpodfidjaa
open Go.RowKit

def kA : Pr := (Pr.new 0 3).begins 0
def kB : Pr := kA.promise 0 ⟨1, 0⟩ [⟨5, ⟨1, 1⟩, ⟨#[120]⟩⟩]
def kC : Pr := kB.pick 5 ⟨#[121]⟩
def kD : Pr := kC.promise 2 ⟨1, 0⟩ []
def kE : Pr := kD.pick 5 ⟨#[121]⟩
def kF : Pr := kE.pick 6 ⟨#[121]⟩

theorem VR.one {w : World} {G : Nat} {x : Vo} (h : w.heap[G]? = some (.cells #[.int .i64 x.s, .int .i64 x.b.r, .int .i64 x.b.n, .string x.v] 33 (0, 0))) : VR w (.slice (some ⟨G, 0, none⟩) 1 1) [x] :=
  ⟨rfl, .inr ⟨G, 1, _, rfl, Nat.zero_le _, h, Nat.le_refl _, by decide, rfl, rfl⟩⟩
/-- A ballot in a variable. -/
structure Two (w : World) (B : Nat) (r n : Int) : Prop where
  c0 : w.cell? ⟨B, 0, none⟩ = some (.int .i64 r)
  c1 : w.cell? ⟨B, 1, none⟩ = some (.int .i64 n)
theorem Two.made (w : World) (r n : Int) : Two (w.alloc (.cells #[.int .i64 r, .int .i64 n] 27)) w.heap.size r n :=
  ⟨(bcell (heap_alloc_new w _)).1, (bcell (heap_alloc_new w _)).2⟩
theorem Two.kept {p : Nat → Prop} {w w' : World} {B : Nat} {r n : Int} (h : Two w B r n) (k : Kept p w w') (hp : p B) : Two w' B r n := ⟨cell_kept k h.c0 hp, cell_kept k h.c1 hp⟩
theorem Two.lt {w : World} {B : Nat} {r n : Int} (h : Two w B r n) : B < w.heap.size := World.block_lt_of_cell? w _ h.c0
/-- What is made behind a proposer is not of it. -/
theorem Po.off {w : World} {P n : Nat} {v : Value} {x : Pr} (h : Po w P v n x) : w.heap.size ≠ P ∧ v.ownBlock ≠ some w.heap.size :=
  ⟨Nat.ne_of_gt h.lt, fun e => absurd (h.own_lt e) (Nat.lt_irrefl _)⟩
/-- A block that is not of a proposer stays none of it. -/
theorem PS.off {w w' : World} {P B : Nat} {v v' : Value} (k : PS w w' P v v') (h : B ≠ P ∧ v.ownBlock ≠ some B) (hb : B < w.heap.size) : B ≠ P ∧ v'.ownBlock ≠ some B :=
  ⟨h.1, fun e => by rcases k.own B e with q | q; exact h.2 q; omega⟩

set_option maxRecDepth 100000 in
set_option maxHeartbeats 1000000 in
theorem pknown_any {w : World} :
    Calls Try.prog 18 #[] w fun e w' => e = .returned (.bool true) ∧ Kept (fun _ => True) w w' := by
  go_enter Try.func18, Try.ntmps18
  go_wp2_with fail
  refine Calls.mono (pnew_any (by decide) (by decide) (by decide) (by decide)) ?_
  rintro e w1 ⟨P, rfl, h1, k1, rfl⟩
  have H1 : Hid (PM w w1 w.heap.size (.slice none 0 0) 0 (Pr.new 0 3)) := ⟨h1, k1, Nat.le_refl _, fun i e => by simp [Value.ownBlock] at e⟩
  clear h1 k1
  generalize w.heap.size = P at *
  go_wp2_with fail
  refine Calls.mono (pbegin_any H1.out.po 0 (by decide)) ?_
  rintro e w2 ⟨rfl, h2, k2⟩
  have H2 : Hid (PM w w2 P (.slice none 0 0) 0 kA) := H1.out.begun h2 k2
  rw [show ((Pr.new 0 3).begins 0).b.r = 1 from by kernel_rfl, show ((Pr.new 0 3).begins 0).b.n = 0 from by kernel_rfl]
  clear h2 k2 H1
  go_wp2_with fail
  have t3 := Two.made w2 1 0
  have k3 : Kept (fun _ => True) w2 (w2.alloc (.cells #[.int .i64 1, .int .i64 0] 27)) := (Kept.refl _ _).alloc _
  have O3 : Hid (w2.heap.size ≠ P ∧ (Value.slice none 0 0).ownBlock ≠ some w2.heap.size) := H2.out.po.off
  have H3 : Hid (PM w _ P (.slice none 0 0) 0 kA) := H2.out.ahead k3
  have L3 : Hid ((w2.alloc (.cells #[.int .i64 1, .int .i64 0] 27)).heap.size = w2.heap.size + 1) := by show _ = _; simp
  clear k3 H2
  generalize w2.alloc (.cells #[.int .i64 1, .int .i64 0] 27) = w3 at *
  generalize w2.heap.size = B at *
  have k4 : Kept (fun _ => True) w3 (w3.alloc (.cells #[.int .i64 5, .int .i64 1, .int .i64 1, .string ⟨#[120]⟩] 33)) := (Kept.refl _ _).alloc _
  have H4 : Hid (PM w _ P (.slice none 0 0) 0 kA) := H3.out.ahead k4
  have hV : VR (w3.alloc (.cells #[.int .i64 5, .int .i64 1, .int .i64 1, .string ⟨#[120]⟩] 33)) (.slice (some ⟨B + 1, 0, none⟩) 1 1) [⟨5, ⟨1, 1⟩, ⟨#[120]⟩⟩] := VR.one (by rw [← L3.out]; exact heap_alloc_new _ _)
  have t4 := t3.kept k4 trivial
  refine Calls.mono (promise_any H4.out.po hV (by decide) 0 ⟨1, 0⟩) ?_
  rintro e w5 ⟨v5, n5, rfl, h5, s5⟩
  have H5 : Hid (PM w w5 P v5 n5 kB) := H4.out.step h5 s5
  have t5 := t4.kept s5.kept O3.out
  have O5 : Hid (B ≠ P ∧ v5.ownBlock ≠ some B) := s5.off O3.out t4.lt
  clear h5 s5 hV k4 t4 t3 H4 H3 O3 L3
  go_wp2_with fail
  refine Calls.mono (pick_any H5.out.po 5 ⟨#[121]⟩) ?_
  rintro e w6 ⟨v6, n6, rfl, h6, s6⟩
  have H6 : Hid (PM w w6 P v6 n6 kC) := H5.out.step h6 s6
  have t6 := t5.kept s6.kept O5.out
  have O6 : Hid (B ≠ P ∧ v6.ownBlock ≠ some B) := s6.off O5.out t5.lt
  rw [show kB.may 5 = false from by kernel_rfl]
  generalize kB.picks 5 ⟨#[121]⟩ = junk
  clear h6 s6 t5 H5 O5
  obtain ⟨t60, t61⟩ := t6
  have t6 : Hid (Two w6 B 1 0) := ⟨t60, t61⟩
  go_wp2_with fail
  refine Calls.mono (promise_any H6.out.po (VR.nil _) (by decide) 2 ⟨1, 0⟩) ?_
  rintro e w7 ⟨v7, n7, rfl, h7, s7⟩
  have H7 : Hid (PM w w7 P v7 n7 kD) := H6.out.step h7 s7
  have t7 : Hid (Two w7 B 1 0) := t6.out.kept s7.kept O6.out
  have O7 : Hid (B ≠ P ∧ v7.ownBlock ≠ some B) := s7.off O6.out t6.out.lt
  clear h7 s7 t6 H6 O6 t60 t61
  go_wp2_with fail
  refine Calls.mono (pick_any H7.out.po 5 ⟨#[121]⟩) ?_
  rintro e w8 ⟨v8, n8, rfl, h8, s8⟩
  have H8 : Hid (PM w w8 P v8 n8 kE) := H7.out.step h8 s8
  have t8 : Hid (Two w8 B 1 0) := t7.out.kept s8.kept O7.out
  have O8 : Hid (B ≠ P ∧ v8.ownBlock ≠ some B) := s8.off O7.out t7.out.lt
  rw [show kD.may 5 = true from by kernel_rfl, show kD.picks 5 ⟨#[121]⟩ = ⟨#[120]⟩ from by kernel_rfl]
  clear h8 s8 t7 H7 O7
  go_wp2_with fail
  refine Calls.mono (pick_any H8.out.po 6 ⟨#[121]⟩) ?_
  rintro e w9 ⟨v9, n9, rfl, h9, s9⟩
  have H9 : Hid (PM w w9 P v9 n9 kF) := H8.out.step h9 s9
  have t9 := t8.out.kept s9.kept O8.out
  rw [show kE.may 6 = true from by kernel_rfl, show kE.picks 6 ⟨#[121]⟩ = ⟨#[121]⟩ from by kernel_rfl]
  clear h9 s9 t8 H8 O8
  obtain ⟨t90, t91⟩ := t9
  go_wp2_with fail
  refine Calls.mono (led_any H9.out.po) ?_
  rintro e _ ⟨rfl, d, rfl⟩
  rw [show kF.led = true from by kernel_rfl]
  go_wp2
  go_ret
  exact ⟨rfl, H9.out.kept.drewN _⟩

end Go.Proofs.Ytpgoedpodfidjaa
