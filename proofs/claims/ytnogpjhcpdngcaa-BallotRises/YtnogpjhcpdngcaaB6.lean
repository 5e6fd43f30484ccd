/-
  Forget: maps.DeleteFunc over the votes.
-/
import Derived.Test.YtnogpjhcpdngcaaB5
import Derived.Maps.RangeWalk
namespace Go.Proofs.Ytnogpjhcpdngcaa
open Go.RowKit

set_option maxHeartbeats 400000 in
theorem below_any {w : World} {B : Nat} {below : Int} (s a b c : Int) (v : ByteArray) (hc : w.cell? ⟨B, 0, none⟩ = some (.int .i64 below)) :
    Calls Try.prog 38 #[.int .i64 s, .agg #[.int .i64 a, .int .i64 b, .int .i64 c, .string v], .pointer (some ⟨B, 0, none⟩)] w fun e w' => e = .returned (.bool (decide (s < below))) ∧ Kept (fun _ => True) w w' := by
  have lt := World.block_lt_of_cell? w _ hc
  go_enter Try.func38, Try.ntmps38
  go_wp2
  go_ret
  exact ⟨rfl, (Kept.refl _ _).alloc _⟩

/-- What the map holds while it is swept: what is still to come stands. -/
def swept (f : Vs) (k : Int) (left : Lit → Bool) : Vs := fun s => if left (.int .i64 s) = true then f s else forgot f k s

theorem Holds.start {D : DataW Unit} {f : Vs} (h : Holds D f) (k : Int) : Holds D (swept f k (Maps.has D)) := by
  refine ⟨fun s hs e => ?_, fun s x hs e z => ?_⟩
  · cases hh : Maps.has D (.int .i64 s)
    · rfl
    · unfold swept at e
      rw [if_pos hh] at e
      have := h.no s hs e
      rw [hh] at this
      exact this.symm ▸ rfl
  · unfold swept at e
    split at e
    · exact h.yes s x hs e z
    · unfold forgot at e
      split at e
      · cases e
      · exact h.yes s x hs e z
theorem lit_same (s : Nat) (x : Int) : (Lit.int .i64 s).sameKey (.int .i64 x) = decide ((s : Int) = x) := by
  rw [Bool.eq_iff_iff, WideAt.sameKey_iff (by trivial)]
  simp
theorem Holds.drop {D : DataW Unit} {f : Vs} {k : Int} {left : Lit → Bool} (h : Holds D (swept f k left)) (x : Int) (hx : x < k) : Holds (D.del (.int .i64 x)) (swept f k (fun z => left z && !z.sameKey (.int .i64 x))) := by
  refine ⟨fun s hs e => ?_, fun s v hs e z => ?_⟩
  · by_cases hsx : (s : Int) = x
    · rw [hsx]; exact Maps.has_del_same
    · rw [Maps.has_del_other (by simpa using hsx)]
      refine h.no s hs ?_
      unfold swept at e ⊢
      simpa [lit_same, hsx] using e
  · by_cases hsx : (s : Int) = x
    · have : swept f k (fun z => left z && !z.sameKey (.int .i64 x)) s = none := by
        unfold swept
        rw [if_neg (by simp [hsx, WideAt.sameKey_self (a := .int .i64 x) trivial])]
        unfold forgot
        rw [if_pos (by omega)]
      rw [this] at e
      cases e
    · rw [Maps.atKey_del_other (by simpa using hsx)]
      refine h.yes s v hs ?_ z
      unfold swept at e ⊢
      simpa [lit_same, hsx] using e
theorem Holds.pass {D : DataW Unit} {f : Vs} {k : Int} {left : Lit → Bool} (h : Holds D (swept f k left)) (x : Int) (hx : ¬ x < k) : Holds D (swept f k (fun z => left z && !z.sameKey (.int .i64 x))) := by
  have e : ∀ s : Nat, swept f k (fun z => left z && !z.sameKey (.int .i64 x)) s = swept f k left s := by
    intro s
    unfold swept
    by_cases hsx : (s : Int) = x
    · have : forgot f k s = f s := by unfold forgot; rw [if_neg (by omega)]
      simp [hsx, this]
    · simp [lit_same, hsx]
  exact ⟨fun s hs q => h.no s hs (by rw [← e]; exact q), fun s v hs q => h.yes s v hs (by rw [← e]; exact q)⟩

theorem Kept.grownAt {w w' : World} {b : Nat} (g : w.grownBy w' (some b)) : Kept (· ≠ b) w w' :=
  ⟨g.os, g.tape, g.output, g.size, fun k hk hne => g.block k hk (fun e => hne (by cases e; rfl))⟩

theorem Holds.done {D : DataW Unit} {f : Vs} {k : Int} {left : Lit → Bool} (h : Holds D (swept f k left)) (hl : ∀ kl, left kl = false) : Holds D (forgot f k) := by
  have e : ∀ s : Nat, swept f k left s = forgot f k s := by
    intro s
    unfold swept
    rw [if_neg (by rw [hl]; simp)]
  exact ⟨fun s hs q => h.no s hs (by rw [e]; exact q), fun s v hs q => h.yes s v hs (by rw [e]; exact q)⟩
theorem ranges_kept {p : Nat → Prop} {w w' : World} {M r n cnt : Nat} {D : DataW Unit} {left : Lit → Bool} (h : w.ranges Try.prog 3 voteR M r n D left cnt) (k : Kept p w w') (hM : p M) (hr : p r) : w'.ranges Try.prog 3 voteR M r n D left cnt := by
  have h1 := h.owns.lt
  have h2 := h.lt
  obtain ⟨es, clock, since, seen, c0, hb, F, hs, hD, hr', rest⟩ := h
  exact ⟨es, clock, since, seen, c0, (k.block M h1 hM).trans hb, F, hs, hD, (k.block r h2 hr).trans hr', rest⟩

set_option maxRecDepth 100000 in
set_option maxHeartbeats 1000000 in
theorem deleteFunc_any {w : World} {M B n : Nat} {f : Vs} {below : Int} (h : Mp w M n f) (hc : w.cell? ⟨B, 0, none⟩ = some (.int .i64 below)) (hB : B ≠ M) :
    Calls Try.prog 37 #[.map (some M), .func (.func 38) #[] #[.pointer (some ⟨B, 0, none⟩)]] w fun e w' => e = .returned (.tuple #[]) ∧ Mp w' M n (forgot f below) ∧ Kept (· ≠ M) w w' := by
  obtain ⟨D, hown, hh⟩ := h
  have HH : Hid (Holds D f) := hh
  clear hh
  go_enter Try.func37, Try.ntmps37
  go_wp2_with (first | (at_range; refine wpList_range_own _ rfl _ 56 rfl 3 36 slot_key Try.underlying56 _ M n D rfl hown ?_; intro w0 hrg0 hg0 hs0) | go_in)
  go_frame
  have hr0 : w.heap.size ≤ w.heap.size := Nat.le_refl _
  generalize hr : w.heap.size = r at hrg0 ⊢
  go_loopw [4] (fun _ wr => ∃ left cnt D', wr.ranges Try.prog 3 voteR M r n D' left cnt ∧ Holds D' (swept f below left) ∧ Kept (· ≠ M) w wr) (fun _ wr => wr.rangeLeft M r)
  case atStart => exact ⟨_, _, D, hrg0, HH.out.start below, (Kept.refl _ _).grown hg0 (fun _ _ e => by cases e)⟩
  case round =>
    obtain ⟨left, cnt, D', hrg, hD, hk⟩ := hrel
    go_wp2_with (first | (at_next; refine wpList_next_ranges _ rfl _ rfl 3 slot_key voteR (Value.int .i64) (fun c : Vo => .agg #[.int .i64 c.s, .int .i64 c.b.r, .int .i64 c.b.n, .string c.v]) (fun key kl hkey => by obtain ⟨x, rfl, _⟩ := Maps.keyOf_int_inv Try.underlying3 hkey; exact ⟨x, rfl⟩) (fun v y hv => by obtain ⟨x, rfl, _⟩ := voteR_inv hv; exact ⟨x, rfl⟩) M r n D' left cnt rfl hrg ?_ ?_) | go_in)
    · intro _ hl0
      go_wp2
      go_end0
      exact ⟨rfl, ⟨D', hrg.owns, hD.done hl0⟩, hk⟩
    · rintro x c kl da db w1 cnt1 hkey hlx hv hat hrg1 hlt hg1 hs1 hen
      obtain ⟨x', ex, rfl, hwx⟩ := Maps.keyOf_int_inv Try.underlying3 hkey
      cases ex
      have hk1 : Kept (· ≠ M) w w1 := hk.then (Kept.grownAt hg1) (fun i hi _ => by omega)
      have hne := hrg.ne
      have hc1 : w1.cell? ⟨B, 0, none⟩ = some (.int .i64 below) := cell_kept hk1 hc hB
      obtain ⟨cs, ⟨cr, cn⟩, cv⟩ := c
      have HD : Hid (Holds D' (swept f below left)) := hD
      have HM : Hid (w1.rangeLeft M r = cnt1 ∧ wr.rangeLeft M r = cnt) := ⟨hrg1.left_eq, hrg.left_eq⟩
      have k2 : Kept (fun _ => True) w1 (w1.alloc (.cells #[.int .i64 cs, .int .i64 cr, .int .i64 cn, .string cv] 36)) := (Kept.refl _ _).alloc _
      clear hD hv hat hlx hwx
      by_cases hx : x < below
      · go_wp2_with (first
          | (go_at_call 38; refine Calls.mono (below_any _ _ _ _ _ (cell_kept k2 hc1 trivial)) ?_; rintro e w2 ⟨rfl, k3⟩; have hrg2 := ranges_kept hrg1 (k2.trans k3) trivial trivial)
          | (at_delete; refine wpList_delete_ranges _ rfl _ _ 56 3 rfl 36 slot_key Try.underlying56 voteR M r n D' _ cnt1 rfl hrg2 _ (.int .i64 x) rfl hkey ?_; intro w3 cnt3 hrg3 hle hturn; go_frame)
          | go_in)
        rw [Maps.strike_twice] at hrg3
        refine ⟨⟨_, _, _, hrg3, HD.out.drop x hx, hk1.trans (((k2.trans k3).mono (fun _ _ _ => trivial)).trans (Kept.turned hturn))⟩, ?_⟩
        rw [hrg3.left_eq, HM.out.2]
        omega
      · go_wp2_with (first
          | (go_at_call 38; refine Calls.mono (below_any _ _ _ _ _ (cell_kept k2 hc1 trivial)) ?_; rintro e w2 ⟨rfl, k3⟩; have hrg2 := ranges_kept hrg1 (k2.trans k3) trivial trivial)
          | go_in)
        refine ⟨⟨_, _, _, hrg2, HD.out.pass x (by omega), hk1.trans ((k2.trans k3).mono (fun _ _ _ => trivial))⟩, ?_⟩
        rw [hrg2.left_eq, HM.out.2]
        omega

set_option maxHeartbeats 400000 in
theorem forget_any {w : World} {A M n : Nat} {p : Bl} {f : Vs} (h : Ac w A M n p f) (below : Int) :
    Calls Try.prog 14 #[.pointer (some ⟨A, 0, none⟩), .int .i64 below] w fun e w' => e = .returned (.tuple #[]) ∧ Ac w' A M n p (forgot f below) ∧ Kept (fun x => x ≠ A ∧ x ≠ M) w w' := by
  obtain ⟨c0, c1, c2, f0, f1, f2⟩ := acell h.self
  have lt := h.lt
  have k1 : Kept (fun _ => True) w (w.alloc (.cells #[.int .i64 below] 3)) := (Kept.refl _ _).alloc _
  have h1 := h.all k1
  have hc := cell_of_one (heap_alloc_new w (.cells #[.int .i64 below] 3))
  have c := deleteFunc_any h1.mp hc (by have := h.mlt; simp; omega)
  have HA : Hid (Ac w A M n p f) := h
  clear h h1 hc
  go_enter Try.func14, Try.ntmps14
  go_wp2_with fail
  refine Calls.mono c ?_
  rintro e w2 ⟨rfl, m2, k2⟩
  go_wp2
  go_end0
  have k3 : Kept (· ≠ M) w w2 := (k1.mono (fun _ _ _ => trivial)).trans k2
  exact ⟨rfl, ⟨(k3.block A lt HA.out.ne).trans HA.out.self, m2⟩, k3.mono (fun _ _ q => q.2)⟩

end Go.Proofs.Ytnogpjhcpdngcaa
