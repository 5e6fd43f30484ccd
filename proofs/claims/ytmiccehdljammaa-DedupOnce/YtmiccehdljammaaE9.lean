/-
  known: some of the chapter's runs; a table that was made behind w0.
-/
import Derived.Test.YtmiccehdljammaaE4
import Derived.Test.YtmiccehdljammaaWBook
namespace Go.Proofs.Ytmiccehdljammaa
open Go.RowKit

/-- A table that was made behind w0. -/
structure TM (w0 w : World) (B : Nat) (v : Value) (m : Int) (xs : List La) : Prop where
  tb : Pt w B v m xs
  kept : Kept (fun _ => True) w0 w
  b0 : w0.heap.size ≤ B
  v0 : ∀ k, v.ownBlock = some k → w0.heap.size ≤ k

section
variable {w0 w w' : World} {B : Nat} {v v' : Value} {m : Int} {xs ys : List La}
theorem TM.step (h : TM w0 w B v m xs) (k : PS w w' B v v' m ys) : TM w0 w' B v' m ys :=
  ⟨k.now, h.kept.then k.kept (fun i hi _ => ⟨by have := h.b0; omega, fun e => by have := h.v0 i e; omega⟩), h.b0, fun x hx => by
    rcases k.new x hx with e | e
    · exact h.v0 x e
    · exact Nat.le_trans h.kept.size e⟩
theorem TM.ahead (h : TM w0 w B v m xs) (k : Kept (fun _ => True) w w') : TM w0 w' B v m xs := ⟨h.tb.all k, h.kept.trans k, h.b0, h.v0⟩
theorem TM.side {q : Nat → Prop} (h : TM w0 w B v m xs) (k : Kept q w w') (hB : q B) (hG : ∀ k, v.ownBlock = some k → q k) (h0 : ∀ i, i < w0.heap.size → q i) : TM w0 w' B v m xs :=
  ⟨h.tb.kept k hB hG, h.kept.then k (fun i hi _ => h0 i hi), h.b0, h.v0⟩
/-- What a row lies in is not the table. -/
theorem TM.off {b e sz c : Nat} {u : Value} {l : List Value} (h : TM w0 w B v m xs) (hu : w.ownsRow b e sz u c l) (he : e ≠ 34) (he' : e ≠ 37) : ∀ k, u.ownBlock = some k → k ≠ B ∧ v.ownBlock ≠ some k :=
  fun k hk => ⟨fun q => own_type hu h.tb.self (Ne.symm he) (q ▸ hk), own_types hu h.tb.own he' k hk⟩
theorem TM.txs {b : Nat} {u : Value} {ss : List (List UInt8)} (h : TM w0 w B v m xs) (hu : Txs w b u ss) : ∀ k, u.ownBlock = some k → k ≠ B ∧ v.ownBlock ≠ some k := h.off hu (by decide) (by decide)
theorem TM.made (h : Pt w' B v m xs) (k : Kept (fun _ => True) w w') (hB : w.heap.size ≤ B) (hv : ∀ k, v.ownBlock = some k → w.heap.size ≤ k) : TM w w' B v m xs := ⟨h, k, hB, hv⟩
end

/-- Texts that were written down. -/
theorem Txs.block {w : World} {G : Nat} {ss : List (List UInt8)} (h : w.heap[G]? = some (.cells (srow ss).toArray 9 (0, 0))) (hl : ss.length ≤ 1000000) : Txs w 0 (.slice (some ⟨G, 0, none⟩) ss.length ss.length) ss :=
  ⟨by simp [srow_length], .inr ⟨G, ss.length, (srow ss).toArray, rfl, Nat.zero_le _, h, Nat.le_refl _, by unfold maxLen; omega, by simp [srow_length], by rw [Nat.mul_one, List.take_of_length_le (by simp [srow_length])]⟩⟩

section
variable {w : World} {B : Nat} {v : Value} {m : Int} {xs ys : List La}
/-- Done, its answer given outright. -/
theorem done_to (h : Pt w B v m xs) (hl : xs.length ≤ 64) (hm : 0 ≤ m) (c : List UInt8) (i : Int) (r : List UInt8) {q : Nat} (hd : done m xs ⟨c, i, r⟩ = (q, ys)) :
    Calls Try.prog 6 #[.pointer (some ⟨B, 0, none⟩), .string ⟨c.toArray⟩, .int .i64 i, .string ⟨r.toArray⟩] w fun e w' => e = .returned (.int .i64 (q : Nat)) ∧ ∃ v', PS w w' B v v' m ys := by
  have := done_tb h hl hm ⟨c, i, r⟩
  rw [hd] at this
  exact this
theorem ask_to (h : Pt w B v m xs) (c : List UInt8) (id : Int) {q : Nat} {r : List UInt8} (ha : ask xs c id = (q, r)) :
    Calls Try.prog 5 #[.pointer (some ⟨B, 0, none⟩), .string ⟨c.toArray⟩, .int .i64 id] w fun e w' => e = .returned (.tuple #[.int .i64 (q : Nat), .string ⟨r.toArray⟩]) ∧ Kept (fun _ => True) w w' := by
  have := ask_any h c id
  rw [ha] at this
  exact this
end

set_option maxRecDepth 100000 in
set_option maxHeartbeats 1000000 in
theorem known_any {w : World} :
    Calls Try.prog 7 #[] w fun e w' => e = .returned (.bool true) ∧ Kept (fun _ => True) w w' := by
  go_enter Try.func7, Try.ntmps7
  go_wp2_with fail
  refine Calls.mono (new_ok 2 (by decide) (by decide)) ?_
  rintro e w1 ⟨rfl, h1, k1⟩
  have H1 : Hid (TM w w1 w.heap.size (.slice none 0 0) 2 []) := ⟨h1, k1, Nat.le_refl _, fun k hk => by simp [Value.ownBlock] at hk⟩
  clear h1 k1
  generalize w.heap.size = B at *
  go_wp2_with fail
  refine Calls.mono (done_to (ys := [⟨[97], 1, [120]⟩]) H1.out.tb (by decide) (by decide) [97] 1 [120] (q := 0) rfl) ?_
  rintro e w2 ⟨rfl, v2, s2⟩
  have H2 : Hid (TM w w2 B v2 2 [⟨[97], 1, [120]⟩]) := H1.out.step s2
  clear s2 H1
  go_wp2_with fail
  refine Calls.mono (ask_to H2.out.tb [97] 1 (q := 2) (r := [120]) rfl) ?_
  rintro e w3 ⟨rfl, k3⟩
  have H3 : Hid (TM w w3 B v2 2 [⟨[97], 1, [120]⟩]) := H2.out.ahead k3
  clear k3 H2
  go_wp2_with fail
  refine Calls.mono (ask_to H3.out.tb [97] 2 (q := 1) (r := []) rfl) ?_
  rintro e w4 ⟨rfl, k4⟩
  have H4 : Hid (TM w w4 B v2 2 [⟨[97], 1, [120]⟩]) := H3.out.ahead k4
  clear k4 H3
  go_wp2_with fail
  refine Calls.mono (ask_to H4.out.tb [97] 0 (q := 3) (r := []) rfl) ?_
  rintro e w5 ⟨rfl, k5⟩
  have H5 : Hid (TM w w5 B v2 2 [⟨[97], 1, [120]⟩]) := H4.out.ahead k5
  clear k5 H4
  go_wp2_with fail
  go_ret
  exact ⟨rfl, H5.out.kept⟩

end Go.Proofs.Ytmiccehdljammaa
