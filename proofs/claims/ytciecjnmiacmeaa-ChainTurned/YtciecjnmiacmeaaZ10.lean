/-
  The law's known: some of chapter 19's runs.
-/
import Derived.Test.YtciecjnmiacmeaaZ9
namespace Go.Proofs.Ytciecjnmiacmeaa
open Go.RowKit

/-- Texts that lie in a block that was just made. -/
theorem tv_new {w : World} {g : Nat} {ss : List (List UInt8)} {fr : Nat × Nat} (h : w.heap[g]? = some (.cells (srow ss).toArray 9 fr)) : Tv w (some ⟨g, 0, none⟩) ss := fun _ =>
  ⟨g, 0, rfl, lt_of_block h, fun i hi => by
    rw [cell_of_row w g _ _ _ _ h, Nat.zero_add]
    have := srow_get ss i hi
    simpa using this⟩
theorem pre_take (xs : List Li) (k : Nat) : pre (xs.take k) xs := by
  unfold pre
  rw [List.take_take]
  congr 1
  rw [List.length_take]
  omega
theorem pre_take' (xs : List Li) (k : Nat) : pre xs (xs.take k) := by
  unfold pre
  rw [List.take_take]
  congr 1
  rw [List.length_take]
  omega

def tA : List UInt8 := [97]
def tB : List UInt8 := [98]
theorem not_pre : ¬ pre (mkC [tA]) (mkC [tB]) := by
  intro h
  unfold pre at h
  have h2 := congrArg (fun l => (l.map Li.t)) h
  simp [mkC, mkF, tA, tB] at h2

set_option maxRecDepth 100000 in
set_option maxHeartbeats 2000000 in
theorem known_any (w : World) : Calls Try.prog 14 #[] w fun e w' => e = .returned (.bool true) ∧ Kept (fun _ => True) w w' := by
  have lAB : (mkC [tA, tB]).length = 2 := mkC_length _
  have lA : (mkC [tA]).length = 1 := mkC_length _
  have lB : (mkC [tB]).length = 1 := mkC_length _
  have sAB : ∀ x ∈ mkC [tA, tB], x.t.length ≤ 100000000000000 := fun x hx => by
    have : x.t ∈ txs (mkC [tA, tB]) := List.mem_map.2 ⟨x, hx, rfl⟩
    rw [txs_mkC] at this
    simp [tA, tB] at this
    rcases this with h | h <;> rw [h] <;> decide
  have CM : ∀ (W : World) (g : Nat), W.heap[g]? = some (.cells #[.string ⟨#[97]⟩, .string ⟨#[98]⟩] 9 (0, 0)) → Calls Try.prog 8 #[.slice (some ⟨g, 0, none⟩) 2 2] W fun e w' => ∃ a' c', e = .returned (.slice a' 2 c') ∧ Lo 27 w' W.heap.size (.slice a' 2 c') (mkC [tA, tB]) ∧ Kept (fun _ => True) W w' := fun W g hg => by
    have := make_any (cap := 2) (tv_new (ss := [tA, tB]) hg) (by decide) (by decide)
    rwa [lAB] at this
  have CA : ∀ (W : World) (g : Nat), W.heap[g]? = some (.cells #[.string ⟨#[97]⟩] 9 (0, 0)) → Calls Try.prog 8 #[.slice (some ⟨g, 0, none⟩) 1 1] W fun e w' => ∃ a' c', e = .returned (.slice a' 1 c') ∧ Lo 27 w' W.heap.size (.slice a' 1 c') (mkC [tA]) ∧ Kept (fun _ => True) W w' := fun W g hg => by
    have := make_any (cap := 1) (tv_new (ss := [tA]) hg) (by decide) (by decide)
    rwa [lA] at this
  have CB : ∀ (W : World) (g : Nat), W.heap[g]? = some (.cells #[.string ⟨#[98]⟩] 9 (0, 0)) → Calls Try.prog 8 #[.slice (some ⟨g, 0, none⟩) 1 1] W fun e w' => ∃ a' c', e = .returned (.slice a' 1 c') ∧ Lo 27 w' W.heap.size (.slice a' 1 c') (mkC [tB]) ∧ Kept (fun _ => True) W w' := fun W g hg => by
    have := make_any (cap := 1) (tv_new (ss := [tB]) hg) (by decide) (by decide)
    rwa [lB] at this
  have CC : ∀ (W : World) (a : Option Addr) (c : Nat), Lv W a (mkC [tA, tB]) → Calls Try.prog 11 #[.slice a 2 c] W fun e w' => e = .returned (.int .i64 2) ∧ Kept (fun _ => True) W w' := fun W a c h => by
    have := check_any (cap := c) h (by rw [lAB]; decide) sAB
    rw [lAB] at this
    refine this.mono ?_
    rintro e w' ⟨n, rfl, hn, k⟩
    have := hn.one (IsChk.mk' [tA, tB])
    subst this
    exact ⟨rfl, k⟩
  have CP : ∀ (W : World) (a : Option Addr) (c : Nat), Lv W a (mkC [tA, tB]) → 2 ≤ c → Calls Try.prog 21 #[.slice a 1 c, .slice a 2 c] W fun e w' => e = .returned (.bool true) ∧ Kept (fun _ => True) W w' := fun W a c h hc => by
    have l1 : ((mkC [tA, tB]).take 1).length = 1 := by rw [List.length_take, lAB]; rfl
    have := prefix_any (c1 := c) (c2 := c) (h.take 1) h (by rw [l1]; decide) (by rw [lAB]; decide) (by rw [l1]; omega) (by rw [lAB]; exact hc)
    rw [lAB, l1] at this
    refine this.mono ?_
    rintro e w' ⟨b, rfl, hb, k⟩
    rw [hb.2 (pre_take _ 1)]
    exact ⟨rfl, k⟩
  have CN : ∀ (W : World) (a b : Option Addr) (c d : Nat), Lv W a (mkC [tA]) → Lv W b (mkC [tB]) → 1 ≤ c → 1 ≤ d → Calls Try.prog 21 #[.slice a 1 c, .slice b 1 d] W fun e w' => e = .returned (.bool false) ∧ Kept (fun _ => True) W w' := fun W a b c d h h' hc hd => by
    have := prefix_any (c1 := c) (c2 := d) h h' (by rw [lA]; decide) (by rw [lB]; decide) (by rw [lA]; exact hc) (by rw [lB]; exact hd)
    rw [lA, lB] at this
    refine this.mono ?_
    rintro e w' ⟨q, rfl, hb, k⟩
    have hq : q = false := by
      cases q with
      | false => rfl
      | true => exact absurd (hb.1 rfl) not_pre
    rw [hq]
    exact ⟨rfl, k⟩
  have SH2 : ∀ {W : World} {b : Nat} {a : Option Addr} {c : Nat}, Lo 27 W b (.slice a 2 c) (mkC [tA, tB]) → 2 ≤ c := fun h => by
    obtain ⟨ao, cap, e, hc, _, _⟩ := h.shape
    injection e with _ e2 e3
    omega
  have SH1 : ∀ {W : World} {b : Nat} {a : Option Addr} {c : Nat} {t : List UInt8}, Lo 27 W b (.slice a 1 c) (mkC [t]) → 1 ≤ c := fun h => by
    obtain ⟨ao, cap, e, hc, _, _⟩ := h.shape
    injection e with _ e2 e3
    omega
  clear sAB lAB lA lB
  generalize mkC [tA, tB] = AB at *
  go_enter Try.func14, Try.ntmps14
  go_wp2_with (first
    | (go_at_call 8; (with_reducible refine Calls.mono (CM _ w.heap.size (heap_alloc_new w _)) ?_); rintro e w1 ⟨a1, c1, rfl, ho1, k1⟩; have hc1 := SH2 ho1; have hcut := cut_links a1 2 c1 1 (by decide) hc1; have k01 : Hid (Kept (fun _ => True) w w1) := ((Kept.refl _ _).alloc _).trans k1; have V1 : Hid (Lv w1 a1 AB) := ho1.view)
    | (go_at_call 11; (with_reducible refine Calls.mono (CC _ a1 c1 V1.out) ?_); rintro e w2 ⟨rfl, k2⟩; have V2 : Hid (Lv w2 a1 AB) := V1.out.all k2)
    | (go_at_call 21; (with_reducible refine Calls.mono (CP _ a1 c1 V2.out hc1) ?_); rintro e w3 ⟨rfl, k3⟩)
    | (go_at_call 8; (with_reducible refine Calls.mono (CA _ w3.heap.size (heap_alloc_new w3 _)) ?_); rintro e w4 ⟨a4, c4, rfl, ho4, k4⟩; have hc4 := SH1 ho4)
    | (go_at_call 8; (with_reducible refine Calls.mono (CB _ w4.heap.size (heap_alloc_new w4 _)) ?_); rintro e w5 ⟨a5, c5, rfl, ho5, k5⟩; have hc5 := SH1 ho5; have V4 : Hid (Lv w5 a4 (mkC [tA])) := (ho4.view.all (((Kept.refl _ _).alloc _).trans k5)))
    | (go_at_call 21; (with_reducible refine Calls.mono (CN _ a4 a5 c4 c5 V4.out ho5.view hc4 hc5) ?_); rintro e w6 ⟨rfl, k6⟩))
  go_ret
  exact ⟨rfl, (((((k01.out.trans k2).trans k3).alloc _).trans k4).trans (((Kept.refl _ _).alloc _).trans k5)).trans k6⟩

end Go.Proofs.Ytciecjnmiacmeaa
