/-
  Texts of the proofs, 5 of 52.
-/
import Derived.Test.YtmcaoimgmgjjiaaWD
import Derived.Test.YtmcaoimgmgjjiaaWC
namespace Go.Proofs.Ytmcaoimgmgjjiaa
open Go

section
variable {P : Program} {md : Region.Mode} {ops : Array Oper} {Q : Exit → Act → World → Prop} {S : World → Prop} {late : Nat → Bool}

/-- j waits for i, through at most f others. -/
def waitsFor (md : Region.Mode) (ops : Array Oper) (i : Nat) : Nat → Nat → Bool
  | 0, _ => false
  | f + 1, j => match ops[j]? with
    | none => false
    | some o => o.after.any fun e => Region.binds md e && (e.on == i || waitsFor md ops i f e.on)
def waitsT (md : Region.Mode) (ops : Array Oper) (late : Nat → Bool) (done : Array Bool) (i : Nat) : Bool :=
  (List.range ops.size).all fun j => !(late j) || done.getD j true || waitsFor md ops i ops.size j
/-- What is done waits for nothing that is not. -/
def shutB (md : Region.Mode) (ops : Array Oper) (done : Array Bool) : Bool :=
  (List.range ops.size).all fun k => !(done.getD k false) || (match ops[k]? with
    | none => true
    | some o => o.after.all fun e => !(Region.binds md e) || done.getD e.on false)
def ShutP (md : Region.Mode) (ops : Array Oper) (done : Array Bool) : Prop := ∀ k o, ops[k]? = some o → done.getD k false = true → ∀ e ∈ o.after, Region.binds md e = true → done.getD e.on false = true
theorem shutB_spec {done : Array Bool} (h : shutB md ops done = true) : ShutP md ops done := fun k o ho hd e he hb => by
  have hlt : k < ops.size := by
    rcases Nat.lt_or_ge k ops.size with h | h
    · exact h
    · rw [Array.getElem?_eq_none h] at ho; cases ho
  have := List.all_eq_true.1 h k (List.mem_range.2 hlt)
  simp only [hd, ho, Bool.not_true, Bool.false_or] at this
  have h2 := Array.all_eq_true'.1 this e he
  simpa [hb] using h2
theorem waitsFor_no {done : Array Bool} {i : Nat} (hs : ShutP md ops done) (hi : done.getD i true = false) : ∀ (f j : Nat) (o : Oper), ops[j]? = some o → waitsFor md ops i f j = true → (∀ e ∈ o.after, Region.binds md e = true → done.getD e.on false = true) → False
  | 0, _, _, _, h, _ => by simp [waitsFor] at h
  | f + 1, j, o, ho, h, hd => by
    unfold waitsFor at h
    simp only [ho] at h
    obtain ⟨e, he, hb⟩ := Array.any_eq_true'.1 h
    simp only [Bool.and_eq_true, Bool.or_eq_true, beq_iff_eq] at hb
    rcases hb.2 with q | q
    · exact not_done hi (by rw [← q]; exact hd e he hb.1)
    · cases hk : ops[e.on]? with
      | none =>
        cases f with
        | zero => simp [waitsFor] at q
        | succ f => unfold waitsFor at q; simp [hk] at q
      | some o2 => exact waitsFor_no hs hi f e.on o2 hk q (hs e.on o2 hk (hd e he hb.1))
theorem waitsT_spec {done : Array Bool} {i : Nat} (h : waitsT md ops late done i = true) (j : Nat) (oj : Oper) (hj : ops[j]? = some oj) (hl : late j = true) (hd : done.getD j true = false) : waitsFor md ops i ops.size j = true := by
  have hlt : j < ops.size := by
    rcases Nat.lt_or_ge j ops.size with h | h
    · exact h
    · rw [Array.getElem?_eq_none h] at hj; cases hj
  have := List.all_eq_true.1 h j (List.mem_range.2 hlt)
  simpa only [hl, hd, Bool.not_true, Bool.false_or] using this
theorem ShutP.next {done : Array Bool} {j : Nat} {oj : Oper} (h : ShutP md ops done) (hj : ops[j]? = some oj) (hr : ∀ e ∈ oj.after, Region.binds md e = true → done.getD e.on false = true) : ShutP md ops (done.setIfInBounds j true) := by
  have up : ∀ k, done.getD k false = true → (done.setIfInBounds j true).getD k false = true := fun k hk => by
    rcases Decidable.em (j = k) with rfl | q
    · rcases Nat.lt_or_ge j done.size with q | q
      · simp [q]
      · simp [Array.getElem?_eq_none q] at hk
    · rw [getD_set_ne false q]; exact hk
  intro k o ho hd e he hb
  rcases Decidable.em (j = k) with rfl | q
  · rw [hj] at ho
    cases ho
    exact up _ (hr e he hb)
  · rw [getD_set_ne false q] at hd
    exact up _ (h k o ho hd e he hb)
theorem Gz.firstT {i : Nat} {oi : Oper} {v : Value} (hi : ops[i]? = some oi) (hs : Region.noSelect ops = true) (hQ : ∀ c a w, Q (.panic c) (a.put oi.dst v) w → Q (.panic c) a w) (n : Nat) :
    ∀ (done : Array Bool) (a : Act) (w : World), ShutP md ops done → (∀ j oj, ops[j]? = some oj → j ≠ i → done.getD j true = false → (∀ e ∈ oj.after, Region.binds md e = true → e.on ≠ i) → oi.apart ops oj = true) →
      (∀ j oj, ops[j]? = some oj → late j = true → done.getD j true = false → waitsFor md ops i ops.size j = true) →
      i ∈ Region.ready md ops done → YieldsIf P ops S oi v a → S w → Gz P md ops Q S late n (done.setIfInBounds i true) (a.put oi.dst v) w → Gz P md ops Q S late (n + 1) done a w := by
  have sel := Region.noSelect_spec hs
  induction n with
  | zero =>
    intro done a w _ _ _ hr hy hS H
    refine ⟨fun h => ?_, fun j hj => ?_⟩
    · rw [h] at hr
      cases hr
    · rcases Decidable.em (j = i) with rfl | hne
      · exact hy.wpOp hi hS ⟨fun _ => hS, H⟩
      · have := ready_mono hj hne
        rw [H.1] at this
        cases this
  | succ n ih =>
    intro done a w hshut hfree hlate hr hy hS H
    refine ⟨fun h => ?_, fun j hj => ?_⟩
    · rw [h] at hr
      cases hr
    · rcases Decidable.em (j = i) with rfl | hne
      · exact hy.wpOp hi hS ⟨fun _ => hS, H⟩
      · have hiu := (mem_ready.1 hr).1
        obtain ⟨hju, oj, hoj, hjr⟩ := mem_ready.1 hj
        have hno : ∀ e ∈ oj.after, Region.binds md e = true → e.on ≠ i := fun e he hb q => not_done hiu (by rw [← q]; exact hjr e he hb)
        have hearly : late j = false := by
          cases hl : late j with
          | false => rfl
          | true => exact (waitsFor_no hshut hiu _ j oj hoj (hlate j oj hoj hl hju) hjr).elim
        have step := wpOp_putIf hoj (hfree j oj hoj hne hju hno) (fun cs b => sel i oi cs b hi) (fun cs b => sel j oj cs b hoj) hQ hy (H.2 j (ready_mono hj hne))
        have less : ∀ k, (done.setIfInBounds j true).getD k true = false → done.getD k true = false := fun k hk => by
          rcases Decidable.em (j = k) with rfl | h
          · exact hju
          · rwa [getD_set_ne true h] at hk
        refine wpOp_mono (fun a' w' q => ⟨q.2.1, ih _ a' w' (hshut.next hoj hjr) (fun k ok hk hki hun hn => hfree k ok hk hki (less k hun) hn) (fun k ok hk hl hun => hlate k ok hk hl (less k hun)) (ready_mono hr (Ne.symm hne)) q.1 (q.2.1 hearly) ?_⟩) step
        rw [Array.setIfInBounds_comm _ _ hne]
        exact q.2.2
theorem Gz.takeT {i : Nat} {oi : Oper} {v : Value} {n : Nat} {done : Array Bool} {a : Act} {w : World} (hi : ops[i]? = some oi) (hs : Region.noSelect ops = true) (hf : Region.free md ops done i = true) (hr : (Region.ready md ops done).contains i = true) (hl : (waitsT md ops late done i && shutB md ops done) = true)
    (hQ : ∀ c a w, Q (.panic c) (a.put oi.dst v) w → Q (.panic c) a w) (hy : YieldsIf P ops S oi v a) (hS : S w) (h : Gz P md ops Q S late n (done.setIfInBounds i true) (a.put oi.dst v) w) : Gz P md ops Q S late (n + 1) done a w :=
  Gz.firstT hi hs hQ n done a w (shutB_spec (Bool.and_eq_true .. ▸ hl).2) (Region.free_spec hi hf) (waitsT_spec (Bool.and_eq_true .. ▸ hl).1) (by simpa using hr) hy hS h
theorem Gz.tkT {i : Nat} {oi : Oper} {v : Value} {n : Nat} {done : Array Bool} {a : Act} {w : World} (hi : ops[i]? = some oi) (hb : (((Region.noSelect ops && Region.free md ops done i) && (Region.ready md ops done).contains i) && (waitsT md ops late done i && shutB md ops done)) = true)
    (hQ : ∀ c a w, Q (.panic c) (a.put oi.dst v) w → Q (.panic c) a w) (hy : YieldsIf P ops S oi v a) (hS : S w) (h : Gz P md ops Q S late n (done.setIfInBounds i true) (a.put oi.dst v) w) : Gz P md ops Q S late (n + 1) done a w := by
  obtain ⟨h1, h2⟩ := (Bool.and_eq_true ..).mp hb
  simp only [Bool.and_eq_true] at h1
  exact Gz.takeT hi h1.1.1 h1.1.2 h1.2 h2 hQ hy hS h

end
end Go.Proofs.Ytmcaoimgmgjjiaa

namespace Go.Proofs.Ytmcaoimgmgjjiaa
open Go

theorem Gz.to {P : Program} {md : Region.Mode} {ops : Array Oper} {Q : Exit → Act → World → Prop} {S S' : World → Prop} {late : Nat → Bool} (h : ∀ w, S' w → S w) : ∀ (n : Nat) (done : Array Bool) (a : Act) (w : World), Gz P md ops Q S' late n done a w → Gz P md ops Q S late n done a w
  | 0, _, _, _, k => k
  | n + 1, _, _, _, k => ⟨k.1, fun i hi => wpOp_mono (fun a' w' q => ⟨fun e => h _ (q.1 e), Gz.to h n _ a' w' q.2⟩) (k.2 i hi)⟩

end Go.Proofs.Ytmcaoimgmgjjiaa

namespace Go.Proofs.Ytmcaoimgmgjjiaa
open Go.RowKit

set_option maxRecDepth 100000 in
set_option maxHeartbeats 2000000 in
theorem formed_any {w : World} {r : Ur} {ao : Option Addr} {cap : Nat} (h : Gv w ao r.gs) (hn : r.gs.length ≤ 100000) :
    Calls Try.prog 45 #[r.val ao cap] w fun e w' => e = .returned (.bool (fmd r)) ∧ Kept (fun _ => True) w w' := by
  have HV : Hid (Gv w ao r.gs) := h
  have HF : Hid (fmd r = ((if r.k = 1 then decide (r.tx = []) else if r.k = 2 ∨ r.k = 3 ∨ r.k = 4 then decide (r.tx ≠ []) else false) && upG (-1) r.gs)) := rfl
  obtain ⟨R, hR⟩ : ∃ R, R = fmd r := ⟨_, rfl⟩
  rw [← hR] at HF ⊢
  clear h hR
  obtain ⟨k, tx, gs, bd⟩ := r
  unfold Ur.val
  simp only at HV HF hn ⊢
  have cr := fun (W : World) (q : Kept (fun _ => True) w W) => rising_any (cap := cap) (HV.out.all q) hn
  have kA : ∀ o, Kept (fun _ => True) w (w.alloc o) := fun o => (Kept.refl _ _).alloc o
  generalize upG (-1) gs = G at *
  clear HV
  by_cases ht : tx = []
  · subst ht
    have HF2 : Hid (R = ((if k = 1 then true else false) && G)) := by
      have := HF.out
      show _ = _
      rw [this]
      by_cases h1 : k = 1
      · simp [h1]
      · simp [h1]
    clear HF
    by_cases h1 : k = 1
    · subst h1
      have HF3 : Hid (R = G) := by have := HF2.out; show _ = _; simpa using this
      clear HF2
      go_enter Try.func45, Try.ntmps45
      go_wp2_with (go_at_call 78; (with_reducible refine Calls.mono (cr _ (kA _)) ?_); rintro e w1 ⟨rfl, n1, rfl⟩)
      go_ret
      exact ⟨by rw [HF3.out]; rfl, ((Kept.refl _ _).alloc _).drewN n1⟩
    · have HF3 : Hid (R = false) := by have := HF2.out; show _ = _; simpa [h1] using this
      clear HF2
      have k1 : ((k : Int) == 1) = false := by simp only [beq_eq_false_iff_ne]; omega
      by_cases h2 : k = 2
      · subst h2
        go_enter Try.func45, Try.ntmps45
        go_wp2
        go_ret
        exact ⟨by rw [HF3.out]; rfl, (Kept.refl _ _).alloc _⟩
      by_cases h3 : k = 3
      · subst h3
        go_enter Try.func45, Try.ntmps45
        go_wp2
        go_ret
        exact ⟨by rw [HF3.out]; rfl, (Kept.refl _ _).alloc _⟩
      by_cases h4 : k = 4
      · subst h4
        go_enter Try.func45, Try.ntmps45
        go_wp2
        go_ret
        exact ⟨by rw [HF3.out]; rfl, (Kept.refl _ _).alloc _⟩
      have k2 : ((k : Int) == 2) = false := by simp only [beq_eq_false_iff_ne]; omega
      have k3 : ((k : Int) == 3) = false := by simp only [beq_eq_false_iff_ne]; omega
      have k4 : ((k : Int) == 4) = false := by simp only [beq_eq_false_iff_ne]; omega
      go_enter Try.func45, Try.ntmps45
      go_wp2
      go_ret
      exact ⟨by rw [HF3.out]; rfl, (Kept.refl _ _).alloc _⟩
  · have ht2 : (tx == []) = false := by simpa using ht
    have ht3 : (tx != []) = true := by simpa using ht
    by_cases h1 : k = 1
    · subst h1
      have HF3 : Hid (R = false) := by have := HF.out; show _ = _; simpa [ht] using this
      clear HF ht
      go_enter Try.func45, Try.ntmps45
      go_wp2
      go_ret
      exact ⟨by rw [HF3.out]; rfl, (Kept.refl _ _).alloc _⟩
    have k1 : ((k : Int) == 1) = false := by simp only [beq_eq_false_iff_ne]; omega
    by_cases h2 : k = 2
    · subst h2
      have HF3 : Hid (R = G) := by have := HF.out; show _ = _; simpa [ht] using this
      clear HF ht
      go_enter Try.func45, Try.ntmps45
      go_wp2_with (go_at_call 78; (with_reducible refine Calls.mono (cr _ (kA _)) ?_); rintro e w1 ⟨rfl, n1, rfl⟩)
      go_ret
      exact ⟨by rw [HF3.out]; rfl, ((Kept.refl _ _).alloc _).drewN n1⟩
    by_cases h3 : k = 3
    · subst h3
      have HF3 : Hid (R = G) := by have := HF.out; show _ = _; simpa [ht] using this
      clear HF ht
      go_enter Try.func45, Try.ntmps45
      go_wp2_with (go_at_call 78; (with_reducible refine Calls.mono (cr _ (kA _)) ?_); rintro e w1 ⟨rfl, n1, rfl⟩)
      go_ret
      exact ⟨by rw [HF3.out]; rfl, ((Kept.refl _ _).alloc _).drewN n1⟩
    by_cases h4 : k = 4
    · subst h4
      have HF3 : Hid (R = G) := by have := HF.out; show _ = _; simpa [ht] using this
      clear HF ht
      go_enter Try.func45, Try.ntmps45
      go_wp2_with (go_at_call 78; (with_reducible refine Calls.mono (cr _ (kA _)) ?_); rintro e w1 ⟨rfl, n1, rfl⟩)
      go_ret
      exact ⟨by rw [HF3.out]; rfl, ((Kept.refl _ _).alloc _).drewN n1⟩
    have HF3 : Hid (R = false) := by have := HF.out; show _ = _; simpa [h1, h2, h3, h4] using this
    have k2 : ((k : Int) == 2) = false := by simp only [beq_eq_false_iff_ne]; omega
    have k3 : ((k : Int) == 3) = false := by simp only [beq_eq_false_iff_ne]; omega
    have k4 : ((k : Int) == 4) = false := by simp only [beq_eq_false_iff_ne]; omega
    clear HF
    go_enter Try.func45, Try.ntmps45
    go_wp2
    go_ret
    exact ⟨by rw [HF3.out]; rfl, (Kept.refl _ _).alloc _⟩

end Go.Proofs.Ytmcaoimgmgjjiaa
