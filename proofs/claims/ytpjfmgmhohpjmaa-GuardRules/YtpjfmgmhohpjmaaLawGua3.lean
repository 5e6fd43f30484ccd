/-
  The law GuardRules.
-/
import Derived.Test.YtpjfmgmhohpjmaaQMade2
namespace Go.Proofs.Ytpjfmgmhohpjmaa
open Go.RowKit

theorem Vi.apart {w : World} {v : Value} {xs : List Int} (h : Vi w v xs) {w' : World} (k : Kept (fun _ => True) w w') {P : Nat} (hP : w.heap.size ≤ P) : Vp w' P v xs := by
  obtain ⟨ao, cap, e, h⟩ := h
  refine ⟨ao, cap, e, fun h0 => ?_⟩
  obtain ⟨b, off, e, hb, hc⟩ := h h0
  exact ⟨b, off, e, Nat.lt_of_lt_of_le hb k.size, by omega, fun i hi => (kept_cell k hb trivial).trans (hc i hi)⟩
/-- Names and values that lie behind w0, ahead of block P. -/
theorem Ns.fresh {w w' : World} {v : Value} {ns : List (List UInt8)} {P : Nat} (h : Ns w v ns) (k : Kept (· ≠ P) w w') (hP : w.heap.size ≤ P) : Ns w' v ns := h.all (Kept.fresh (Kept.refl _ _) k hP)
/-- An operation ahead of two guards, as text. -/
theorem add_two (o p q : List UInt8) (ho : o.length ≤ 10) (hp : p.length ≤ 1000) (hq : q.length ≤ 1000) : ∃ y1 y2 y3 : List UInt8, (∀ W, (Op.stringOp .add ⟨o.toArray⟩ ⟨p.toArray⟩).run Try.prog W = .ok (.string ⟨y1.toArray⟩) W) ∧ (∀ W, (Op.stringOp .add ⟨y1.toArray⟩ ⟨#[32]⟩).run Try.prog W = .ok (.string ⟨y2.toArray⟩) W) ∧ (∀ W, (Op.stringOp .add ⟨y2.toArray⟩ ⟨q.toArray⟩).run Try.prog W = .ok (.string ⟨y3.toArray⟩) W) ∧ y3 = o ++ p ++ [32] ++ q := by
  refine ⟨o ++ p, o ++ p ++ [32], o ++ p ++ [32] ++ q, text_add _ _ (by omega), text_add _ _ (by simp; omega), text_add _ _ (by simp; omega), rfl⟩

/-- What is asked of two guards, by what they are worth. -/
theorem Mk.evl2 {p q o : List UInt8} (hp : Mk 2 p) (hq : Mk 2 q) (ho : tx o = [o] ∧ 5 ≤ kd o ∧ o.length ≤ 3) {vs : List Int} (hv : vs.length = 2) {U V : Int} (hU : Va (env [[120], [121]] vs) 2 (tx p) U) (hV : Va (env [[120], [121]] vs) 2 (tx q) V) : Go.Proofs.Ytpjfmgmhohpjmaa.evl [[120], [121]] vs (o ++ [32] ++ p ++ [32] ++ q) = (jn (kd o) U V, 0) ∧ (o ++ [32] ++ p ++ [32] ++ q).length ≤ 1000 := by
  have hM := Mk.two ho.1 ho.2.1 ho.2.2 hp hq
  have hl : (o ++ [32] ++ p ++ [32] ++ q).length ≤ 51 := hM.len
  refine ⟨hM.evl (by decide) (by omega) (fun x hx h3 => ?_) (by rw [hv]; decide) ?_, by omega⟩
  · rcases hM.nm x hx h3 with rfl | rfl <;> decide
  · rw [tx_ahead2 o p q ho.1]
    exact Va.two ho.2.1 hU hV

set_option maxRecDepth 100000 in
set_option maxHeartbeats 4000000 in
theorem guardRules_any {w : World} {v : Value} {ls : List Int} (hl : Vi w v ls) (a b : Int) :
    Calls Try.prog 5 #[v, .int .i64 a, .int .i64 b] w fun e w' => e = .returned (.bool true) ∧ Kept (fun _ => True) w w' := by
  have HL : Hid (Vi w v ls) := hl
  obtain ⟨ao, cap, rfl, -⟩ := hl
  have ca := fun W => within_any (w := W) a 20 (by decide)
  have cb := fun W => within_any (w := W) b 20 (by decide)
  go_enter Try.func5, Try.ntmps5
  dsimp only [List.append]
  go_wp2_with fail
  refine Calls.mono (ca _) ?_
  rintro e w0 ⟨⟨k1, hk1, rfl⟩, rfl⟩
  go_wp2_with fail
  refine Calls.mono (cb _) ?_
  rintro e w0 ⟨⟨k2, hk2, rfl⟩, rfl⟩
  clear ca cb
  obtain ⟨vs, hvs⟩ : ∃ vs : List Int, vs = [(k1 : Int) - 10, (k2 : Int) - 10] := ⟨_, rfl⟩
  obtain ⟨x1, x2⟩ := alloc_two w (.cells #[.string ⟨#[120]⟩, .string ⟨#[121]⟩] 9) (.cells #[.int .i64 ((k1 : Int) - 10), .int .i64 ((k2 : Int) - 10)] 3)
  have hl2 : vs.length = 2 := by rw [hvs]; rfl
  have HN : Hid (Ns ((w.alloc (.cells #[.string ⟨#[120]⟩, .string ⟨#[121]⟩] 9)).alloc (.cells #[.int .i64 ((k1 : Int) - 10), .int .i64 ((k2 : Int) - 10)] 3)) (.slice (some ⟨w.heap.size, 0, none⟩) 2 2) [[120], [121]]) := Ns.new (ns := [[120], [121]]) (cap := 2) x1 (by decide)
  have HV : Hid (Vi ((w.alloc (.cells #[.string ⟨#[120]⟩, .string ⟨#[121]⟩] 9)).alloc (.cells #[.int .i64 ((k1 : Int) - 10), .int .i64 ((k2 : Int) - 10)] 3)) (.slice (some ⟨w.heap.size + 1, 0, none⟩) 2 2) vs) := by
    show Vi _ _ _
    rw [hvs]
    exact Vi.new (xs := [(k1 : Int) - 10, (k2 : Int) - 10]) (cap := 2) x2
  have HK1 : Hid _ := ((Kept.refl (fun _ => True) w).alloc (.cells #[.string ⟨#[120]⟩, .string ⟨#[121]⟩] 9)).alloc (.cells #[.int .i64 ((k1 : Int) - 10), .int .i64 ((k2 : Int) - 10)] 3)
  have HV2 : Hid (vs.length = 2) := hl2
  clear hl2 hvs
  go_wp2_with fail
  generalize hW1 : (w.alloc (.cells #[.string ⟨#[120]⟩, .string ⟨#[121]⟩] 9)).alloc (.cells #[.int .i64 ((k1 : Int) - 10), .int .i64 ((k2 : Int) - 10)] 3) = W1 at *
  have hsz : W1.heap.size = w.heap.size + 1 + 1 := by rw [← hW1]; simp
  have HZ : Hid (w.heap.size ≤ W1.heap.size) := by rw [hsz]; show _ ≤ _; omega
  rw [← hsz]
  clear hW1 hsz x1 x2
  have hP0 := heap_alloc_new W1 (.cells #[.int .i64 0] 3)
  have HC0 : Hid _ := (Kept.refl (fun _ => True) W1).alloc (.cells #[.int .i64 0] 3)
  generalize hW2 : W1.alloc (.cells #[.int .i64 0] 3) = W2 at *
  clear hW2
  obtain ⟨P, hP⟩ : ∃ P, P = W1.heap.size := ⟨_, rfl⟩
  rw [← hP] at hP0 ⊢
  have HP : Hid (P = W1.heap.size) := hP
  have HPL : Hid (w.heap.size ≤ P) := by rw [hP]; exact HZ.out
  clear hP HZ
  have cm := made_any 2 (i := 0) (HL.out.apart (HK1.out.trans HC0.out) HPL.out) hP0 (by decide) (by decide)
  clear hP0
  refine Calls.mono cm ?_
  rintro e W3 ⟨⟨p, rfl, hMp⟩, i1, hi1, hP1, hk3⟩
  clear cm
  have HC1 : Hid (Kept (fun _ => True) W1 W3) := HC0.out.fresh hk3 (by rw [HP.out]; exact Nat.le_refl _)
  have cm := made_any 2 (i := i1) (HL.out.apart (HK1.out.trans HC1.out) HPL.out) hP1 (by simp at hi1 ⊢; omega) (by decide)
  have HMp : Hid (Mk 2 p) := hMp
  clear hP1 hk3 hMp HC0 hi1
  go_wp2_with fail
  refine Calls.mono cm ?_
  rintro e W4 ⟨⟨q, rfl, hMq⟩, i2, hi2, hP2, hk4⟩
  clear cm
  have HC2 : Hid (Kept (fun _ => True) W1 W4) := HC1.out.fresh hk4 (by rw [HP.out]; exact Nat.le_refl _)
  have HMq : Hid (Mk 2 q) := hMq
  clear hP2 hk4 hMq HC1 hi2
  obtain ⟨U, hU⟩ := HMp.out.va (env [[120], [121]] vs)
  obtain ⟨V, hV⟩ := HMq.out.va (env [[120], [121]] vs)
  have hpl : p.length ≤ 23 := HMp.out.len
  have hql : q.length ≤ 23 := HMq.out.len
  have ce : ∀ (T : List UInt8) (z : Int), evl [[120], [121]] vs T = (z, 0) → T.length ≤ 1000 → ∀ W, Kept (fun _ => True) W1 W → Calls Try.prog 11 #[.string ⟨T.toArray⟩, .slice (some ⟨w.heap.size, 0, none⟩) 2 2, .slice (some ⟨w.heap.size + 1, 0, none⟩) 2 2] W fun e w' => e = .returned (.tuple #[.int .i64 z, .int .i64 0]) ∧ Kept (fun _ => True) W w' := by
    intro T z hE hT W hk
    have := eval_any (HN.out.all hk) (HV.out.all hk) (s := T) (by omega)
    rw [hE] at this
    exact this
  have hnp : ∀ {s : List UInt8}, Mk 2 s → ∀ x ∈ tx s, kd x = 3 → x ∈ ([[120], [121]] : List (List UInt8)) := by
    intro s hM x hx h3
    rcases hM.nm x hx h3 with rfl | rfl <;> decide
  have cp := ce p U (HMp.out.evl (by decide) (by omega) (hnp HMp.out) (by rw [HV2.out]; decide) hU) (by omega)
  have cq := ce q V (HMq.out.evl (by decide) (by omega) (hnp HMq.out) (by rw [HV2.out]; decide) hV) (by omega)
  obtain ⟨and1, and2, and3, anda, andb, andc, ande⟩ := add_two [97, 110, 100, 32] p q (by decide) (by omega) (by omega)
  have cand := ce and3 (jn 5 U V) (by rw [ande]; exact (Mk.evl2 (o := [97, 110, 100]) HMp.out HMq.out (by decide +kernel) HV2.out hU hV).1) (by rw [ande]; exact (Mk.evl2 (o := [97, 110, 100]) HMp.out HMq.out (by decide +kernel) HV2.out hU hV).2)
  clear ande
  obtain ⟨or1, or2, or3, ora, orb, orc, ore⟩ := add_two [111, 114, 32] p q (by decide) (by omega) (by omega)
  have cor := ce or3 (jn 6 U V) (by rw [ore]; exact (Mk.evl2 (o := [111, 114]) HMp.out HMq.out (by decide +kernel) HV2.out hU hV).1) (by rw [ore]; exact (Mk.evl2 (o := [111, 114]) HMp.out HMq.out (by decide +kernel) HV2.out hU hV).2)
  clear ore
  obtain ⟨lt1, lt2, lt3, lta, ltb, ltc, lte⟩ := add_two [108, 116, 32] p q (by decide) (by omega) (by omega)
  have clt := ce lt3 (jn 7 U V) (by rw [lte]; exact (Mk.evl2 (o := [108, 116]) HMp.out HMq.out (by decide +kernel) HV2.out hU hV).1) (by rw [lte]; exact (Mk.evl2 (o := [108, 116]) HMp.out HMq.out (by decide +kernel) HV2.out hU hV).2)
  clear lte
  obtain ⟨eq1, eq2, eq3, eqa, eqb, eqc, eqe⟩ := add_two [101, 113, 32] p q (by decide) (by omega) (by omega)
  have ceq := ce eq3 (jn 8 U V) (by rw [eqe]; exact (Mk.evl2 (o := [101, 113]) HMp.out HMq.out (by decide +kernel) HV2.out hU hV).1) (by rw [eqe]; exact (Mk.evl2 (o := [101, 113]) HMp.out HMq.out (by decide +kernel) HV2.out hU hV).2)
  clear eqe
  obtain ⟨add1, add2, add3, adda, addb, addc, adde⟩ := add_two [97, 100, 100, 32] p q (by decide) (by omega) (by omega)
  have cadd := ce add3 (jn 9 U V) (by rw [adde]; exact (Mk.evl2 (o := [97, 100, 100]) HMp.out HMq.out (by decide +kernel) HV2.out hU hV).1) (by rw [adde]; exact (Mk.evl2 (o := [97, 100, 100]) HMp.out HMq.out (by decide +kernel) HV2.out hU hV).2)
  clear adde
  obtain ⟨sub1, sub2, sub3, suba, subb, subc, sube⟩ := add_two [115, 117, 98, 32] p q (by decide) (by omega) (by omega)
  have csub := ce sub3 (jn 10 U V) (by rw [sube]; exact (Mk.evl2 (o := [115, 117, 98]) HMp.out HMq.out (by decide +kernel) HV2.out hU hV).1) (by rw [sube]; exact (Mk.evl2 (o := [115, 117, 98]) HMp.out HMq.out (by decide +kernel) HV2.out hU hV).2)
  clear sube
  obtain ⟨not1, nota, note⟩ : ∃ y : List UInt8, (∀ W, (Op.stringOp .add ⟨#[110, 111, 116, 32]⟩ ⟨p.toArray⟩).run Try.prog W = .ok (.string ⟨y.toArray⟩) W) ∧ y = [110, 111, 116, 32] ++ p := ⟨_, text_add [110, 111, 116, 32] p (by simp; omega), rfl⟩
  have cnot := ce not1 (tr (decide (U = 0))) (by
    have hM := HMp.out.one
    rw [note]
    refine hM.evl (by decide) (by simp; omega) (fun x hx h3 => ?_) (by rw [HV2.out]; decide) ?_
    · rcases hM.nm x hx h3 with rfl | rfl <;> decide
    · rw [tx_ahead [110, 111, 116] p (by decide +kernel)]
      exact Va.one (by decide +kernel) hU) (by rw [note]; simp; omega)
  have ck := fun W => known_any (w := W)
  clear note ce hnp hU hV
  go_wp2_with fail
  refine Calls.mono (cp _ HC2.out) ?_
  rintro e w5 ⟨rfl, k5⟩
  have H5 : Hid (Kept (fun _ => True) W1 w5) := HC2.out.trans k5
  clear cp k5
  go_wp2_with fail
  refine Calls.mono (cq _ H5.out) ?_
  rintro e w6 ⟨rfl, k6⟩
  have H6 : Hid (Kept (fun _ => True) W1 w6) := H5.out.trans k6
  clear cq k6
  go_wp2_with fail
  refine Calls.mono (cand _ H6.out) ?_
  rintro e w7 ⟨rfl, k7⟩
  have H7 : Hid (Kept (fun _ => True) W1 w7) := H6.out.trans k7
  clear cand k7
  go_wp2_with fail
  refine Calls.mono (cor _ H7.out) ?_
  rintro e w8 ⟨rfl, k8⟩
  have H8 : Hid (Kept (fun _ => True) W1 w8) := H7.out.trans k8
  clear cor k8
  go_wp2_with fail
  refine Calls.mono (cnot _ H8.out) ?_
  rintro e w9 ⟨rfl, k9⟩
  have H9 : Hid (Kept (fun _ => True) W1 w9) := H8.out.trans k9
  clear cnot k9
  go_wp2_with fail
  refine Calls.mono (clt _ H9.out) ?_
  rintro e w10 ⟨rfl, k10⟩
  have H10 : Hid (Kept (fun _ => True) W1 w10) := H9.out.trans k10
  clear clt k10
  go_wp2_with fail
  refine Calls.mono (ceq _ H10.out) ?_
  rintro e w11 ⟨rfl, k11⟩
  have H11 : Hid (Kept (fun _ => True) W1 w11) := H10.out.trans k11
  clear ceq k11
  go_wp2_with fail
  refine Calls.mono (cadd _ H11.out) ?_
  rintro e w12 ⟨rfl, k12⟩
  have H12 : Hid (Kept (fun _ => True) W1 w12) := H11.out.trans k12
  clear cadd k12
  go_wp2_with fail
  refine Calls.mono (csub _ H12.out) ?_
  rintro e w13 ⟨rfl, k13⟩
  have H13 : Hid (Kept (fun _ => True) W1 w13) := H12.out.trans k13
  clear csub k13
  have f5 : Hid (jn 5 U V = tr (decide (U ≠ 0 ∧ V ≠ 0))) := by show _ = _; rfl
  have f6 : Hid (jn 6 U V = tr (decide (U ≠ 0 ∨ V ≠ 0))) := by show _ = _; rfl
  have f7 : Hid (jn 7 U V = tr (decide (U < V))) := by show _ = _; rfl
  have f8 : Hid (jn 8 U V = tr (decide (U = V))) := by show _ = _; rfl
  have f9 : jn 9 U V = wrap64 (U + V) := rfl
  have f10 : jn 10 U V = wrap64 (U - V) := rfl
  have f4 : Hid (tr (decide (U = 0)) = tr (decide (U = 0))) := by show _ = _; rfl
  rw [f9, f10]
  clear f9 f10
  generalize jn 5 U V = B5 at *
  generalize jn 6 U V = B6 at *
  generalize jn 7 U V = B7 at *
  generalize jn 8 U V = B8 at *
  generalize hB4 : tr (decide (U = 0)) = B4 at *
  have F4 : Hid (B4 = tr (decide (U = 0))) := hB4.symm
  clear f4 hB4
  have b5 : Hid (B5 = 0 ∨ B5 = 1) := by show _ ∨ _; rw [f5.out]; unfold tr; split <;> simp
  have b6 : Hid (B6 = 0 ∨ B6 = 1) := by show _ ∨ _; rw [f6.out]; unfold tr; split <;> simp
  have b7 : Hid (B7 = 0 ∨ B7 = 1) := by show _ ∨ _; rw [f7.out]; unfold tr; split <;> simp
  have b8 : Hid (B8 = 0 ∨ B8 = 1) := by show _ ∨ _; rw [f8.out]; unfold tr; split <;> simp
  have g7 : (B7 == 1) = decide (U < V) := by rw [f7.out]; unfold tr; by_cases h : U < V <;> simp [h]
  have g8 : (B8 == 1) = (U == V) := by rw [f8.out]; unfold tr; by_cases h : U = V <;> simp [h]
  have o7 : bits .or .i64 1 B7 = 1 := by rcases b7.out with h | h <;> rw [h] <;> rfl
  have o8 : bits .or .i64 1 B8 = 1 := by rcases b8.out with h | h <;> rw [h] <;> rfl
  by_cases hu : U = 0
  · have g5 : B5 = 0 := by rw [f5.out]; simp [tr, hu]
    have g4 : B4 = 1 := by rw [F4.out]; simp [tr, hu]
    have g6 : (B6 == 1) = (V != 0) := by rw [f6.out]; unfold tr; by_cases h : V = 0 <;> simp [h, hu]
    have o6 : bits .or .i64 0 B6 = B6 := by rcases b6.out with h | h <;> rw [h] <;> rfl
    have o4 : bits .or .i64 B6 1 = 1 := by rcases b6.out with h | h <;> rw [h] <;> rfl
    have u1 : (U == 0) = true := by simp [hu]
    have u2 : (U != 0) = false := by simp [hu]
    subst g5 g4
    clear f5 f6 f7 f8 F4 b5 b6 b7 b8 hu
    go_wp2_with fail
    refine Calls.mono (ck _) ?_
    rintro e wk ⟨rfl, kk⟩
    go_wp2_with fail
    go_ret
    exact ⟨rfl, (HK1.out.trans H13.out).trans kk⟩
  · have g6 : B6 = 1 := by rw [f6.out]; simp [tr, hu]
    have g4 : B4 = 0 := by rw [F4.out]; simp [tr, hu]
    have g5 : (B5 == 1) = (V != 0) := by rw [f5.out]; unfold tr; by_cases h : V = 0 <;> simp [h, hu]
    have o0 : bits .or .i64 1 0 = 1 := rfl
    have o5 : bits .or .i64 B5 1 = 1 := by rcases b5.out with h | h <;> rw [h] <;> rfl
    have u1 : (U == 0) = false := by simp [hu]
    have u2 : (U != 0) = true := by simp [hu]
    subst g6 g4
    clear f5 f6 f7 f8 F4 b5 b6 b7 b8 hu
    go_wp2_with fail
    refine Calls.mono (ck _) ?_
    rintro e wk ⟨rfl, kk⟩
    go_wp2_with fail
    go_ret
    exact ⟨rfl, (HK1.out.trans H13.out).trans kk⟩

end Go.Proofs.Ytpjfmgmhohpjmaa
