/-
  The program's Scan.
-/
import Derived.Test.YtjobddbcalafhaaWView
import Derived.Test.YtjobddbcalafhaaWStr
import Derived.ScopeJumps
namespace Go.Proofs.Ytjobddbcalafhaa
open Go.RowKit

/-- What holds at each jump back. -/
def Sj (w : World) (ao : Option Addr) (n cap : Nat) (b : List UInt8) (a' : Act) (w' : World) : Prop :=
  ∃ (out : List (List UInt8)) (p : Nat) (v : Value), At b out p ∧ out.length ≤ p ∧ Txs w' w.heap.size v out ∧ Kept (fun _ => True) w w' ∧ ∃ u6 u7 u8 u9 u10 u11 u12 u13 u14 u15 u16 u17 u18 u19 u20 u21 u22 u23 u24 u25 u26 u27 u28 u29 u30 u31 : Value,
    a' = { tmps := #[.slice ao n cap, undef, .slice none 0 0, .int .i64 0, v, .int .i64 p, u6, u7, u8, u9, u10, u11, u12, u13, u14, u15, u16, u17, u18, u19, u20, u21, u22, u23, u24, u25, u26, u27, u28, u29, u30, u31], defers := [] }

theorem headOf_len {b : List UInt8} {f : Bool} {r : List UInt8} {n : Nat} (h : headOf b = some (f, r, n)) : n = 9 + r.length := by
  unfold headOf at h
  split at h
  · cases h
  · rename_i hn
    simp only [Option.some.injEq, Prod.mk.injEq] at h
    simp only [not_or] at hn
    obtain ⟨-, h2, h3⟩ := h
    rw [← h2, ← h3]
    simp
    omega
theorem Txs.fresh {w : World} {base : Nat} {v : Value} {ss : List (List UInt8)} (h : Txs w base v ss) (o : Obj) : Txs (w.alloc o) base v ss := h.kept (p := fun _ => True) ((Kept.refl _ _).alloc o) (fun _ _ => trivial)
theorem Txs.grown {w0 w w' : World} {o : Obj} {v : Value} {ss : List (List UInt8)} (h : Txs w w0.heap.size v ss) (k : Kept (fun _ => True) w0 w) (g : (w.alloc o).grownBy w' v.ownBlock) : Kept (fun _ => True) w0 w' :=
  (k.alloc o).grown g (fun i hi e => by have := (World.ownsRow.lt h i e).1; omega)

/-- A scope that is left by jumps back to a label: the way from the label on is walked once. -/
theorem wp_scope_once {P : Program} {a : Act} {w : World} {Q : Exit → Act → World → Prop} {c rest : Code} (l : Nat) (J : Act → World → Prop) (μ : Act → World → Nat) (hf : findLabel c l = some (Code.skip.seq rest))
    (pass : ∀ a w, J a w → rest.wp P (Exit.jump l (fun a' w' => J a' w' ∧ μ a' w' < μ a w) Q) a w)
    (first : (∀ a w, J a w → rest.wp P (Exit.jump l J Q) a w) → c.wp P (Exit.jump l J Q) a w) : (Code.scope c).wp P Q a w :=
  wp_scope_jumps l J μ hf (first fun a w h => wp_mono (pass a w h) (by
    intro e a' w' hq
    cases e <;> first | exact hq | exact ⟨hq.1, hq.2.1⟩)) fun a w h => wp_seq (wp_skip (pass a w h))

set_option maxRecDepth 100000 in
set_option maxHeartbeats 1000000 in
theorem scan_any {w : World} {ao : Option Addr} {n cap : Nat} {b : List UInt8} (h : View w ao n cap b) (hl : n ≤ 1099511627776) :
    Calls Try.prog 17 #[.slice ao n cap] w fun e w' => ∃ v, e = .returned (.tuple #[v, .int .i64 ((scanOf b).2 : Nat)]) ∧ Txs w' w.heap.size v (scanOf b).1 ∧ Kept (fun _ => True) w w' := by
  have HV : Hid (View w ao n cap b) := h
  clear h
  go_enter Try.func17, Try.ntmps17
  go_wp2
  refine wp_scope_once 0 (Sj w ao n cap b) (fun a' _ => n - (intOf (a'.tmps.getD 5 undef)).toNat) rfl ?_ ?_
  · rintro a' w' ⟨out, p, v, hA, hop, hT, hk, u6, u7, u8, u9, u10, u11, u12, u13, u14, u15, u16, u17, u18, u19, u20, u21, u22, u23, u24, u25, u26, u27, u28, u29, u30, u31, rfl⟩
    have hlen := HV.out.len
    have hp := hA.le
    obtain ⟨a1, s1, v1⟩ := (HV.out.kept hk).tail p (by omega)
    have c := unframe_any v1 (by omega)
    have v1l : (b.drop p).length = n - p := v1.len
    clear v1
    have HA : Hid (At b out p) := hA
    have HK : Hid (Kept (fun _ => True) w w') := hk
    have HT : Hid (Txs w' w.heap.size v out) := hT
    clear hA hT hk
    cases hd : headOf (b.drop p) with
    | none =>
      have HD : Hid (headOf (b.drop p) = none) := hd
      rw [ufOf_none hd] at c
      clear hd
      go_wp2_with fail
      refine Calls.mono c ?_
      rintro e w1 ⟨rfl, k1⟩
      simp only []
      go_wp2_with fail
      simp only [Exit.jump]
      go_ret2
      rw [HA.out.stop HD.out]
      exact ⟨v, rfl, HT.out.kept k1 (fun _ _ => trivial), HK.out.trans k1⟩
    | some x =>
      obtain ⟨f, r, m⟩ := x
      have hm := headOf_some hd
      have HD : Hid (headOf (b.drop p) = some (f, r, m)) := hd
      rw [ufOf_some hd] at c
      clear hd
      have hml := headOf_len HD.out
      have hw1 : IntKind.i64.wrap (9 + (r.length : Int)) = 9 + (r.length : Int) := by simp [IntKind.wrap, IntKind.bits, IntKind.signed]; omega
      have hw2 : IntKind.i64.wrap ((p : Int) + (9 + (r.length : Int))) = (p : Int) + (9 + (r.length : Int)) := by simp [IntKind.wrap, IntKind.bits, IntKind.signed]; omega
      obtain ⟨va, vc, rfl, hvc, -⟩ := HT.out.shape
      cases f
      · go_wp2_with fail
        refine Calls.mono c ?_
        rintro e w1 ⟨rfl, k1⟩
        have HT1 : Hid (Txs w1 w.heap.size (.slice va out.length vc) out) := HT.out.kept k1 (fun _ _ => trivial)
        have HK1 : Hid (Kept (fun _ => True) w w1) := HK.out.trans k1
        go_wp2_with (at_builtin; refine wpList_append_text rfl (.tmp 23) (.tmp 25) rfl w.heap.size (.slice va out.length vc) out rfl (HT1.out.fresh _) (Nat.le_trans HK1.out.size (by simp)) w1.heap.size rfl r _ (heap_alloc_new w1 _) (by omega) ?_; intro a2 c2 w2 ht2 hg2 hl2)
        go_step3
        refine ⟨rfl, ⟨out ++ [r], p + (9 + r.length), _, ?_, ?_, ht2, HT1.out.grown HK1.out hg2, _, _, _, _, _, _, _, _, _, _, _, _, _, _, _, _, _, _, _, _, _, _, _, _, _, _, rfl⟩, ?_⟩
        · have := HA.out.next HD.out
          rw [hml] at this
          exact this
        · simp; omega
        · simp [intOf]; omega
      · go_wp2_with fail
        refine Calls.mono c ?_
        rintro e w1 ⟨rfl, k1⟩
        have HT1 : Hid (Txs w1 w.heap.size (.slice none 0 0) []) := Txs.nil _ _
        have HK1 : Hid (Kept (fun _ => True) w w1) := HK.out.trans k1
        go_wp2_with (at_builtin; refine wpList_append_text rfl (.tmp 23) (.tmp 25) rfl w.heap.size (.slice none 0 0) [] rfl (HT1.out.fresh _) (Nat.le_trans HK1.out.size (by simp)) w1.heap.size rfl r _ (heap_alloc_new w1 _) (by simp) ?_; intro a2 c2 w2 ht2 hg2 hl2)
        go_step3
        refine ⟨rfl, ⟨[] ++ [r], p + (9 + r.length), _, ?_, ?_, ht2, HT1.out.grown HK1.out hg2, _, _, _, _, _, _, _, _, _, _, _, _, _, _, _, _, _, _, _, _, _, _, _, _, _, _, rfl⟩, ?_⟩
        · have := HA.out.next HD.out
          rw [hml] at this
          exact this
        · simp; omega
        · simp [intOf]; omega
  · intro H
    iterate 17 (first | go_values | go_skip | go_guarded | go_step | go_upon | go_back)
    go_step3
    iterate 2 (first | go_values | go_skip | go_guarded | go_step | go_upon | go_back)
    exact H _ _ ⟨[], 0, _, At.start b, Nat.le_refl _, Txs.nil _ _, Kept.refl _ _, _, _, _, _, _, _, _, _, _, _, _, _, _, _, _, _, _, _, _, _, _, _, _, _, _, _, rfl⟩

end Go.Proofs.Ytjobddbcalafhaa
