/-
  Learn, forget, Compact, Jump.
-/
import Derived.Test.YtmejeiadfcdogaaL1
import Derived.Deep.RegionHeldLaw
namespace Go.Proofs.Ytmejeiadfcdogaa
open Go.RowKit

section
variable {w : World} {L M n b t : Nat} {f : Vals} {x : Lo}

set_option maxRecDepth 100000 in
set_option maxHeartbeats 1000000 in
theorem learn_any (h : Lm w L M n x) (hn : n < 1000000) {s : Int} (hs : Fit64 s) (v : List UInt8) :
    Calls Try.prog 9 #[.pointer (some ⟨L, 0, none⟩), .int .i64 s, .string ⟨v.toArray⟩] w fun e w' => e = .returned (.int .i64 ((learn x s v).1 : Nat)) ∧ Lm w' L M (n + 1) (learn x s v).2 ∧ Kept (fun y => y ≠ L ∧ y ≠ M) w w' := by
  obtain ⟨c0, c1, c2, f0, f1, f2⟩ := lcell h.lc.self
  have hl := h.lc.mp.look hs
  have lt := h.lc.lt
  have H : Hid (Lm w L M n x) := h
  obtain ⟨y, hy⟩ : ∃ y, y = learn x s v := ⟨_, rfl⟩
  rw [← hy]
  have HY : Hid (y = learn x s v) := hy
  clear h hy
  by_cases h0 : s < 0
  · have e := HY.out.trans (learn_arg (.inl h0))
    subst e
    clear HY hl
    go_enter Try.func9, Try.ntmps9
    go_wp2
    go_ret
    exact ⟨rfl, H.out.mono (by omega), Kept.refl _ _⟩
  · by_cases h1 : 512 ≤ s
    · have e := HY.out.trans (learn_arg (.inr h1))
      subst e
      clear HY hl
      go_enter Try.func9, Try.ntmps9
      go_wp2
      go_ret
      exact ⟨rfl, H.out.mono (by omega), Kept.refl _ _⟩
    · by_cases h2 : s < (x.base : Int)
      · have e := HY.out.trans (learn_low (by omega) (by omega) h2)
        subst e
        clear HY hl
        go_enter Try.func9, Try.ntmps9
        go_wp2
        go_ret
        exact ⟨rfl, H.out.mono (by omega), Kept.refl _ _⟩
      · have k1 : ∀ (o : Obj), Kept (fun _ => True) w (w.alloc o) := fun o => (Kept.refl _ _).alloc o
        have done : ∀ (o : Obj) (w2 : World), Mp w2 M (n + 1) (put x.f s v) → Kept (· ≠ M) (w.alloc o) w2 → Lm w2 L M (n + 1) { x with f := put x.f s v } ∧ Kept (fun y => y ≠ L ∧ y ≠ M) w w2 := fun o w2 m2 k2 => by
          have k3 : Kept (· ≠ M) w w2 := ((k1 o).mono (fun _ _ _ => trivial)).trans k2
          exact ⟨⟨⟨(k3.block L H.out.lc.lt H.out.lc.ne).trans H.out.lc.self, m2⟩, H.out.ok.put (by omega) (by omega) v⟩, k3.mono (fun _ _ q => q.2)⟩
        cases hf : x.f s with
        | none =>
          have e := HY.out.trans (learn_new (by omega) (by omega) (by omega) hf)
          subst e
          rw [hf] at hl
          simp only [Option.getD_none, Option.isSome_none] at hl
          obtain ⟨w2, r2, m2, k2, z2⟩ := (H.out.lc.all (k1 (.cells #[.string ⟨#[]⟩] 58))).mp.store hs hn v
          have D : Hid _ := done _ w2 m2 k2
          clear HY hf done m2 k2
          go_enter Try.func9, Try.ntmps9
          go_wp2
          go_ret
          exact ⟨rfl, D.out⟩
        | some u =>
          rw [hf] at hl
          simp only [Option.getD_some, Option.isSome_some] at hl
          by_cases hu : u = v
          · subst hu
            have e := HY.out.trans (learn_same (by omega) (by omega) (by omega) hf)
            subst e
            obtain ⟨w2, r2, m2, k2, z2⟩ := (H.out.lc.all (k1 (.cells #[.string ⟨u.toArray⟩] 58))).mp.store hs hn u
            have D : Hid _ := done _ w2 m2 k2
            have HF : Hid (put x.f s u = x.f) := put_same hf
            clear HY hf done m2 k2
            go_enter Try.func9, Try.ntmps9
            go_wp2
            go_ret
            have D' := D.out
            rw [HF.out] at D'
            exact ⟨rfl, D'⟩
          · have e := HY.out.trans (learn_other (by omega) (by omega) (by omega) hf hu)
            subst e
            have hne : (u == v) = false := beq_eq_false_iff_ne.2 hu
            clear HY hf done hu
            go_enter Try.func9, Try.ntmps9
            go_wp2
            go_ret
            exact ⟨rfl, (H.out.all (k1 _)).mono (by omega), (k1 _).mono (fun _ _ _ => trivial)⟩

/-- delete, as a step of a region that draws. -/
theorem step_delete {ops : Array Oper} {o : Oper} {a : Act} {K : Act → World → Prop} {Q : Exit → Act → World → Prop} {E : Prop} (hgd : o.guard = none) (m k : Operand) (ho : o.op = .call { callee := .builtin .delete, args := #[m, k], argTypes := #[54, 3] })
    (hm : a.eval m = .map (some M)) (z : Int) (hk : a.eval k = .int .i64 z) (hz : Fit64 z) (h : Mp w M n f)
    (hK : ∀ w', Mp w' M n (strike f z) → Kept (· ≠ M) w w' → K (a.put o.dst (.tuple #[])) w') : if Region.wanted o (yielded ops a.tmps) = true then Oper.wp Try.prog o a w K Q else E := by
  have hw : Region.wanted o (yielded ops a.tmps) = true := by simp [Region.wanted, hgd]
  rw [if_pos hw]
  obtain ⟨w', hr, h2, h3, _⟩ := h.drop hz o.type
  unfold Oper.wp execOp
  simp only [ho, resolve, invoke, builtin, Sem.run_bind, Sem.run_pure, Result.andThen_ok, List.map_toArray, List.map_cons, List.map_nil, hm, hk, hr]
  exact hK w' h2 h3

set_option maxRecDepth 100000 in
set_option maxHeartbeats 1000000 in
theorem forget_any (h : Lc w L M n b t f) (hb : ∀ z : Int, z < b → f z = none) {m : Nat} (h1 : b ≤ m) (h2 : m ≤ 512) :
    Calls Try.prog 30 #[.pointer (some ⟨L, 0, none⟩), .int .i64 (m : Nat)] w fun e w' => e = .returned (.tuple #[]) ∧ Lc w' L M n m t (gone f m) ∧ Kept (fun y => y ≠ L ∧ y ≠ M) w w' := by
  have H : Hid (Lc w L M n b t f) := h
  have HB : Hid (gone f b = f) := gone_none hb
  clear h hb
  go_enter Try.func30, Try.ntmps30
  go_wp2_with fail
  go_loopw [] (fun wr => ∃ k : Nat, b ≤ k ∧ k ≤ m ∧ Lc wr L M n k t (gone f k) ∧ Kept (fun y => y ≠ L ∧ y ≠ M) w wr) (fun wr => m - (intOf ((wr.cell? ⟨L, 0, none⟩).getD (.int .i64 0))).toNat)
  case atStart => exact ⟨b, Nat.le_refl _, h1, by rw [HB.out]; exact H.out, Kept.refl _ _⟩
  case round =>
    obtain ⟨k, g1, g2, hc, hk⟩ := hrel
    obtain ⟨c0, c1, c2, f0, f1, f2⟩ := lcell hc.self
    have HC : Hid (Lc wr L M n k t (gone f k)) := hc
    have lt := hc.lt
    have hne := hc.ne
    clear hc
    by_cases hlt : k < m
    · have hlt' : (k : Int) < (m : Int) := by omega
      have l0 : ∀ W, Kept (fun y => y ≠ M) wr W → W.cell? ⟨L, 0, none⟩ = some (.int .i64 (k : Nat)) := fun W q => cell_kept q c0 hne
      have l2 : ∀ W, Kept (fun y => y ≠ M) wr W → W.cell? ⟨L, 2, none⟩ = some (.map (some M)) := fun W q => cell_kept q c2 hne
      have kd : Kept (fun y => y ≠ M) wr wr.drew := (Kept.refl _ _).drew
      have HD : Hid (Mp wr.drew M n (gone f k)) := (HC.out.all ((Kept.refl _ _).drew)).mp
      go_wp2_with fail
      go_region_law (refine step_delete ?_ (.tmp 20) (.tmp 24) ?_ ?_ (k : Int) ?_ ⟨by omega, by omega⟩ HD.out ?_; rfl; rfl; rfl; rfl; intro w1 m1 k1)
      all_goals
        have H1 : Lc w1 L M n k t (gone f ((k + 1 : Nat) : Int)) := ⟨((kd.trans k1).block L lt hne).trans HC.out.self, by rw [← gone_step]; exact m1⟩
        obtain ⟨d0, d1, d2, e0, e1, e2⟩ := lcell H1.self
        have H2 := H1.setBase (k + 1)
        have H2' : Hid _ := H2
        have C0 : Hid (wr.cell? ⟨L, 0, none⟩ = some (.int .i64 (k : Nat))) := c0
        clear H2 l0 l2 c0 c1 c2 f0 f1 f2
        go_wp2
        refine ⟨⟨k + 1, by omega, by omega, H2'.out.1, hk.trans (((kd.trans k1).mono (fun _ _ q => q.2)).trans (H2'.out.2.mono (fun _ _ q => q.1)))⟩, ?_⟩
        have q := (lcell H2'.out.1.self).1
        have q' : (w1.setCell ⟨L, 0, none⟩ (.int .i64 ((k : Int) + 1))).cell? ⟨L, 0, none⟩ = some (.int .i64 ((k + 1 : Nat) : Int)) := q
        rw [q', C0.out]
        simp only [Option.getD_some, intOf, Int.toNat_natCast]
        omega
    · have hlt' : ¬ (k : Int) < (m : Int) := by omega
      have e : k = m := by omega
      subst e
      go_wp2
      go_end0
      exact ⟨rfl, HC.out, hk⟩

set_option maxHeartbeats 400000 in
theorem compact_any (h : Lm w L M n x) (z : Int) :
    Calls Try.prog 11 #[.pointer (some ⟨L, 0, none⟩), .int .i64 z] w fun e w' => e = .returned (.int .i64 ((compact x z).1 : Nat)) ∧ Lm w' L M n (compact x z).2 ∧ Kept (fun y => y ≠ L ∧ y ≠ M) w w' := by
  obtain ⟨c0, c1, c2, f0, f1, f2⟩ := lcell h.lc.self
  have H : Hid (Lm w L M n x) := h
  obtain ⟨y, hy⟩ : ∃ y, y = compact x z := ⟨_, rfl⟩
  rw [← hy]
  clear h
  by_cases h1 : z < (x.base : Int)
  · have e : y = (1, x) := hy.trans (by unfold compact; rw [if_pos (.inl h1)])
    subst e
    clear hy
    go_enter Try.func11, Try.ntmps11
    go_wp2
    go_ret
    exact ⟨rfl, H.out, Kept.refl _ _⟩
  · by_cases h2 : (x.taken : Int) < z
    · have e : y = (1, x) := hy.trans (by unfold compact; rw [if_pos (.inr h2)])
      subst e
      clear hy
      go_enter Try.func11, Try.ntmps11
      go_wp2
      go_ret
      exact ⟨rfl, H.out, Kept.refl _ _⟩
    · obtain ⟨m, rfl⟩ : ∃ m : Nat, z = m := ⟨z.toNat, by omega⟩
      have e : y = (0, { x with base := m, f := gone x.f m }) := hy.trans (by unfold compact; rw [if_neg (by omega)]; simp)
      have c := forget_any H.out.lc H.out.ok.low (m := m) (by omega) (by have := H.out.ok.most; omega)
      subst e
      clear hy
      go_enter Try.func11, Try.ntmps11
      go_wp2_with (go_at_call 30; refine Calls.mono c ?_; rintro e w1 ⟨rfl, m1, k1⟩)
      go_ret
      exact ⟨rfl, ⟨m1, H.out.ok.compact (by omega) (by omega)⟩, k1⟩

set_option maxHeartbeats 400000 in
theorem jump_any (h : Lm w L M n x) (z : Int) :
    Calls Try.prog 12 #[.pointer (some ⟨L, 0, none⟩), .int .i64 z] w fun e w' => e = .returned (.int .i64 ((jump x z).1 : Nat)) ∧ Lm w' L M n (jump x z).2 ∧ Kept (fun y => y ≠ L ∧ y ≠ M) w w' := by
  obtain ⟨c0, c1, c2, f0, f1, f2⟩ := lcell h.lc.self
  have H : Hid (Lm w L M n x) := h
  obtain ⟨y, hy⟩ : ∃ y, y = jump x z := ⟨_, rfl⟩
  rw [← hy]
  clear h
  by_cases h1 : z < 0
  · have e : y = (1, x) := hy.trans (by unfold jump; rw [if_pos (.inl h1)])
    subst e
    clear hy
    go_enter Try.func12, Try.ntmps12
    go_wp2
    go_ret
    exact ⟨rfl, H.out, Kept.refl _ _⟩
  · by_cases h2 : 512 < z
    · have e : y = (1, x) := hy.trans (by unfold jump; rw [if_pos (.inr h2)])
      subst e
      clear hy
      go_enter Try.func12, Try.ntmps12
      go_wp2
      go_ret
      exact ⟨rfl, H.out, Kept.refl _ _⟩
    · by_cases h3 : z ≤ (x.taken : Int)
      · have e : y = (0, x) := hy.trans (by unfold jump; rw [if_neg (by omega), if_pos h3])
        subst e
        clear hy
        go_enter Try.func12, Try.ntmps12
        go_wp2
        go_ret
        exact ⟨rfl, H.out, Kept.refl _ _⟩
      · obtain ⟨m, rfl⟩ : ∃ m : Nat, z = m := ⟨z.toNat, by omega⟩
        have e : y = (0, ⟨m, m, gone x.f m⟩) := hy.trans (by unfold jump; rw [if_neg (by omega), if_neg h3]; simp)
        have c := forget_any H.out.lc H.out.ok.low (m := m) (by have := H.out.ok.le; omega) (by omega)
        subst e
        clear hy
        go_enter Try.func12, Try.ntmps12
        go_wp2_with (go_at_call 30; refine Calls.mono c ?_; rintro e w1 ⟨rfl, m1, k1⟩; obtain ⟨d0, d1, d2, e0, e1, e2⟩ := lcell m1.self; have HM : Hid (Lc w1 L M n m x.taken (gone x.f m)) := m1; clear m1)
        go_ret
        have q := HM.out.setTaken m
        exact ⟨rfl, ⟨q.1, H.out.ok.jump (by omega)⟩, k1.trans (q.2.mono (fun _ _ r => r.1))⟩
end

end Go.Proofs.Ytmejeiadfcdogaa
