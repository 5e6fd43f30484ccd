/-
  The law's made.
-/
import Derived.Test.YtpjfmgmhohpjmaaQMade
import Derived.Test.YtpjfmgmhohpjmaaQ9
import Derived.Test.YtpjfmgmhohpjmaaSWithin
import Derived.Laws.Concat
import Derived.Deep.CutRange
namespace Go.Proofs.Ytpjfmgmhohpjmaa
open Go.RowKit

/-- A slice of numbers that is looked at, apart from block P. -/
def Vp (w : World) (P : Nat) (v : Value) (xs : List Int) : Prop :=
  ∃ ao cap, v = .slice ao xs.length cap ∧ (0 < xs.length → ∃ b off, ao = some ⟨b, off, none⟩ ∧ b < w.heap.size ∧ b ≠ P ∧ ∀ i (h : i < xs.length), w.cell? ⟨b, off + i, none⟩ = some (.int .i64 (xs[i])))
theorem Vp.kept {w w' : World} {P : Nat} {v : Value} {xs : List Int} (h : Vp w P v xs) (k : Kept (· ≠ P) w w') : Vp w' P v xs := by
  obtain ⟨ao, cap, e, h⟩ := h
  refine ⟨ao, cap, e, fun h0 => ?_⟩
  obtain ⟨b, off, e, hb, hne, hc⟩ := h h0
  exact ⟨b, off, e, Nat.lt_of_lt_of_le hb k.size, hne, fun i hi => (kept_cell k hb hne).trans (hc i hi)⟩
theorem row_cell {w : World} {g k : Nat} {cs : Array Value} {t : TypeId} {fr : Nat × Nat} {v : Value} (h : w.heap[g]? = some (.cells cs t fr)) (hx : cs[k]? = some v) : w.cell? ⟨g, k, none⟩ = some v := by simp [World.cell?, h, hx]
theorem one_cell {w : World} {b : Nat} {x : Value} {t : TypeId} (h : w.heap[b]? = some (.cells #[x] t (0, 0))) : w.cell? ⟨b, 0, none⟩ = some x ∧ w.frozen? ⟨b, 0, none⟩ = false := ⟨by simp [World.cell?, h], by simp [World.frozen?, h]⟩
theorem text_add (a b : List UInt8) (h : a.length + b.length ≤ 1000000) (W : World) : (Op.stringOp .add ⟨a.toArray⟩ ⟨b.toArray⟩).run Try.prog W = .ok (.string ⟨(a ++ b).toArray⟩) W := run_string_add_lists (P := Try.prog) W a b (by omega) (by omega)

/-- A text of the first row. -/
theorem leaf_at (n : Nat) (hn : n ≤ 11) (d : Nat) : ∃ x : List UInt8, (#[Value.string ⟨#[120]⟩, .string ⟨#[121]⟩, .string ⟨#[49]⟩, .string ⟨#[45, 50]⟩, .string ⟨#[48]⟩, .string ⟨#[55]⟩, .string ⟨#[120]⟩, .string ⟨#[121]⟩, .string ⟨#[51]⟩, .string ⟨#[48]⟩, .string ⟨#[49]⟩, .string ⟨#[50]⟩] : Array Value)[n]? = some (.string ⟨x.toArray⟩) ∧ Mk d x := by
  have hn' : n = 0 ∨ n = 1 ∨ n = 2 ∨ n = 3 ∨ n = 4 ∨ n = 5 ∨ n = 6 ∨ n = 7 ∨ n = 8 ∨ n = 9 ∨ n = 10 ∨ n = 11 := by omega
  rcases hn' with rfl | rfl | rfl | rfl | rfl | rfl | rfl | rfl | rfl | rfl | rfl | rfl
  · exact ⟨_, rfl, Mk.leaves d 0 (by decide) _ rfl⟩
  · exact ⟨_, rfl, Mk.leaves d 1 (by decide) _ rfl⟩
  · exact ⟨_, rfl, Mk.leaves d 2 (by decide) _ rfl⟩
  · exact ⟨_, rfl, Mk.leaves d 3 (by decide) _ rfl⟩
  · exact ⟨_, rfl, Mk.leaves d 4 (by decide) _ rfl⟩
  · exact ⟨_, rfl, Mk.leaves d 5 (by decide) _ rfl⟩
  · exact ⟨_, rfl, Mk.leaves d 6 (by decide) _ rfl⟩
  · exact ⟨_, rfl, Mk.leaves d 7 (by decide) _ rfl⟩
  · exact ⟨_, rfl, Mk.leaves d 8 (by decide) _ rfl⟩
  · exact ⟨_, rfl, Mk.leaves d 9 (by decide) _ rfl⟩
  · exact ⟨_, rfl, Mk.leaves d 10 (by decide) _ rfl⟩
  · exact ⟨_, rfl, Mk.leaves d 11 (by decide) _ rfl⟩
theorem op_at (n : Nat) (h5 : 5 ≤ n) (hn : n ≤ 11) : ∃ x : List UInt8, (#[Value.string ⟨#[97, 110, 100]⟩, .string ⟨#[111, 114]⟩, .string ⟨#[108, 116]⟩, .string ⟨#[101, 113]⟩, .string ⟨#[97, 100, 100]⟩, .string ⟨#[115, 117, 98]⟩, .string ⟨#[97, 110, 100]⟩] : Array Value)[n - 5]? = some (.string ⟨x.toArray⟩) ∧ tx x = [x] ∧ 5 ≤ kd x ∧ x.length ≤ 3 := by
  have hn' : n = 5 ∨ n = 6 ∨ n = 7 ∨ n = 8 ∨ n = 9 ∨ n = 10 ∨ n = 11 := by omega
  rcases hn' with rfl | rfl | rfl | rfl | rfl | rfl | rfl
  · exact ⟨_, rfl, ops2_fine 0 _ rfl⟩
  · exact ⟨_, rfl, ops2_fine 1 _ rfl⟩
  · exact ⟨_, rfl, ops2_fine 2 _ rfl⟩
  · exact ⟨_, rfl, ops2_fine 3 _ rfl⟩
  · exact ⟨_, rfl, ops2_fine 4 _ rfl⟩
  · exact ⟨_, rfl, ops2_fine 5 _ rfl⟩
  · exact ⟨_, rfl, ops2_fine 6 _ rfl⟩

/-- What made leaves. -/
def Md (w w' : World) (P i d : Nat) : Prop := ∃ i' : Nat, i' + 1 ≤ i + 2 ^ (d + 1) ∧ w'.heap[P]? = some (.cells #[.int .i64 (i' : Nat)] 3 (0, 0)) ∧ Kept (· ≠ P) w w'

set_option maxRecDepth 100000 in
set_option maxHeartbeats 2000000 in
theorem made_any {u : Value} {ls : List Int} {P : Nat} (d : Nat) : ∀ {w : World} {i : Nat} (_ : Vp w P u ls) (_ : w.heap[P]? = some (.cells #[.int .i64 (i : Nat)] 3 (0, 0))) (_ : i + 2 ^ (d + 1) ≤ 1000000) (_ : d ≤ 3),
    Calls Try.prog 20 #[u, .pointer (some ⟨P, 0, none⟩), .int .i64 (d : Nat)] w fun e w' => (∃ s, e = .returned (.string ⟨s.toArray⟩) ∧ Mk d s) ∧ Md w w' P i d := by
  induction d with
  | zero =>
    intro w i hv hP hi hd
    obtain ⟨ao, cap, rfl, hv⟩ := hv
    have HV : Hid _ := hv
    have HP : Hid _ := hP
    obtain ⟨p0, p1⟩ := one_cell hP
    have hp := lt_of_block hP
    clear hv hP
    have HS : Hid ((w.setCell ⟨P, 0, none⟩ (.int .i64 ((i : Int) + 1))).heap[P]? = some (.cells #[.int .i64 ((i + 1 : Nat) : Int)] 3 (0, 0))) := set_word HP.out 0 _
    have HK : Hid (Kept (· ≠ P) w (w.setCell ⟨P, 0, none⟩ (.int .i64 ((i : Int) + 1)))) := (Kept.refl _ _).setCell (by simp) _
    go_enter Try.func20, Try.ntmps20
    go_upto_if 14 with fail
    go_cut [7] from 8 to 21 (fun t wx => (∃ n : Nat, n ≤ 11 ∧ t = .int .i64 (n : Nat)) ∧ w = wx)
    case first =>
      by_cases hlt : i < ls.length
      · have i1 : (i : Int) < (ls.length : Int) := by omega
        have i0 : (0 : Int) ≤ (i : Int) := by omega
        obtain ⟨b, off, rfl, hb, hne, hc⟩ := HV.out (by omega)
        have q1 := hc i hlt
        have cw := fun W => within_any (w := W) (ls[i]) 11 (by decide)
        clear hc
        generalize ls[i] = z at *
        go_wp2_with fail
        refine Calls.mono (cw _) ?_
        rintro e w1 ⟨⟨n, hn, rfl⟩, rfl⟩
        go_wp2_with fail
        go_meet
        exact ⟨⟨n, hn, rfl⟩, rfl⟩
      · have i1 : ¬ (i : Int) < (ls.length : Int) := by omega
        go_wp2_with fail
        go_meet
        exact ⟨⟨0, by omega, rfl⟩, rfl⟩
    case rest =>
    obtain ⟨⟨n, hn, rfl⟩, rfl⟩ := hcut
    obtain ⟨x, hx, hM⟩ : ∃ x : List UInt8, (#[Value.string ⟨#[120]⟩, .string ⟨#[121]⟩, .string ⟨#[49]⟩, .string ⟨#[45, 50]⟩, .string ⟨#[48]⟩, .string ⟨#[55]⟩, .string ⟨#[120]⟩, .string ⟨#[121]⟩, .string ⟨#[51]⟩, .string ⟨#[48]⟩, .string ⟨#[49]⟩, .string ⟨#[50]⟩] : Array Value)[n]? = some (.string ⟨x.toArray⟩) ∧ Mk 0 x := leaf_at n hn 0
    have HM : Hid (Mk 0 x) := hM
    have j1 : (n : Int) < 12 := by omega
    have j0 : (0 : Int) ≤ (n : Int) := by omega
    have j2 : ((n : Int).toNat) = n := by omega
    clear hM
    go_wp2_with fail
    go_ret
    exact ⟨⟨_, rfl, HM.out⟩, i + 1, by omega, ((Kept.refl (fun _ => True) _).alloc _).block P (by simpa [World.setCell] using hp) trivial |>.trans HS.out, HK.out.alloc _⟩
  | succ d ih =>
    intro w i hv hP hi hd
    have HI : Hid (∀ {w : World} {i : Nat} (_ : Vp w P u ls) (_ : w.heap[P]? = some (.cells #[.int .i64 (i : Nat)] 3 (0, 0))) (_ : i + 2 ^ (d + 1) ≤ 1000000) (_ : d ≤ 3),
      Calls Try.prog 20 #[u, .pointer (some ⟨P, 0, none⟩), .int .i64 (d : Nat)] w fun e w' => (∃ s, e = .returned (.string ⟨s.toArray⟩) ∧ Mk d s) ∧ Md w w' P i d) := ih
    clear ih
    have HVP : Hid (Vp w P u ls) := hv
    obtain ⟨ao, cap, rfl, hv⟩ := hv
    have HV : Hid _ := hv
    obtain ⟨p0, p1⟩ := one_cell hP
    have hp := lt_of_block hP
    have hpw : 2 ^ (d + 1 + 1) = 2 * 2 ^ (d + 1) := by rw [Nat.pow_succ 2 (d + 1)]; omega
    have hp1 : 1 ≤ 2 ^ (d + 1) := Nat.one_le_two_pow
    have HPW : Hid (2 ^ (d + 1 + 1) = 2 * 2 ^ (d + 1) ∧ i + 2 ^ (d + 1 + 1) ≤ 1000000 ∧ 1 ≤ 2 ^ (d + 1)) := ⟨hpw, hi, hp1⟩
    have HS : Hid ((w.setCell ⟨P, 0, none⟩ (.int .i64 ((i : Int) + 1))).heap[P]? = some (.cells #[.int .i64 ((i + 1 : Nat) : Int)] 3 (0, 0))) := set_word hP 0 _
    have HK : Hid (Kept (· ≠ P) w (w.setCell ⟨P, 0, none⟩ (.int .i64 ((i : Int) + 1)))) := (Kept.refl _ _).setCell (by simp) _
    have hi' : i ≤ 1000000 := by omega
    clear hv hP hi hpw hp1
    go_enter Try.func20, Try.ntmps20
    go_upto_if 14 with fail
    go_cut [7] from 8 to 21 (fun t wx => (∃ n : Nat, n ≤ 11 ∧ t = .int .i64 (n : Nat)) ∧ w = wx)
    case first =>
      by_cases hlt : i < ls.length
      · have i1 : (i : Int) < (ls.length : Int) := by omega
        have i0 : (0 : Int) ≤ (i : Int) := by omega
        obtain ⟨b, off, rfl, hb, hne, hc⟩ := HV.out (by omega)
        have q1 := hc i hlt
        have cw := fun W => within_any (w := W) (ls[i]) 11 (by decide)
        clear hc
        generalize ls[i] = z at *
        go_wp2_with fail
        refine Calls.mono (cw _) ?_
        rintro e w1 ⟨⟨n, hn, rfl⟩, rfl⟩
        go_wp2_with fail
        go_meet
        exact ⟨⟨n, hn, rfl⟩, rfl⟩
      · have i1 : ¬ (i : Int) < (ls.length : Int) := by omega
        go_wp2_with fail
        go_meet
        exact ⟨⟨0, by omega, rfl⟩, rfl⟩
    case rest =>
    obtain ⟨⟨n, hn, rfl⟩, rfl⟩ := hcut
    have d0 : ((d : Int) + 1 == 0) = false := by simp; omega
    by_cases h4 : n < 4
    · obtain ⟨x, hx, hM⟩ := leaf_at n hn (d + 1)
      have HM : Hid (Mk (d + 1) x) := hM
      have j4 : (n : Int) < 4 := by omega
      have j1 : (n : Int) < 12 := by omega
      have j0 : (0 : Int) ≤ (n : Int) := by omega
      clear hM
      go_wp2_with fail
      go_ret
      refine ⟨⟨_, rfl, HM.out⟩, i + 1, ?_, ((Kept.refl (fun _ => True) _).alloc _).block P (by simpa [World.setCell] using hp) trivial |>.trans HS.out, HK.out.alloc _⟩
      obtain ⟨y1, y2, y3⟩ := HPW.out
      omega
    · have j4 : ¬ (n : Int) < 4 := by omega
      have ck := HI.out (HVP.out.kept HK.out) HS.out (by obtain ⟨y1, y2, y3⟩ := HPW.out; omega) (by omega)
      have hdd : (d : Int) + 1 - 1 = (d : Int) := by omega
      by_cases h5 : n = 4
      · subst h5
        clear h4 j4
        go_wp2_with fail
        refine Calls.mono ck ?_
        rintro e w2 ⟨⟨s1, rfl, hM⟩, i2, hi2, hP2, hk2⟩
        have HM : Hid (Mk (d + 1) ([110, 111, 116, 32] ++ s1)) := hM.one
        have hl1 : s1.length ≤ 1000 := by
          have := hM.len
          have hb : bd d ≤ 1000 := by
            have : d = 0 ∨ d = 1 ∨ d = 2 := by omega
            rcases this with rfl | rfl | rfl <;> decide
          omega
        have ha := text_add [110, 111, 116, 32] s1 (by simp; omega)
        have HK2 : Hid (Kept (· ≠ P) w w2) := HK.out.trans hk2
        have HP2 : Hid _ := hP2
        clear hM hk2 hP2 ck
        generalize [110, 111, 116, 32] ++ s1 = s2 at *
        go_wp2_with fail
        go_ret
        refine ⟨⟨_, rfl, HM.out⟩, i2, ?_, HP2.out, HK2.out⟩
        obtain ⟨y1, y2, y3⟩ := HPW.out
        omega
      · have h5' : ((n : Int) == 4) = false := by simp; omega
        go_wp2_with fail
        refine Calls.mono ck ?_
        rintro e w2 ⟨⟨s1, rfl, hM⟩, i2, hi2, hP2, hk2⟩
        clear ck
        have hb : bd d ≤ 1000 := by
          have : d = 0 ∨ d = 1 ∨ d = 2 := by omega
          rcases this with rfl | rfl | rfl <;> decide
        have hl1 : s1.length ≤ 1000 := Nat.le_trans hM.len hb
        have HM1 : Hid (Mk d s1) := hM
        have HI2 : Hid (i2 + 1 ≤ i + 1 + 2 ^ (d + 1)) := hi2
        have HB : Hid (bd d ≤ 1000) := hb
        have HK2 : Hid (Kept (· ≠ P) w w2) := HK.out.trans hk2
        have HP2 : Hid (w2.heap[P]? = some (.cells #[.int .i64 (i2 : Nat)] 3 (0, 0))) := hP2
        have ck : ∀ W, Kept (fun _ => True) w2 W → _ := fun W hW => HI.out (w := W) (i := i2) ((HVP.out.kept HK2.out).kept (hW.mono fun _ _ _ => trivial)) ((hW.block P (lt_of_block hP2) trivial).trans hP2) (by obtain ⟨y1, y2, y3⟩ := HPW.out; omega) (by omega)
        obtain ⟨x, hx, ht, hk5, hxl⟩ := op_at n (by omega) hn
        have hn5 : ((n : Int) - 5).toNat = n - 5 := by omega
        have j5 : (0 : Int) ≤ (n : Int) - 5 := by omega
        have j7 : (n : Int) - 5 < 7 := by omega
        obtain ⟨y1, hy1, a1⟩ : ∃ y1 : List UInt8, Hid (y1 = x ++ [32]) ∧ ∀ W, (Op.stringOp .add ⟨x.toArray⟩ ⟨#[32]⟩).run Try.prog W = .ok (.string ⟨y1.toArray⟩) W := ⟨_, by show _ = _; rfl, text_add x [32] (by simp; omega)⟩
        obtain ⟨y2, hy2, a2⟩ : ∃ y2 : List UInt8, Hid (y2 = x ++ [32] ++ s1) ∧ ∀ W, (Op.stringOp .add ⟨y1.toArray⟩ ⟨s1.toArray⟩).run Try.prog W = .ok (.string ⟨y2.toArray⟩) W := ⟨_, by show _ = _; rw [hy1.out], text_add y1 s1 (by rw [hy1.out]; simp; omega)⟩
        obtain ⟨y3, hy3, a3⟩ : ∃ y3 : List UInt8, Hid (y3 = x ++ [32] ++ s1 ++ [32]) ∧ ∀ W, (Op.stringOp .add ⟨y2.toArray⟩ ⟨#[32]⟩).run Try.prog W = .ok (.string ⟨y3.toArray⟩) W := ⟨_, by show _ = _; rw [hy2.out], text_add y2 [32] (by rw [hy2.out]; simp; omega)⟩
        have HN : Hid (∀ s2, Mk d s2 → ∃ y4 : List UInt8, (∀ W, (Op.stringOp .add ⟨y3.toArray⟩ ⟨s2.toArray⟩).run Try.prog W = .ok (.string ⟨y4.toArray⟩) W) ∧ Hid (Mk (d + 1) y4)) := fun s2 h2 => ⟨y3 ++ s2, text_add y3 s2 (by rw [hy3.out]; have := h2.len; have := HB.out; simp; omega), by show Mk _ _; rw [hy3.out]; exact Mk.two ht hk5 hxl HM1.out h2⟩
        have hp2 : P < w2.heap.size := lt_of_block HP2.out
        have HX : Hid _ := hx
        have hw5 : IntKind.i64.wrap ((n : Int) - 5) = (n : Int) - 5 := by simp [IntKind.wrap, IntKind.bits, IntKind.signed]; omega
        have hwd2 : IntKind.i64.wrap (d : Int) = (d : Int) := by simp [IntKind.wrap, IntKind.bits, IntKind.signed]; omega
        have hwd : IntKind.i64.wrap ((d : Int) + 1 - 1) = (d : Int) := by simp [IntKind.wrap, IntKind.bits, IntKind.signed]; omega
        clear hM hk2 hP2 hb hi2 ht hk5 hxl
        go_wp2_with fail
        go_region_with (go_at_call 20; refine Calls.mono (ck _ ?hkk) ?_; (case hkk => first | (with_reducible exact (Kept.refl _ _)) | (with_reducible exact (Kept.refl _ _).drew) | (with_reducible exact ((Kept.refl _ _).alloc _)) | (with_reducible exact ((Kept.refl _ _).drew).alloc _) | (with_reducible exact ((Kept.refl _ _).alloc _).drew)); rintro e w5 ⟨⟨s2, rfl, hM2⟩, i3, hi3, hP3, hk3⟩; obtain ⟨y4, a4, hM4⟩ := HN.out s2 hM2; try (have hz := row_cell ((hk3.block w2.heap.size (by simp) (by omega)).trans (heap_alloc_new _ _)) HX.out))
        all_goals
          go_wp2_with fail
          go_ret
          refine ⟨⟨_, rfl, hM4.out⟩, i3, ?_, ?_, ?_⟩
          · obtain ⟨y1, y2, y3⟩ := HPW.out
            have := HI2.out
            omega
          · first
              | exact hP3
              | exact (((Kept.refl (fun _ => True) _).alloc _).block P (lt_of_block hP3) trivial).trans hP3
          · first
              | (with_reducible exact (HK2.out.drew.alloc _).trans hk3)
              | (with_reducible exact (HK2.out.alloc _).drew.trans hk3)
              | (with_reducible exact (HK2.out.drew.trans hk3).alloc _)
              | (with_reducible exact ((HK2.out.drew.trans hk3).alloc _).drew)
              | (with_reducible exact (HK2.out.trans hk3).drew.alloc _)

end Go.Proofs.Ytpjfmgmhohpjmaa
