/-
  NetKept: whatever the text: true, and nothing old is written.
-/
import Derived.Test.YtlgcecndfejngaaNW
namespace Go.Proofs.Ytlgcecndfejngaa
open Go.RowKit

set_option maxRecDepth 100000 in
set_option maxHeartbeats 1000000 in
theorem netKept_any {w : World} (bs : List UInt8) (hl : bs.length ≤ 140737488355328) :
    Calls Try.prog 6 #[.string ⟨bs.toArray⟩] w fun e w' => e = .returned (.bool true) ∧ Kept (fun _ => True) w w' := by
  go_enter Try.func6, Try.ntmps6
  go_wp2_with fail
  refine Calls.mono (new_ok 1 (by decide) (by decide)) ?_
  rintro e w1 ⟨rfl, d1, k1⟩
  have m1 : Hid (Own1 w w1 w.heap.size (fun x => x = w.heap.size) (.slice none 0 0) [] 1 0) := Own1.new d1 k1
  have hB1 : Hid (w.heap.size < w1.heap.size) := d1.lt
  clear d1 k1
  obtain ⟨B, hB⟩ : ∃ B, B = w.heap.size := ⟨_, rfl⟩
  have HB : Hid (B = w.heap.size) := hB
  rw [← hB] at m1 hB1 ⊢
  clear hB
  obtain ⟨cap, w2, cv, hh2, k2, wb2, lt2⟩ := conv_str w1 bs
  have m2 : Hid (Own1 w w2 B (fun x => x = B) (.slice none 0 0) [] 1 0) := m1.out.ahead k2
  have c := send_any (cap := cap) m2.out.net 0 0 (by decide) (by decide) (by simp) (by decide) hh2 (by simp) hl
  have LR : Hid (w.heap.size ≤ w1.heap.size) := m1.out.kept.size
  have L2 : Hid (w1.heap.size < w2.heap.size) := lt2
  have W2 : Hid (Wb w2 (some ⟨w1.heap.size, 0, none⟩) bs.length) := wb2
  clear hh2 k2 m1 wb2 lt2
  go_wp2_with fail
  generalize w1.heap.size = R at *
  refine Calls.mono c ?_
  rintro e w3 ⟨rfl, F3, v3, u, s3⟩
  clear c cv
  have m3 : Hid (Own1 w w3 B F3 v3 [(⟨0, 0, bs⟩, u)] 1 1) := m2.out.step s3
  have nR3 : Hid (¬ F3 R) := s3.not L2.out (by have := hB1.out; omega)
  have W3 : Hid (Wb w3 (some ⟨R, 0, none⟩) bs.length) := W2.out.kept s3.kept (fun ad e => by cases e; have := hB1.out; show ¬ R = B; omega)
  have L3 : Hid (R < w3.heap.size) := Nat.lt_of_lt_of_le L2.out s3.kept.size
  clear s3 m2 W2 L2
  have c := twice_any (p := (⟨0, 0, bs⟩, u)) m3.out.net (by simp) 0 (by unfold I64; decide) rfl
  go_wp2_with fail
  refine Calls.mono c ?_
  rintro e w4 ⟨rfl, F4, v4, s4⟩
  clear c
  have m4 : Hid (Own1 w w4 B F4 v4 [(⟨0, 0, bs⟩, u), (⟨0, 0, bs⟩, u)] 1 1) := m3.out.step s4
  have nR4 : Hid (¬ F4 R) := s4.not L3.out nR3.out
  have W4 : Hid (Wb w4 (some ⟨R, 0, none⟩) bs.length) := W3.out.kept s4.kept (fun ad e => by cases e; exact nR3.out)
  clear s4 m3 W3 nR3 L3
  go_wp2
  go_loopw [6] (fun t wr => ∃ (k : Nat), k ≤ bs.length ∧ t = .int .i64 k ∧ Wb wr (some ⟨R, 0, none⟩) bs.length ∧ Own1 w wr B F4 v4 [(⟨0, 0, bs⟩, u), (⟨0, 0, bs⟩, u)] 1 1) (fun t _ => bs.length - (intOf t).toNat)
  case atStart => exact ⟨0, Nat.zero_le _, rfl, W4.out, m4.out⟩
  case round =>
    clear m4 W4
    obtain ⟨k, hk, rfl, hw, hm⟩ := hrel
    by_cases hlt : k < bs.length
    · obtain ⟨R', m, e, q1, q2⟩ := hw k hlt
      cases e
      have HX : Hid (∀ x, Wb (wr.setCell ⟨R, k, none⟩ (.int .u8 x)) (some ⟨R, 0, none⟩) bs.length ∧ Own1 w (wr.setCell ⟨R, k, none⟩ (.int .u8 x)) B F4 v4 [(⟨0, 0, bs⟩, u), (⟨0, 0, bs⟩, u)] 1 1) := fun x => ⟨hw.set k x, hm.beside ((Kept.refl (· ≠ R) wr).setCell (by simp) _) (fun y hy => fun e => nR4.out (e ▸ hy)) (fun y hy => by have := LR.out; show y ≠ R; omega)⟩
      have hkl : (k : Int) < (bs.length : Int) := by omega
      have hk0 : (0 : Int) ≤ (k : Int) := by omega
      clear hw hm
      go_wp2
      go_roundw
      case rel => exact ⟨k + 1, by omega, by go_num, (HX.out _).1, (HX.out _).2⟩
      case measure => simp [intOf]; omega
    · have hkl : ¬ ((k : Int) < (bs.length : Int)) := by omega
      have m5 : Hid (Own1 w wr B F4 v4 [(⟨0, 0, bs⟩, u), (⟨0, 0, bs⟩, u)] 1 1) := hm
      clear hw hm nR4 hB1 LR HB
      have c := pending_any m5.out.net
      go_wp2_with fail
      refine Calls.mono c ?_
      rintro e w6 ⟨rfl, L, qs, hL⟩
      clear c
      have m6 : Hid (Own1 w w6 B F4 v4 [(⟨0, 0, bs⟩, u), (⟨0, 0, bs⟩, u)] 1 1) := m5.out.ahead hL.kept
      obtain ⟨bo, bc, -, -, x2, hbody⟩ := hL.get 0 (by simp)
      have x2' : w6.cell? ⟨wr.heap.size, 2, none⟩ = some (.slice bo bs.length bc) := x2
      have hF : Hid (∀ x, F4 x → x < wr.heap.size) := m5.out.net.lt
      have L5 : Hid (w.heap.size ≤ wr.heap.size) := m5.out.kept.size
      have hb6 : Hid (∀ x, (Value.slice bo bs.length bc).ownBlock = some x → wr.heap.size < x) := hbody.foot
      have W6 : Hid (Wb w6 bo bs.length) := Wb.own (bc := bc) (bs := bs) hbody.own
      have X2 : Hid (w6.cell? ⟨wr.heap.size, 2, none⟩ = some (.slice bo bs.length bc)) := x2'
      clear x2 x2' hbody hL m5
      generalize wr.heap.size = P at *
      go_wp2
      go_loopw [8] (fun t wx => ∃ (k : Nat), k ≤ bs.length ∧ t = .int .i64 k ∧ Wb wx bo bs.length ∧ wx.cell? ⟨P, 2, none⟩ = some (.slice bo bs.length bc) ∧ Own1 w wx B F4 v4 [(⟨0, 0, bs⟩, u), (⟨0, 0, bs⟩, u)] 1 1) (fun t _ => bs.length - (intOf t).toNat)
      case atStart => exact ⟨0, Nat.zero_le _, rfl, W6.out, X2.out, m6.out⟩
      case round =>
        clear W6 X2 m6 hlt hkl
        obtain ⟨j, hj, rfl, hw, hc, hm⟩ := hrel
        by_cases hlt : j < bs.length
        · obtain ⟨R', m, e, q1, q2⟩ := hw j hlt
          cases e
          have hR' : P < R' := hb6.out R' rfl
          have HX : Hid (∀ x, Wb (wr.drew.setCell ⟨R', j, none⟩ (.int .u8 x)) (some ⟨R', 0, none⟩) bs.length ∧ (wr.drew.setCell ⟨R', j, none⟩ (.int .u8 x)).cell? ⟨P, 2, none⟩ = some (.slice (some ⟨R', 0, none⟩) bs.length bc) ∧ Own1 w (wr.drew.setCell ⟨R', j, none⟩ (.int .u8 x)) B F4 v4 [(⟨0, 0, bs⟩, u), (⟨0, 0, bs⟩, u)] 1 1) := fun x => by
            have kd : Kept (· ≠ R') wr (wr.drew.setCell ⟨R', j, none⟩ (.int .u8 x)) := ((Kept.refl (· ≠ R') wr).drewN 1).setCell (by simp) _
            exact ⟨(hw.kept ((Kept.refl (fun _ => True) wr).drewN 1) (fun _ _ => trivial)).set j x, (kept_cell kd (World.block_lt_of_cell? wr _ hc) (by show P ≠ R'; omega)).trans hc, hm.beside kd (fun y hy => by have := hF.out y hy; show y ≠ R'; omega) (fun y hy => by have := L5.out; show y ≠ R'; omega)⟩
          have hkl : (j : Int) < (bs.length : Int) := by omega
          have hk0 : (0 : Int) ≤ (j : Int) := by omega
          clear hw hm
          go_wp2
          go_region
          all_goals
            go_wp2
            go_roundw
            case rel => exact ⟨j + 1, by omega, by go_num, (HX.out _).1, (HX.out _).2.1, (HX.out _).2.2⟩
            case measure => simp [intOf]; omega
        · have hkl : ¬ ((j : Int) < (bs.length : Int)) := by omega
          have m7 : Hid (Own1 w wr B F4 v4 [(⟨0, 0, bs⟩, u), (⟨0, 0, bs⟩, u)] 1 1) := hm
          clear hw hm hF L5 hb6
          have c := take_any (p := (⟨0, 0, bs⟩, u)) m7.out.net 0 (by unfold I64; decide) rfl
          go_wp2_with fail
          refine Calls.mono c ?_
          rintro e w8 ⟨ao, ac, v8, rfl, o8, s8⟩
          clear c hc
          have nF8 : Hid (¬ F4 w8.heap.size) := fun q => by have := s8.now.lt _ q; omega
          have lb8 : Hid (∀ x, (Value.slice ao bs.length ac).ownBlock = some x → w.heap.size ≤ x ∧ x < w8.heap.size ∧ ¬ F4 x) := fun x hx => ⟨Nat.le_trans m7.out.kept.size (o8.lt x hx).1, (o8.lt x hx).2, fun q => by have := m7.out.net.lt _ q; have := (o8.lt x hx).1; omega⟩
          have L8 : Hid (w.heap.size ≤ w8.heap.size) := (m7.out.step s8).kept.size
          have m8 : Hid (Own1 w (w8.alloc (.cells #[.int .i64 0, .int .i64 0, .slice ao bs.length ac] 30)) B F4 v8 [(⟨0, 0, bs⟩, u)] 1 1) := (m7.out.step s8).ahead ((Kept.refl _ _).alloc _)
          have o8' : (w8.alloc (.cells #[.int .i64 0, .int .i64 0, .slice ao bs.length ac] 30)).ownsRow wr.heap.size 5 1 (.slice ao bs.length ac) bs.length (cells bs) := own_kept o8 ((Kept.refl (fun _ => True) w8).alloc _) (fun _ _ => trivial)
          have cv8 := conv_own o8'
          have W8 : Hid (Wb (w8.alloc (.cells #[.int .i64 0, .int .i64 0, .slice ao bs.length ac] 30)) ao bs.length) := Wb.own (bc := ac) (bs := bs) o8'
          have hx8 := heap_alloc_new w8 (.cells #[.int .i64 0, .int .i64 0, .slice ao bs.length ac] 30)
          have X8 : Hid ((w8.alloc (.cells #[.int .i64 0, .int .i64 0, .slice ao bs.length ac] 30)).cell? ⟨w8.heap.size, 2, none⟩ = some (.slice ao bs.length ac)) := (three_cell hx8).2.2.1
          clear hx8 o8 o8' s8 m7
          go_wp2
          generalize w8.alloc (.cells #[.int .i64 0, .int .i64 0, .slice ao bs.length ac] 30) = w9 at *
          generalize w8.heap.size = X at *
          go_loopw [11] (fun t wx => ∃ (k : Nat), k ≤ bs.length ∧ t = .int .i64 k ∧ Wb wx ao bs.length ∧ wx.cell? ⟨X, 2, none⟩ = some (.slice ao bs.length ac) ∧ Own1 w wx B F4 v8 [(⟨0, 0, bs⟩, u)] 1 1) (fun t _ => bs.length - (intOf t).toNat)
          case atStart => exact ⟨0, Nat.zero_le _, rfl, W8.out, X8.out, m8.out⟩
          case round =>
            clear W8 X8 m8 hlt hkl cv8
            obtain ⟨i, hi, rfl, hw, hc, hm⟩ := hrel
            by_cases hlt : i < bs.length
            · obtain ⟨R', m, e, q1, q2⟩ := hw i hlt
              cases e
              obtain ⟨hR1, hR2, hR3⟩ := lb8.out R' rfl
              have HX : Hid (∀ x, Wb (wr.drew.setCell ⟨R', i, none⟩ (.int .u8 x)) (some ⟨R', 0, none⟩) bs.length ∧ (wr.drew.setCell ⟨R', i, none⟩ (.int .u8 x)).cell? ⟨X, 2, none⟩ = some (.slice (some ⟨R', 0, none⟩) bs.length ac) ∧ Own1 w (wr.drew.setCell ⟨R', i, none⟩ (.int .u8 x)) B F4 v8 [(⟨0, 0, bs⟩, u)] 1 1) := fun x => by
                have kd : Kept (· ≠ R') wr (wr.drew.setCell ⟨R', i, none⟩ (.int .u8 x)) := ((Kept.refl (· ≠ R') wr).drewN 1).setCell (by simp) _
                exact ⟨(hw.kept ((Kept.refl (fun _ => True) wr).drewN 1) (fun _ _ => trivial)).set i x, (kept_cell kd (World.block_lt_of_cell? wr _ hc) (by show X ≠ R'; omega)).trans hc, hm.beside kd (fun y hy e => hR3 (e ▸ hy)) (fun y hy => by show y ≠ R'; omega)⟩
              have hkl : (i : Int) < (bs.length : Int) := by omega
              have hk0 : (0 : Int) ≤ (i : Int) := by omega
              clear hw hm hR1 hR2 hR3
              go_wp2
              go_region
              all_goals
                go_wp2
                go_roundw
                case rel => exact ⟨i + 1, by omega, by go_num, (HX.out _).1, (HX.out _).2.1, (HX.out _).2.2⟩
                case measure => simp [intOf]; omega
            · have hkl : ¬ ((i : Int) < (bs.length : Int)) := by omega
              have m9 : Hid (Own1 w wr B F4 v8 [(⟨0, 0, bs⟩, u)] 1 1) := hm
              have HC : Hid (wr.cell? ⟨X, 2, none⟩ = some (.slice ao bs.length ac)) := hc
              clear hw hm
              have c := take_any (p := (⟨0, 0, bs⟩, u)) m9.out.net 0 (by unfold I64; decide) rfl
              go_wp2_with fail
              refine Calls.mono c ?_
              rintro e w10 ⟨yo, yc, v10, rfl, o10, s10⟩
              clear c hc
              have k11 : Kept (fun _ => True) w10 (w10.alloc (.cells #[.int .i64 0, .int .i64 0, .slice yo bs.length yc] 30)) := (Kept.refl _ _).alloc _
              have K11 : Hid (Kept (fun _ => True) w _) := (m9.out.step s10).kept.trans k11
              have x11 : (w10.alloc (.cells #[.int .i64 0, .int .i64 0, .slice yo bs.length yc] 30)).cell? ⟨X, 2, none⟩ = some (.slice ao bs.length ac) := (kept_cell k11 (Nat.lt_of_lt_of_le (World.block_lt_of_cell? wr _ HC.out) s10.kept.size) trivial).trans ((kept_cell s10.kept (World.block_lt_of_cell? wr _ HC.out) nF8.out).trans HC.out)
              have cv11 := conv_own (own_kept o10 k11 (fun _ _ => trivial))
              clear o10 s10 k11 m9 HC
              go_wp2_with fail
              refine Calls.mono (known_any _) ?_
              rintro e w12 ⟨rfl, k12⟩
              go_wp2
              go_ret
              exact ⟨rfl, K11.out.trans k12⟩

end Go.Proofs.Ytlgcecndfejngaa
