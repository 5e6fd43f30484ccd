/-
  NetNumbers: it answers true.
-/
import Derived.Test.YtlgcecndfejngaaN8
namespace Go.Proofs.Ytlgcecndfejngaa
open Go.RowKit

def msgAt (k : Nat) : Ms := ⟨1, 0, [UInt8.ofNat k]⟩

theorem two_first {ps : List (Ms × Value)} (h : ps.map Prod.fst = (List.range 512).map msgAt) : ∃ p0 u1 rest, ps = p0 :: ((⟨1, 0, [1]⟩ : Ms), u1) :: rest ∧ rest.length = 510 := by
  have hl : ps.length = 512 := by simpa using congrArg List.length h
  match ps, hl with
  | p0 :: p1 :: rest, hl =>
    have h1 : p1.1 = msgAt 1 := by
      have := congrArg (fun l => l[1]?) h
      simpa using this
    exact ⟨p0, p1.2, rest, by rw [show ((⟨1, 0, [1]⟩ : Ms), p1.2) = p1 from by rw [show (⟨1, 0, [1]⟩ : Ms) = p1.1 from h1.symm]], by simpa using hl⟩

set_option maxRecDepth 100000 in
set_option maxHeartbeats 1000000 in
theorem netNumbers_any (w : World) : Calls Try.prog 3 #[] w fun e w' => e = .returned (.bool true) ∧ Kept (fun _ => True) w w' := by
  go_enter Try.func3, Try.ntmps3
  go_wp2_with fail
  refine Calls.mono (new_bad 0 (by decide)) ?_
  rintro e w ⟨rfl, rfl⟩
  go_wp2_with fail
  refine Calls.mono (new_bad 6 (by decide)) ?_
  rintro e w ⟨rfl, rfl⟩
  go_wp2_with fail
  refine Calls.mono (new_ok 2 (by decide) (by decide)) ?_
  rintro e w1 ⟨rfl, d1, k1⟩
  have m1 : Hid (Own1 w w1 w.heap.size (fun x => x = w.heap.size) (.slice none 0 0) [] 2 0) := Own1.new d1 k1
  clear d1 k1
  generalize (fun x => x = w.heap.size) = F1 at *
  obtain ⟨B, hB⟩ : ∃ B, B = w.heap.size := ⟨_, rfl⟩
  rw [← hB] at m1 ⊢
  clear hB
  go_wp2_with fail
  refine Calls.mono (send_bad m1.out.net 2 0 (by decide) none 0 0) ?_
  rintro e w1 ⟨rfl, rfl⟩
  go_wp2_with fail
  refine Calls.mono (send_bad m1.out.net 0 (-1) (by decide) none 0 0) ?_
  rintro e w1 ⟨rfl, rfl⟩
  go_wp2
  go_loopw [9] (fun t wr => ∃ (k : Nat) (F : Nat → Prop) (v : Value) (ps : List (Ms × Value)), k ≤ 512 ∧ t = .int .i64 k ∧ Own1 w wr B F v ps 2 k ∧ ps.map Prod.fst = (List.range k).map msgAt) (fun t _ => 512 - (intOf t).toNat)
  case atStart => exact ⟨0, F1, _, [], Nat.zero_le _, rfl, m1.out, rfl⟩
  case round =>
    clear m1
    obtain ⟨k, F, v, ps, hk, rfl, hm, hps⟩ := hrel
    have m : Hid (Own1 w wr B F v ps 2 k) := hm
    have HP : Hid (ps.map Prod.fst = (List.range k).map msgAt) := hps
    have hlen : Hid (ps.length = k) := by show _ = _; simpa using congrArg List.length hps
    clear hm hps
    by_cases hlt : k < 512
    · have hw8 : IntKind.u8.wrap (k : Int) = ((UInt8.ofNat k).toNat : Int) := by simp [IntKind.wrap, IntKind.bits, IntKind.signed]
      have hl1 : (k : Int) < 512 := by omega
      have hh := has_row (bs := [UInt8.ofNat k]) (heap_alloc_new wr (.cells (cells [UInt8.ofNat k]).toArray 5))
      have hh' : Has (wr.alloc (.cells #[.int .u8 ((UInt8.ofNat k).toNat : Int)] 5)) (some ⟨wr.heap.size, 0, none⟩) [UInt8.ofNat k] := hh
      have m2 : Hid (Own1 w (wr.alloc (.cells #[.int .u8 ((UInt8.ofNat k).toNat : Int)] 5)) B F v ps 2 k) := m.out.ahead ((Kept.refl _ _).alloc _)
      have c := send_any (cap := 1) m2.out.net 1 0 (by decide) (by decide) (by have := hlen.out; omega) (by simp [IntKind.wrap, IntKind.bits, IntKind.signed]; omega) hh' (by simp) (by simp)
      obtain ⟨x, hx⟩ : ∃ x : Nat, (UInt8.ofNat k).toNat = x := ⟨_, rfl⟩
      rw [hx] at hw8 c
      clear hh hh'
      go_wp2_with fail
      refine Calls.mono c ?_
      rintro e w3 ⟨rfl, F', v', u, s3⟩
      clear c
      rw [hx] at m2
      have m3 : Hid (Own1 w w3 B F' v' (ps ++ [(⟨1, 0, [UInt8.ofNat k]⟩, u)]) 2 (k + 1)) := m2.out.step s3
      clear s3 m2 hw8
      go_wp2
      go_roundw
      case rel => exact ⟨k + 1, F', v', _, by omega, by go_num, by have := m3.out; exact_mod_cast this, by rw [List.map_append, HP.out, List.range_succ, List.map_append]; rfl⟩
      case measure => simp [intOf]; omega
    · have hl1 : ¬ ((k : Int) < 512) := by omega
      obtain rfl : k = 512 := by omega
      obtain ⟨p0, u1, rest, hps, hrest⟩ := two_first HP.out
      subst hps
      have hR : Hid (rest.length = 510) := hrest
      clear hrest HP
      go_wp2_with fail
      refine Calls.mono (send_full m.out.net 0 0 (by decide) (by decide) (by rw [hlen.out]; decide) none 0 0) ?_
      rintro e wr ⟨rfl, rfl⟩
      go_wp2_with fail
      refine Calls.mono (twice_full m.out.net (by rw [hlen.out]; decide) 0 (by unfold I64; decide)) ?_
      rintro e wr ⟨rfl, rfl⟩
      have c := drop_any m.out.net (by rw [hlen.out]; decide) (-1) (by unfold I64; decide)
      rw [show spot (-1) (p0 :: ((⟨1, 0, [1]⟩ : Ms), u1) :: rest).length = 0 by simp [spot]] at c
      go_wp2_with fail
      refine Calls.mono c ?_
      rintro e w4 ⟨rfl, v4, s4⟩
      clear c
      have m4 : Hid (Own1 w w4 B F v4 (((⟨1, 0, [1]⟩ : Ms), u1) :: rest) 2 512) := m.out.step s4
      clear s4 m
      have c := take_any (p := (⟨1, 0, [1]⟩, u1)) m4.out.net (-1) (by unfold I64; decide) (by simp [spot])
      rw [show spot (-1) (((⟨1, 0, [1]⟩ : Ms), u1) :: rest).length = 0 by simp [spot]] at c
      go_wp2_with fail
      refine Calls.mono c ?_
      rintro e w5 ⟨ao, ac, v5, rfl, o5, s5⟩
      clear c
      obtain ⟨g, cap, hv, -, -⟩ := o5.form (by decide)
      injection hv with e1 e2 e3
      subst e1 e3
      have m5 : Hid (Own1 w (w5.alloc (.cells #[.int .i64 1, .int .i64 0, .slice (some ⟨g, 0, none⟩) 1 ac] 30)) B F v5 rest 2 512) := (m4.out.step s5).ahead ((Kept.refl _ _).alloc _)
      have hA : Hid (Loc F (w5.alloc (.cells #[.int .i64 1, .int .i64 0, .slice (some ⟨g, 0, none⟩) 1 ac] 30)) w5.heap.size 1 0 (.slice (some ⟨g, 0, none⟩) 1 ac) [1]) := Loc.new s5.now o5 (fun x hx => m4.out.net.lt x hx)
      clear o5 s5 m4
      obtain ⟨a0, a1, a2, -, -, -⟩ := three_cell hA.out.self
      have a3 : (w5.alloc (.cells #[.int .i64 1, .int .i64 0, .slice (some ⟨g, 0, none⟩) 1 ac] 30)).cell? ⟨g, 0, none⟩ = some (.int .u8 1) := hA.out.own.cellAt 0 (by decide)
      have c1 := sent_any m5.out.net.nt
      have c2 := pending_any m5.out.net
      rw [hR.out] at c2
      go_wp2_with fail
      refine Calls.mono c1 ?_
      rintro e _ ⟨rfl, rfl⟩
      clear c1
      go_wp2_with fail
      refine Calls.mono c2 ?_
      rintro e w6 ⟨rfl, L, qs, hL⟩
      clear c2
      have k6 := m5.out.kept.trans hL.kept
      clear hL m5 hA a0 a1 a2 a3
      go_wp2_with fail
      refine Calls.mono (known_any _) ?_
      rintro e w7 ⟨rfl, k7⟩
      go_wp2
      go_ret
      exact ⟨rfl, k6.trans k7⟩

end Go.Proofs.Ytlgcecndfejngaa
