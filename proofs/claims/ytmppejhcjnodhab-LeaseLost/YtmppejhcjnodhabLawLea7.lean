/-
  LeaseLost: who has forgotten bars everybody as long as it may have granted; then it grants again.
-/
import Derived.Test.YtmppejhcjnodhabG2
namespace Go.Proofs.Ytmppejhcjnodhab
open Go.RowKit

set_option maxRecDepth 100000 in
set_option maxHeartbeats 4000000 in
theorem leaseLost_any (a b c d : Int) {w : World} : Calls Try.prog 3 #[.int .i64 a, .int .i64 b, .int .i64 c, .int .i64 d] w fun e w' => e = .returned (.bool true) ∧ Kept (fun _ => True) w w' := by
  go_enter Try.func3, Try.ntmps3
  go_wp2_with fail
  refine (new_ok 50 (by decide)).mono ?_
  rintro e w1 ⟨rfl, h1, k1⟩
  have g1 : Hid (GM w w1 w.heap.size Ga.none) := ⟨h1, k1, Nat.le_refl _⟩
  clear h1 k1
  generalize w.heap.size = B at *
  go_wp2_with fail
  refine (within_any a 1000 (by omega) (by omega) _).mono ?_
  rintro e w1 ⟨⟨now, n0, n1, rfl⟩, rfl⟩
  go_wp2_with fail
  refine (within_any b 1000 (by omega) (by omega) _).mono ?_
  rintro e w1 ⟨⟨len, l0, l1, rfl⟩, rfl⟩
  go_wp2_with fail
  refine (within_any c 4 (by omega) (by omega) _).mono ?_
  rintro e w1 ⟨⟨node, d0, d1, rfl⟩, rfl⟩
  go_wp2_with fail
  refine (within_any d 2500 (by omega) (by omega) _).mono ?_
  rintro e w1 ⟨⟨at_, t0, t1, rfl⟩, rfl⟩
  have c1 := lost_yes g1.out.now now (1 + len) ⟨⟨n0, by omega⟩, ⟨by omega, by omega⟩⟩
  have e1 : Ga.none.on 2 0 (now + (1 + len)) = ⟨2, 0, now + (1 + len)⟩ := by
    unfold Ga.on Ga.none
    simp only
    rw [if_pos (by omega)]
  rw [e1] at c1
  clear e1
  go_wp2_with fail
  refine c1.mono ?_
  rintro e w2 ⟨rfl, s2⟩
  have g2 : Hid (GM w w2 B ⟨2, 0, now + (1 + len)⟩) := g1.out.step s2
  clear c1 s2 g1
  have c2 := barred_any g2.out.now node at_
  by_cases hb : at_ < now + (1 + len)
  · rw [decide_eq_true (show Ga.bars ⟨2, 0, now + (1 + len)⟩ node at_ from ⟨.inr rfl, hb⟩)] at c2
    have c3 := ask_no g2.out.now node at_ 10 (fun h => h.2.2 ⟨.inr rfl, hb⟩)
    have c4 := until_any g2.out.now
    have hd : decide (at_ < now + (1 + len)) = true := decide_eq_true hb
    go_wp2_with fail
    refine c2.mono ?_
    rintro e w2 ⟨rfl, rfl⟩
    go_wp2_with fail
    refine c3.mono ?_
    rintro e w2 ⟨rfl, rfl⟩
    go_wp2_with fail
    refine c4.mono ?_
    rintro e w2 ⟨rfl, rfl⟩
    go_wp2_with fail
    refine (runs_any _).mono ?_
    rintro e w3 ⟨rfl, k3⟩
    go_wp2
    go_ret
    exact ⟨rfl, g2.out.kept.trans k3⟩
  · rw [decide_eq_false (show ¬ Ga.bars ⟨2, 0, now + (1 + len)⟩ node at_ from fun h => hb h.2)] at c2
    have c3 := ask_yes g2.out.now node at_ 10 ⟨⟨⟨t0, by omega⟩, by decide⟩, d0, fun h => hb h.2⟩
    have hd : decide (at_ < now + (1 + len)) = false := decide_eq_false hb
    go_wp2_with fail
    refine c2.mono ?_
    rintro e w2 ⟨rfl, rfl⟩
    go_wp2_with fail
    refine c3.mono ?_
    rintro e w3 ⟨rfl, s3⟩
    have e1 : Ga.on ⟨2, 0, now + (1 + len)⟩ 1 node (at_ + 10) = ⟨1, node, at_ + 10⟩ := by
      unfold Ga.on
      simp only
      rw [if_pos (by omega)]
    rw [e1] at s3
    have g3 : Hid (GM w w3 B ⟨1, node, at_ + 10⟩) := g2.out.step s3
    clear c3 s3 g2 c2
    have c4 := until_any g3.out.now
    have hd2 : decide (now + (1 + len) ≤ at_ + 10) = true := decide_eq_true (by omega)
    go_wp2_with fail
    refine c4.mono ?_
    rintro e w3 ⟨rfl, rfl⟩
    go_wp2_with fail
    refine (runs_any _).mono ?_
    rintro e w4 ⟨rfl, k4⟩
    go_wp2
    go_ret
    exact ⟨rfl, g3.out.kept.trans k4⟩

end Go.Proofs.Ytmppejhcjnodhab
