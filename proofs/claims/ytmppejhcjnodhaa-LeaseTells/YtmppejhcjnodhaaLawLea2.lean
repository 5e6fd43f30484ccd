/-
  LeaseTells: clocks are judged, and leases reckoned, as the document says.
-/
import Derived.Test.YtmppejhcjnodhaaG6
import Derived.Test.YtmppejhcjnodhaaGR2
import Derived.Deep.CutRange
namespace Go.Proofs.Ytmppejhcjnodhaa
open Go.RowKit

set_option maxRecDepth 100000 in
theorem rsize_rd (w0 : World) : (sizeOf (Try.prog.elem 36)).run Try.prog w0 = .ok 2 w0 := by
  obtain ⟨i, hi, hz0, hz1, hz2⟩ := info_parts Try.infoRd
  rw [show Try.prog.elem 36 = 35 by kernel_rfl]
  simp [sizeOf, typeInfo, hi, hz1]
set_option maxRecDepth 100000 in
theorem cut_front {ad : Addr} {n cap k : Nat} (hc : k ≤ cap) (w0 : World) : (Instr.slice 36 (.slice (some ad) n cap) none (some (.int .i64 (k : Int))) none).run Try.prog w0 = .ok (.slice (some ad) k cap) w0 := by
  rw [run_slice_h (P := Try.prog) w0 36 _ n cap Try.underlying36 .i64 k (by omega) (by omega), rsize_rd]
  simp [Result.andThen, sliced, Addr.add]
theorem rd_take {w : World} {ao : Option Addr} {xs : List (Int × Int)} (h : Rd w ao xs) (k : Nat) : Rd w ao (xs.take k) := ⟨fun h0 => by
  rw [List.length_take] at h0
  obtain ⟨b, off, e, hb, hc⟩ := h.row (by omega)
  refine ⟨b, off, e, hb, fun i hi => ?_⟩
  rw [List.length_take] at hi
  have := hc i (by omega)
  rw [List.getElem_take]
  exact this⟩

set_option maxRecDepth 100000 in
set_option maxHeartbeats 4000000 in
theorem leaseTells_any {w : World} {ao : Option Addr} {n cap : Nat} {xs : List (Int × Int)} (hl : xs.length = n) (h : Rd w ao xs) (hn : ao = none → cap = 0 ∧ xs = []) (hc : n ≤ cap) (r asked length : Int) :
    Calls Try.prog 4 #[.slice ao n cap, .int .i64 r, .int .i64 asked, .int .i64 length] w fun e w' => e = .returned (.bool true) ∧ Kept (fun _ => True) w w' := by
  obtain ⟨m, ys, hm, hm20, hly, hrd, hny⟩ : ∃ (m : Nat) (ys : List (Int × Int)), Hid (m = if 20 < n then 20 else n) ∧ m ≤ 20 ∧ Hid (ys.length = m) ∧ Hid (Rd w ao ys) ∧ Hid (ao = none → cap = 0 ∧ ys = []) := by
    refine ⟨_, xs.take 20, rfl, by split <;> omega, ?_, rd_take h 20, fun e => ?_⟩
    · show (xs.take 20).length = _
      rw [List.length_take, hl]
      split <;> omega
    · obtain ⟨e1, e2⟩ := hn e
      exact ⟨e1, by rw [e2]; rfl⟩
  have hsl : Hid (20 < n → ∃ ad, ao = some ad) := fun h20 => by
    cases ao with
    | none => have := (hn rfl).2; rw [this] at hl; simp at hl; omega
    | some ad => exact ⟨ad, rfl⟩
  have ch := hold_any asked length r w
  have cr := fun W => rhold_any asked length r W
  have cb := fun W => barr_any asked length W
  have cq := fun W => rbar_any asked length W
  obtain ⟨q, hq⟩ := told (Fr ys r)
  have cf := fun W (k : Kept (fun _ => True) w W) => fair_to (cap := cap) ys hly.out (hrd.out.kept k (fun _ _ => trivial)) hny.out (by omega) r q hq
  have ci := fun W (k : Kept (fun _ => True) w W) => in_any (cap := cap) hly.out (hrd.out.kept k (fun _ _ => trivial)) (by omega)
  have cg := fun W bo bcap (k : Rd W bo ys) => rfair_any (w := W) (ao := bo) (cap := bcap) hly.out k (by omega) r q hq
  generalize (holdV asked length r).1 = h1 at *
  generalize (holdV asked length r).2 = h2 at *
  generalize (barV asked length).1 = b1 at *
  generalize (barV asked length).2 = b2 at *
  clear hl h hn hrd hny hq
  go_enter Try.func4, Try.ntmps4
  go_upto_if 19 with fail
  go_cut [0] from 19 to 21 (fun s wx => s = .slice ao m cap ∧ w = wx)
  case first =>
    by_cases h20 : 20 < n
    · obtain ⟨ad, rfl⟩ := hsl.out h20
      have g : (20 : Int) < (n : Int) := by omega
      have hm' := hm.out
      rw [if_pos h20] at hm'
      have hcut : ∀ W, (Instr.slice 36 (.slice (some ad) n cap) none (some (.int .i64 20)) none).run Try.prog W = .ok (.slice (some ad) 20 cap) W := fun W => cut_front (k := 20) (by omega) W
      clear ch cr cb cq cf ci cg h20
      go_wp2_with fail
      go_meet
      exact ⟨by rw [hm'], rfl⟩
    · have g : ¬ (20 : Int) < (n : Int) := by omega
      have hm' := hm.out
      rw [if_neg h20] at hm'
      clear ch cr cb cq cf ci cg h20
      go_wp2_with fail
      go_meet
      exact ⟨by rw [hm'], rfl⟩
  case rest =>
  obtain ⟨rfl, rfl⟩ := hcut
  clear hm hsl
  go_wp2_with fail
  refine ch.mono ?_
  rintro e w1 ⟨rfl, k, rfl⟩
  have k1 : Kept (fun _ => True) w (w.drewN k) := (Kept.refl _ _).drewN k
  generalize w.drewN k = w1 at *
  clear ch
  go_wp2_with fail
  refine (cr _).mono ?_
  rintro e w1 ⟨rfl, rfl⟩
  go_wp2_with fail
  refine (cb _).mono ?_
  rintro e w1 ⟨rfl, rfl⟩
  go_wp2_with fail
  refine (cq _).mono ?_
  rintro e w1 ⟨rfl, rfl⟩
  go_wp2_with fail
  refine (cf _ k1).mono ?_
  rintro e w2 ⟨rfl, k2⟩
  have K2 : Hid (Kept (fun _ => True) w w2) := k1.trans k2
  clear k1 k2
  go_wp2_with fail
  refine (ci _ K2.out).mono ?_
  rintro e w3 ⟨v, rfl, o3, k3⟩
  have K3 : Hid (Kept (fun _ => True) w w3) := K2.out.trans k3
  rw [← hly.out] at o3
  obtain ⟨bo, bcap, hv, _, hrd, _, _⟩ := own_rd o3
  rw [hly.out] at hv
  subst hv
  have cg' := cg w3 bo bcap hrd
  clear o3 hrd k3 cr cb cq cf ci cg
  go_wp2_with fail
  refine cg'.mono ?_
  rintro e w4 ⟨rfl, k4⟩
  go_wp2_with fail
  refine (runs_any _).mono ?_
  rintro e w5 ⟨rfl, k5⟩
  go_wp2
  go_ret
  exact ⟨rfl, (K3.out.trans k4).trans k5⟩

end Go.Proofs.Ytmppejhcjnodhaa
