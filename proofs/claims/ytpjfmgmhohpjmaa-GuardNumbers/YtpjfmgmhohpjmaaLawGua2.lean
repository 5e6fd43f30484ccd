/-
  The law GuardTells.
-/
import Derived.Test.YtpjfmgmhohpjmaaQView
import Derived.Test.YtpjfmgmhohpjmaaWBook
import Derived.Test.YtpjfmgmhohpjmaaQR5
import Derived.Test.YtpjfmgmhohpjmaaQR6
namespace Go.Proofs.Ytpjfmgmhohpjmaa
open Go.RowKit

theorem uses_few {s : List UInt8} {us : List (List UInt8)} (h : Us s us) : us.length ≤ s.length := by
  have h1 := nodup_len (l := us) (m := tx s) h.1.nodup (fun x hx => ((h.2 x).1 hx).1)
  have h2 := words_few s
  have h3 : (tx s).length = (Wo s 0).length := by rw [← Wo_tx, List.length_map]
  omega

set_option maxRecDepth 100000 in
set_option maxHeartbeats 8000000 in
theorem guardTells_any {w : World} {a : Option Addr} {cap : Nat} {os : List (List UInt8)} {u : Value} {vs : List Int} (s : List UInt8) (_ : s.length ≤ 9223372036854775807) (ho : Nv w a cap os) (hv : Vi w u vs) :
    Calls Try.prog 4 #[.string ⟨s.toArray⟩, .slice a os.length cap, u] w fun e w' => e = .returned (.bool true) ∧ Kept (fun _ => True) w w' := by
  have HO : Hid (Nv w a cap os) := ho
  have HV : Hid (Vi w u vs) := hv
  have ck := fun W => known_any (w := W)
  clear ho hv
  go_enter Try.func4, Try.ntmps4
  go_upto_if 17 with fail
  go_cut [0] from 15 to 19 (fun t0 wx => (∃ s1 : List UInt8, t0 = .string ⟨s1.toArray⟩ ∧ s1.length ≤ 300) ∧ w = wx)
  case first =>
    by_cases h3 : 300 < s.length
    · have h3' : (300 : Int) < (s.length : Int) := by omega
      have n3 : ∀ w0, (Instr.slice 9 (.string ⟨s.toArray⟩) none (some (.int .i64 300)) none).run Try.prog w0 = .ok (.string ⟨(s.take 300).toArray⟩) w0 := tcut s 300 (by omega)
      have HL : Hid ((s.take 300).length ≤ 300) := by show _ ≤ _; rw [List.length_take]; omega
      generalize s.take 300 = s1 at *
      go_wp2_with fail
      go_meet
      exact ⟨⟨s1, rfl, HL.out⟩, rfl⟩
    · have h3' : ¬ (300 : Int) < (s.length : Int) := by omega
      go_wp2_with fail
      go_meet
      exact ⟨⟨s, rfl, by omega⟩, rfl⟩
  case rest =>
  obtain ⟨⟨s1, rfl, hs1⟩, rfl⟩ := hcut
  go_upto_if 22 with fail
  go_cut [1] from 20 to 24 (fun t1 wx => (∃ o5 : List (List UInt8), t1 = .slice a o5.length cap ∧ Nv w a cap o5 ∧ o5.length ≤ 12) ∧ w = wx)
  case first =>
    by_cases h5 : 12 < os.length
    · have h5' : (12 : Int) < (os.length : Int) := by omega
      obtain ⟨n1, n2, n3⟩ := HO.out.take 12 h5
      have n4 : ∀ w0, (Instr.slice 22 (.slice a os.length cap) none (some (.int .i64 12)) none).run Try.prog w0 = .ok (.slice a 12 cap) w0 := n3
      have HN1 : Hid _ := n1
      have HN2 : Hid _ := n2
      clear n1 n2 n3
      go_wp2_with fail
      go_meet
      exact ⟨⟨_, by rw [HN2.out], HN1.out, by rw [HN2.out]; exact Nat.le_refl _⟩, rfl⟩
    · have h5' : ¬ (12 : Int) < (os.length : Int) := by omega
      go_wp2_with fail
      go_meet
      exact ⟨⟨os, rfl, HO.out, by omega⟩, rfl⟩
  case rest =>
  obtain ⟨⟨o5, rfl, hv5, hl5⟩, rfl⟩ := hcut
  have hNs := hv5.ns (by omega)
  have HNS : Hid _ := hNs
  have c1 := check_any hNs (s := s1) (by omega)
  have c2 := fun W (k : Kept (fun _ => True) w W) => rcheck_any (hNs.all k) s1 (by omega)
  have c3 := fun W (k : Kept (fun _ => True) w W) => eval_any (hNs.all k) (HV.out.all k) (s := s1) (by omega)
  have c4 := fun W (k : Kept (fun _ => True) w W) => reval_any (hNs.all k) (HV.out.all k) s1 (by omega)
  have c5 := fun W => name_any (w := W) (s := s1) (by omega)
  have c6 := fun W => rname_any (w := W) s1 (by omega)
  have c7 := fun W => uses_any (w := W) (s := s1) (by omega)
  have c8 := fun W => ruses_any (w := W) s1 (by omega)
  have C1 : Hid _ := c1
  have C2 : Hid _ := c2
  have C3 : Hid _ := c3
  have C4 : Hid _ := c4
  have C5 : Hid _ := c5
  have C6 : Hid _ := c6
  have C7 : Hid _ := c7
  have C8 : Hid _ := c8
  have CK : Hid _ := ck
  clear c1 c2 c3 c4 c5 c6 c7 c8 ck hv5 hNs
  generalize (chk o5 s1).1 = x1 at *
  generalize (chk o5 s1).2 = x2 at *
  generalize (evl o5 vs s1).1 = x3 at *
  generalize (evl o5 vs s1).2 = x4 at *
  generalize isName s1 = nm at *
  go_wp2_with fail
  refine Calls.mono C1.out ?_
  rintro e W1 ⟨rfl, k1⟩
  have K1 : Hid (Kept (fun _ => True) w W1) := k1
  clear k1 C1
  go_wp2_with fail
  refine Calls.mono (C2.out _ K1.out) ?_
  rintro e W2 ⟨rfl, k2⟩
  have K2 : Hid (Kept (fun _ => True) w W2) := K1.out.trans k2
  clear k2 C2
  go_wp2_with fail
  refine Calls.mono (C3.out _ K2.out) ?_
  rintro e W3 ⟨rfl, k3⟩
  have K3 : Hid (Kept (fun _ => True) w W3) := K2.out.trans k3
  clear k3 C3
  go_wp2_with fail
  refine Calls.mono (C4.out _ K3.out) ?_
  rintro e W4 ⟨rfl, k4⟩
  have K4 : Hid (Kept (fun _ => True) w W4) := K3.out.trans k4
  clear k4 C4
  go_wp2_with fail
  refine Calls.mono (C5.out _) ?_
  rintro e W5 ⟨rfl, k5⟩
  have K5 : Hid (Kept (fun _ => True) w W5) := K4.out.trans k5
  clear k5 C5
  go_wp2_with fail
  refine Calls.mono (C6.out _) ?_
  rintro e W5 ⟨rfl, rfl⟩
  clear C6
  go_wp2_with fail
  refine Calls.mono (C7.out _) ?_
  rintro e W7 ⟨⟨v7, us, rfl, hu7, hT7⟩, k7⟩
  have HU : Hid (Us s1 us) := hu7
  have K7 : Hid (Kept (fun _ => True) w W7) := K5.out.trans k7
  obtain ⟨ua, uc, rfl, -, -⟩ := hT7.shape
  have T7 : Hid (Txs W7 W5.heap.size (.slice ua us.length uc) us) := hT7
  clear k7 hu7 hT7 C7
  go_wp2_with fail
  refine Calls.mono (C8.out _) ?_
  rintro e W8 ⟨⟨v8, us8, rfl, hu8, hT8⟩, k8⟩
  have e8 := hu8.unique HU.out rfl
  subst e8
  have K8 : Hid (Kept (fun _ => True) w W8) := K7.out.trans k8
  obtain ⟨ua8, uc8, rfl, -, -⟩ := hT8.shape
  have ct := texts_any (T7.out.kept (p := fun _ => True) k8 (fun _ _ => trivial)) hT8 (by have := uses_few hu8; omega)
  rw [decide_eq_true rfl] at ct
  have CT : Hid _ := ct
  clear k8 hu8 hT8 C8 ct
  go_wp2_with fail
  refine Calls.mono CT.out ?_
  rintro e w8 ⟨rfl, m8, rfl⟩
  clear CT
  go_wp2_with fail
  refine Calls.mono (CK.out _) ?_
  rintro e w9 ⟨rfl, k9⟩
  go_wp2_with fail
  go_ret
  exact ⟨rfl, (K8.out.drewN _).trans k9⟩

end Go.Proofs.Ytpjfmgmhohpjmaa
