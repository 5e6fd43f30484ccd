/-
  Texts of the proofs, 26 of 52.
-/
import Derived.Test.YtmcaoimgmgjjiaaWY
import Derived.Test.YtmcaoimgmgjjiaaWC
import Derived.Test.YtmcaoimgmgjjiaaWM
import Derived.Test.YtmcaoimgmgjjiaaWD
import Derived.Deep.CutRange
namespace Go.Proofs.Ytmcaoimgmgjjiaa
open Go.RowKit Go.Maps Go.Sort

def RuleIs (pq : List (Up × Ua)) (j i : Nat) (z : Int) : Prop := ∃ h : i < pq.length, (j = 0 ∧ z = ru1 pq[i].1) ∨ (j = 1 ∧ z = ru2 pq[i].1) ∨ (j = 2 ∧ IsU pq pq[i].1 z) ∨ (j = 3 ∧ IdxIs f4 pq[i].1.es z) ∨ (j = 4 ∧ IdxIs (f5 (allR (pq.map (·.1)))) pq[i].1.es z) ∨ (j = 5 ∧ IdxIs f6 pq[i].1.es z) ∨ (j = 6 ∧ IdxIs (f7 (allR (pq.map (·.1))) pq[i].1.g) pq[i].1.es z)
def EVer (pq : List (Up × Ua)) (e : Ending) : Prop := ((∀ j i, j < 7 → i < pq.length → RuleIs pq j i (-1)) ∧ e = .returned (.tuple #[.agg #[.int .i64 0, .int .i64 0, .int .i64 0], .bool true])) ∨ ∃ (j i : Nat) (z : Int), j < 7 ∧ i < pq.length ∧ z ≠ -1 ∧ RuleIs pq j i z ∧ (∀ j' i', j' < j → i' < pq.length → RuleIs pq j' i' (-1)) ∧ (∀ i', i' < i → RuleIs pq j i' (-1)) ∧ e = .returned (.tuple #[.agg #[.int .i64 ((j : Int) + 1), .int .i64 (i : Nat), .int .i64 z], .bool false])
def fnv (E : Nat) (j : Nat) : Value :=
  if j = 0 then .func (.func 28) #[.pointer (some ⟨E, 0, none⟩)] #[]
  else if j = 1 then .func (.func 29) #[.pointer (some ⟨E, 0, none⟩)] #[]
  else if j = 2 then .func (.func 30) #[.pointer (some ⟨E, 0, none⟩)] #[]
  else if j = 3 then .func (.func 31) #[.pointer (some ⟨E, 0, none⟩)] #[]
  else if j = 4 then .func (.func 32) #[.pointer (some ⟨E, 0, none⟩)] #[]
  else if j = 5 then .func (.func 33) #[.pointer (some ⟨E, 0, none⟩)] #[]
  else .func (.func 34) #[.pointer (some ⟨E, 0, none⟩)] #[]
theorem Try.sizeFault : (Try.prog.info? 33).map (·.size) = some 3 := by kernel_rfl
theorem load_fault {w : World} {g : Nat} {t : TypeId} {a b c : Value} (hg : Bk w g t [a, b, c]) : (loadVar 33 ⟨g, 0, none⟩).run Try.prog w = .ok (.agg #[a, b, c]) w :=
  run_loadVar_row w g t 33 #[a, b, c] _ _ hg Try.underlying33 rfl Try.sizeFault
theorem pgs_lo {cs : List Uc} {ps : List Up} (h : Pgs cs ps) (i : Nat) (hi : i < ps.length) : ps[i].lo = -1 ∨ ∃ o : Nat, o < ps.length ∧ ps[i].lo = (o : Int) := by
  rw [h.lo i hi, lgI_eq]
  cases hl : lg (ps.take i) ps[i].g with
  | none => exact .inl rfl
  | some om =>
    obtain ⟨o, m⟩ := om
    obtain ⟨h1, _⟩ := lg_ok _ _ o m hl
    rw [List.length_take] at h1
    exact .inr ⟨o, by omega, rfl⟩
theorem pgs_few {cs : List Uc} {ps : List Up} (h : Pgs cs ps) : ∀ p ∈ ps, p.ls.length ≤ 4096 := fun p hp => by
  obtain ⟨i, hi, rfl⟩ := List.getElem_of_mem hp
  exact (h.dec i hi (by rw [← h.len]; exact hi)).few.1
theorem pgs_ok {cs : List Uc} {ps : List Up} (h : Pgs cs ps) (i : Nat) (hi : i < ps.length) : ∀ x ∈ ps[i].es, Okr x.1.r := fun x hx => by
  have h1 : x.1 ∈ ps[i].es.map (·.1) := List.mem_map.2 ⟨x, hx, rfl⟩
  rw [h.ent i hi] at h1
  exact entG_okr _ _ h1

set_option maxRecDepth 100000 in
set_option maxHeartbeats 4000000 in
theorem verify_any {w : World} {al : Option Addr} {cap : Nat} {cs : List Uc} (h : Cv w al cs) (hn : cs.length ≤ 200) :
    Calls Try.prog 10 #[.slice al cs.length cap] w fun e w' => ∃ pq, Pgs cs (pq.map (·.1)) ∧ EVer pq e ∧ Kept (fun _ => True) w w' := by
  have kZ : Kept (fun _ => True) w (w.alloc (.cells #[.int .i64 0, .int .i64 0, .int .i64 0] 33)) := (Kept.refl _ _).alloc _
  have cg := gather_any (cap := cap) (h.all kZ) hn
  have FZ : Hid (Bk (w.alloc (.cells #[.int .i64 0, .int .i64 0, .int .i64 0] 33)) w.heap.size 33 [.int .i64 0, .int .i64 0, .int .i64 0]) := heap_alloc_new w _
  have KZ : Hid (Kept (fun _ => True) w (w.alloc (.cells #[.int .i64 0, .int .i64 0, .int .i64 0] 33))) := kZ
  clear h kZ
  go_enter Try.func10, Try.ntmps10
  go_upto_region 2 with (go_at_call 27; (with_reducible refine Calls.mono cg ?_); rintro e w2 ⟨E, M, n, pq, ap, cp, rfl, hge, hpg, k2⟩; have HG2 : Hid (GE w2 E M n (w.alloc (.cells #[.int .i64 0, .int .i64 0, .int .i64 0] 33)).heap.size pq ap cp) := hge; have HPG : Hid (Pgs cs (pq.map (·.1))) := hpg; have FZ2 : Hid (Bk w2 w.heap.size 33 [.int .i64 0, .int .i64 0, .int .i64 0]) := FZ.out.kept k2 trivial; have KZ2 : Hid (Kept (fun _ => True) w w2) := KZ.out.trans k2; clear hge hpg k2)
  clear cg FZ KZ
  obtain ⟨Z, hZ⟩ : ∃ Z, Z = w.heap.size := ⟨_, rfl⟩
  rw [← hZ] at FZ2 ⊢
  have HZ : Hid (Z = w.heap.size) := hZ
  clear hZ
  have hlen : cs.length = pq.length := by have := HPG.out.len; rw [List.length_map] at this; omega
  go_wp2_with fail
  obtain ⟨w3, hw3⟩ : ∃ x, x = w2.alloc (.cells #[.func (.func 28) #[.pointer (some ⟨E, 0, none⟩)] #[], .func (.func 29) #[.pointer (some ⟨E, 0, none⟩)] #[], .func (.func 30) #[.pointer (some ⟨E, 0, none⟩)] #[], .func (.func 31) #[.pointer (some ⟨E, 0, none⟩)] #[], .func (.func 32) #[.pointer (some ⟨E, 0, none⟩)] #[], .func (.func 33) #[.pointer (some ⟨E, 0, none⟩)] #[], .func (.func 34) #[.pointer (some ⟨E, 0, none⟩)] #[]] 69) := ⟨_, rfl⟩
  rw [← hw3]
  have k3 : Kept (fun _ => True) w2 w3 := by rw [hw3]; exact (Kept.refl _ _).alloc _
  have hF : w3.heap[w2.heap.size]? = some (.cells #[.func (.func 28) #[.pointer (some ⟨E, 0, none⟩)] #[], .func (.func 29) #[.pointer (some ⟨E, 0, none⟩)] #[], .func (.func 30) #[.pointer (some ⟨E, 0, none⟩)] #[], .func (.func 31) #[.pointer (some ⟨E, 0, none⟩)] #[], .func (.func 32) #[.pointer (some ⟨E, 0, none⟩)] #[], .func (.func 33) #[.pointer (some ⟨E, 0, none⟩)] #[], .func (.func 34) #[.pointer (some ⟨E, 0, none⟩)] #[]] 69 (0, 0)) := by rw [hw3]; exact heap_alloc_new w2 _
  have hFl := lt_of_block hF
  have hcell : ∀ j, j < 7 → w3.cell? ⟨w2.heap.size, j, none⟩ = some (fnv E j) := fun j hj => by
    have h7 : j = 0 ∨ j = 1 ∨ j = 2 ∨ j = 3 ∨ j = 4 ∨ j = 5 ∨ j = 6 := by omega
    rcases h7 with rfl | rfl | rfl | rfl | rfl | rfl | rfl
    all_goals exact cell_of_row _ _ _ _ _ _ hF
  have HCell : Hid (∀ j, j < 7 → w3.cell? ⟨w2.heap.size, j, none⟩ = some (fnv E j)) := hcell
  have HFl : Hid (w2.heap.size < w3.heap.size) := hFl
  have HG3 : Hid (GE w3 E M n (w.alloc (.cells #[.int .i64 0, .int .i64 0, .int .i64 0] 33)).heap.size pq ap cp) := HG2.out.all k3
  have FZ3 : Hid (Bk w3 Z 33 [.int .i64 0, .int .i64 0, .int .i64 0]) := FZ2.out.kept k3 trivial
  have KZ3 : Hid (Kept (fun _ => True) w w3) := KZ2.out.trans k3
  have HLen : Hid (cs.length = pq.length) := hlen
  clear hw3 k3 hF hFl hcell HG2 FZ2 KZ2 hlen
  generalize w2.heap.size = F at *
  go_loopw [29] (fun t wr => ∃ j : Nat, j ≤ 7 ∧ t = .int .i64 j ∧ (∀ j' i', j' < j → i' < pq.length → RuleIs pq j' i' (-1)) ∧ Kept (fun _ => True) w3 wr) (fun t _ => 7 - (intOf t).toNat)
  case atStart => exact ⟨0, by omega, rfl, fun _ _ h => by omega, Kept.refl _ _⟩
  case round =>
    obtain ⟨j, hj, rfl, hall, hkr⟩ := hrel
    have HAll : Hid (∀ j' i', j' < j → i' < pq.length → RuleIs pq j' i' (-1)) := hall
    have HKr : Hid (Kept (fun _ => True) w3 wr) := hkr
    clear hall
    obtain ⟨wo, hwo⟩ : ∃ x, x = wr := ⟨_, rfl⟩
    rw [← hwo] at HKr hkr ⊢
    clear hwo
    by_cases hlt : j < 7
    · have hc := (kept_cell hkr HFl.out trivial).trans (HCell.out j hlt)
      obtain ⟨fv, hfv0⟩ : ∃ fv, fv = fnv E j := ⟨_, rfl⟩
      rw [← hfv0] at hc
      have HFV : Hid (fv = fnv E j) := hfv0
      have j0 : (0 : Int) ≤ (j : Int) := by omega
      have j1 : (j : Int) < 7 := by omega
      have HJ : Hid (j < 7) := hlt
      clear hfv0 hkr hj hlt
      go_wp2_with fail
      go_loopw [36] (fun t wr => ∃ i : Nat, i ≤ cs.length ∧ t = .int .i64 i ∧ (∀ i', i' < i → RuleIs pq j i' (-1)) ∧ Kept (fun _ => True) wo wr) (fun t _ => cs.length - (intOf t).toNat)
      case atStart => exact ⟨0, Nat.zero_le _, rfl, fun _ h => by omega, Kept.refl _ _⟩
      case round =>
        obtain ⟨i, hi, rfl, hin, hkq⟩ := hrel
        obtain ⟨wq, hwq⟩ : ∃ x, x = wr := ⟨_, rfl⟩
        rw [← hwq] at hkq ⊢
        clear hwq
        have HIn : Hid (∀ i', i' < i → RuleIs pq j i' (-1)) := hin
        have hKK : Kept (fun _ => True) w3 wq := HKr.out.trans hkq
        have HKK : Hid (Kept (fun _ => True) w3 wq) := hKK
        have HKq : Hid (Kept (fun _ => True) wo wq) := hkq
        clear hin
        by_cases hlt : i < cs.length
        · have hp : i < pq.length := by have := HLen.out; omega
          have hpm : i < (pq.map (·.1)).length := by rw [List.length_map]; exact hp
          have hlo : pq[i].1.lo = -1 ∨ ∃ o : Nat, o < pq.length ∧ pq[i].1.lo = (o : Int) := by
            rcases pgs_lo HPG.out i hpm with h1 | ⟨o, h1, h2⟩
            · rw [List.getElem_map] at h1; exact .inl h1
            · rw [List.getElem_map] at h2; exact .inr ⟨o, by rw [List.length_map] at h1; exact h1, h2⟩
          have hfew : ∀ x ∈ pq, x.1.ls.length ≤ 4096 := fun x hx => pgs_few HPG.out x.1 (List.mem_map.2 ⟨x, hx, rfl⟩)
          have hok : ∀ x ∈ pq[i].1.es, Okr x.1.r := by
            have := pgs_ok HPG.out i hpm
            rw [List.getElem_map] at this
            exact this
          have cr0 : Calls Try.prog 28 #[.pointer (some ⟨E, 0, none⟩), .int .i64 (i : Nat)] wq fun e w' => (∃ z, e = .returned (.int .i64 z) ∧ RuleIs pq 0 i z) ∧ Kept (fun _ => True) wq w' := (rule1_any (HG3.out.all hKK) i hp).mono (fun e w' ⟨he, hk⟩ => ⟨⟨_, he, ⟨hp, .inl ⟨rfl, rfl⟩⟩⟩, hk⟩)
          have cr1 : Calls Try.prog 29 #[.pointer (some ⟨E, 0, none⟩), .int .i64 (i : Nat)] wq fun e w' => (∃ z, e = .returned (.int .i64 z) ∧ RuleIs pq 1 i z) ∧ Kept (fun _ => True) wq w' := (rule2_any (HG3.out.all hKK) i hp).mono (fun e w' ⟨he, hk⟩ => ⟨⟨_, he, ⟨hp, .inr (.inl ⟨rfl, rfl⟩)⟩⟩, hk⟩)
          have cr2 : Calls Try.prog 30 #[.pointer (some ⟨E, 0, none⟩), .int .i64 (i : Nat)] wq fun e w' => (∃ z, e = .returned (.int .i64 z) ∧ RuleIs pq 2 i z) ∧ Kept (fun _ => True) wq w' := (rule3_any (HG3.out.all hKK) i hp hlo hfew).mono (fun e w' ⟨⟨z, he, hz⟩, hk⟩ => ⟨⟨z, he, ⟨hp, .inr (.inr (.inl ⟨rfl, hz⟩))⟩⟩, hk⟩)
          have cr3 : Calls Try.prog 31 #[.pointer (some ⟨E, 0, none⟩), .int .i64 (i : Nat)] wq fun e w' => (∃ z, e = .returned (.int .i64 z) ∧ RuleIs pq 3 i z) ∧ Kept (fun _ => True) wq w' := (rule4_any (HG3.out.all hKK) i hp ).mono (fun e w' ⟨⟨z, he, hz⟩, hk⟩ => ⟨⟨z, he, ⟨hp, .inr (.inr (.inr (.inl ⟨rfl, hz⟩)))⟩⟩, hk⟩)
          have cr4 : Calls Try.prog 32 #[.pointer (some ⟨E, 0, none⟩), .int .i64 (i : Nat)] wq fun e w' => (∃ z, e = .returned (.int .i64 z) ∧ RuleIs pq 4 i z) ∧ Kept (fun _ => True) wq w' := (rule5_any (HG3.out.all hKK) i hp hok).mono (fun e w' ⟨⟨z, he, hz⟩, hk⟩ => ⟨⟨z, he, ⟨hp, .inr (.inr (.inr (.inr (.inl ⟨rfl, hz⟩))))⟩⟩, hk⟩)
          have cr5 : Calls Try.prog 33 #[.pointer (some ⟨E, 0, none⟩), .int .i64 (i : Nat)] wq fun e w' => (∃ z, e = .returned (.int .i64 z) ∧ RuleIs pq 5 i z) ∧ Kept (fun _ => True) wq w' := (rule6_any (HG3.out.all hKK) i hp ).mono (fun e w' ⟨⟨z, he, hz⟩, hk⟩ => ⟨⟨z, he, ⟨hp, .inr (.inr (.inr (.inr (.inr (.inl ⟨rfl, hz⟩)))))⟩⟩, hk⟩)
          have cr6 : Calls Try.prog 34 #[.pointer (some ⟨E, 0, none⟩), .int .i64 (i : Nat)] wq fun e w' => (∃ z, e = .returned (.int .i64 z) ∧ RuleIs pq 6 i z) ∧ Kept (fun _ => True) wq w' := (rule7_any (HG3.out.all hKK) i hp hok).mono (fun e w' ⟨⟨z, he, hz⟩, hk⟩ => ⟨⟨z, he, ⟨hp, .inr (.inr (.inr (.inr (.inr (.inr ⟨rfl, hz⟩)))))⟩⟩, hk⟩)
          have HP : Hid (i < pq.length) := hp
          have HI : Hid (i < cs.length) := hlt
          have i0 : (0 : Int) ≤ (i : Int) := by omega
          have i1 : (i : Int) < (cs.length : Int) := by omega
          have h7 : j = 0 ∨ j = 1 ∨ j = 2 ∨ j = 3 ∨ j = 4 ∨ j = 5 ∨ j = 6 := by have := HJ.out; omega
          have hfv := HFV.out
          have HCS : Hid (cs.length ≤ 200) := hn
          clear hp hpm hlo hfew hok hkq hKK hi hlt
          rcases h7 with e | e | e | e | e | e | e
          · have hfv2 : fv = .func (.func 28) #[.pointer (some ⟨E, 0, none⟩)] #[] := by rw [hfv, e]; rfl
            have HE : Hid (j = 0) := e
            subst hfv2
            clear hfv e cr1 cr2 cr3 cr4 cr5 cr6
            go_wp2_with fail
            (with_reducible refine Calls.mono cr0 ?_)
            rintro e w9 ⟨⟨z, rfl, hz⟩, k9⟩
            have HRz : Hid (RuleIs pq j i z) := by show RuleIs pq j i z; rw [HE.out]; exact hz
            have K9 : Hid (Kept (fun _ => True) wq w9) := k9
            have F9 := FZ3.out.kept (HKK.out.trans k9) trivial
            obtain ⟨z0, z1, z2⟩ := F9.three
            have zf := F9.free
            clear hz k9 cr0
            by_cases hz1 : z = -1
            · subst hz1
              go_wp2_with fail
              go_roundw
              case rel =>
                refine ⟨i + 1, by have := HI.out; omega, by go_num, fun i' h1 => ?_, HKq.out.trans K9.out⟩
                by_cases he : i' = i
                · rw [he]; exact HRz.out
                · exact HIn.out i' (by omega)
              case measure => have := HI.out; simp [intOf]; omega
            · have hz2 : (z == -1) = false := by simpa using hz1
              have hz3 : (z != -1) = true := by simpa using hz1
              go_wp2_with fail
              refine bodyPost_ret (results_cu rfl _ _ rfl (load_fault (((F9.set 0 _).set 1 _).set 2 _))) rfl ⟨pq, HPG.out, .inr ⟨j, i, z, HJ.out, HP.out, hz1, HRz.out, HAll.out, HIn.out, rfl⟩, ?_⟩
              exact kept_fresh (kept_fresh (kept_fresh (KZ3.out.trans (HKK.out.trans K9.out)) (by rw [← HZ.out]; exact Nat.le_refl _) _) (by rw [← HZ.out]; exact Nat.le_refl _) _) (by rw [← HZ.out]; exact Nat.le_refl _) _
          · have hfv2 : fv = .func (.func 29) #[.pointer (some ⟨E, 0, none⟩)] #[] := by rw [hfv, e]; rfl
            have HE : Hid (j = 1) := e
            subst hfv2
            clear hfv e cr0 cr2 cr3 cr4 cr5 cr6
            go_wp2_with fail
            (with_reducible refine Calls.mono cr1 ?_)
            rintro e w9 ⟨⟨z, rfl, hz⟩, k9⟩
            have HRz : Hid (RuleIs pq j i z) := by show RuleIs pq j i z; rw [HE.out]; exact hz
            have K9 : Hid (Kept (fun _ => True) wq w9) := k9
            have F9 := FZ3.out.kept (HKK.out.trans k9) trivial
            obtain ⟨z0, z1, z2⟩ := F9.three
            have zf := F9.free
            clear hz k9 cr1
            by_cases hz1 : z = -1
            · subst hz1
              go_wp2_with fail
              go_roundw
              case rel =>
                refine ⟨i + 1, by have := HI.out; omega, by go_num, fun i' h1 => ?_, HKq.out.trans K9.out⟩
                by_cases he : i' = i
                · rw [he]; exact HRz.out
                · exact HIn.out i' (by omega)
              case measure => have := HI.out; simp [intOf]; omega
            · have hz2 : (z == -1) = false := by simpa using hz1
              have hz3 : (z != -1) = true := by simpa using hz1
              go_wp2_with fail
              refine bodyPost_ret (results_cu rfl _ _ rfl (load_fault (((F9.set 0 _).set 1 _).set 2 _))) rfl ⟨pq, HPG.out, .inr ⟨j, i, z, HJ.out, HP.out, hz1, HRz.out, HAll.out, HIn.out, rfl⟩, ?_⟩
              exact kept_fresh (kept_fresh (kept_fresh (KZ3.out.trans (HKK.out.trans K9.out)) (by rw [← HZ.out]; exact Nat.le_refl _) _) (by rw [← HZ.out]; exact Nat.le_refl _) _) (by rw [← HZ.out]; exact Nat.le_refl _) _
          · have hfv2 : fv = .func (.func 30) #[.pointer (some ⟨E, 0, none⟩)] #[] := by rw [hfv, e]; rfl
            have HE : Hid (j = 2) := e
            subst hfv2
            clear hfv e cr0 cr1 cr3 cr4 cr5 cr6
            go_wp2_with fail
            (with_reducible refine Calls.mono cr2 ?_)
            rintro e w9 ⟨⟨z, rfl, hz⟩, k9⟩
            have HRz : Hid (RuleIs pq j i z) := by show RuleIs pq j i z; rw [HE.out]; exact hz
            have K9 : Hid (Kept (fun _ => True) wq w9) := k9
            have F9 := FZ3.out.kept (HKK.out.trans k9) trivial
            obtain ⟨z0, z1, z2⟩ := F9.three
            have zf := F9.free
            clear hz k9 cr2
            by_cases hz1 : z = -1
            · subst hz1
              go_wp2_with fail
              go_roundw
              case rel =>
                refine ⟨i + 1, by have := HI.out; omega, by go_num, fun i' h1 => ?_, HKq.out.trans K9.out⟩
                by_cases he : i' = i
                · rw [he]; exact HRz.out
                · exact HIn.out i' (by omega)
              case measure => have := HI.out; simp [intOf]; omega
            · have hz2 : (z == -1) = false := by simpa using hz1
              have hz3 : (z != -1) = true := by simpa using hz1
              go_wp2_with fail
              refine bodyPost_ret (results_cu rfl _ _ rfl (load_fault (((F9.set 0 _).set 1 _).set 2 _))) rfl ⟨pq, HPG.out, .inr ⟨j, i, z, HJ.out, HP.out, hz1, HRz.out, HAll.out, HIn.out, rfl⟩, ?_⟩
              exact kept_fresh (kept_fresh (kept_fresh (KZ3.out.trans (HKK.out.trans K9.out)) (by rw [← HZ.out]; exact Nat.le_refl _) _) (by rw [← HZ.out]; exact Nat.le_refl _) _) (by rw [← HZ.out]; exact Nat.le_refl _) _
          · have hfv2 : fv = .func (.func 31) #[.pointer (some ⟨E, 0, none⟩)] #[] := by rw [hfv, e]; rfl
            have HE : Hid (j = 3) := e
            subst hfv2
            clear hfv e cr0 cr1 cr2 cr4 cr5 cr6
            go_wp2_with fail
            (with_reducible refine Calls.mono cr3 ?_)
            rintro e w9 ⟨⟨z, rfl, hz⟩, k9⟩
            have HRz : Hid (RuleIs pq j i z) := by show RuleIs pq j i z; rw [HE.out]; exact hz
            have K9 : Hid (Kept (fun _ => True) wq w9) := k9
            have F9 := FZ3.out.kept (HKK.out.trans k9) trivial
            obtain ⟨z0, z1, z2⟩ := F9.three
            have zf := F9.free
            clear hz k9 cr3
            by_cases hz1 : z = -1
            · subst hz1
              go_wp2_with fail
              go_roundw
              case rel =>
                refine ⟨i + 1, by have := HI.out; omega, by go_num, fun i' h1 => ?_, HKq.out.trans K9.out⟩
                by_cases he : i' = i
                · rw [he]; exact HRz.out
                · exact HIn.out i' (by omega)
              case measure => have := HI.out; simp [intOf]; omega
            · have hz2 : (z == -1) = false := by simpa using hz1
              have hz3 : (z != -1) = true := by simpa using hz1
              go_wp2_with fail
              refine bodyPost_ret (results_cu rfl _ _ rfl (load_fault (((F9.set 0 _).set 1 _).set 2 _))) rfl ⟨pq, HPG.out, .inr ⟨j, i, z, HJ.out, HP.out, hz1, HRz.out, HAll.out, HIn.out, rfl⟩, ?_⟩
              exact kept_fresh (kept_fresh (kept_fresh (KZ3.out.trans (HKK.out.trans K9.out)) (by rw [← HZ.out]; exact Nat.le_refl _) _) (by rw [← HZ.out]; exact Nat.le_refl _) _) (by rw [← HZ.out]; exact Nat.le_refl _) _
          · have hfv2 : fv = .func (.func 32) #[.pointer (some ⟨E, 0, none⟩)] #[] := by rw [hfv, e]; rfl
            have HE : Hid (j = 4) := e
            subst hfv2
            clear hfv e cr0 cr1 cr2 cr3 cr5 cr6
            go_wp2_with fail
            (with_reducible refine Calls.mono cr4 ?_)
            rintro e w9 ⟨⟨z, rfl, hz⟩, k9⟩
            have HRz : Hid (RuleIs pq j i z) := by show RuleIs pq j i z; rw [HE.out]; exact hz
            have K9 : Hid (Kept (fun _ => True) wq w9) := k9
            have F9 := FZ3.out.kept (HKK.out.trans k9) trivial
            obtain ⟨z0, z1, z2⟩ := F9.three
            have zf := F9.free
            clear hz k9 cr4
            by_cases hz1 : z = -1
            · subst hz1
              go_wp2_with fail
              go_roundw
              case rel =>
                refine ⟨i + 1, by have := HI.out; omega, by go_num, fun i' h1 => ?_, HKq.out.trans K9.out⟩
                by_cases he : i' = i
                · rw [he]; exact HRz.out
                · exact HIn.out i' (by omega)
              case measure => have := HI.out; simp [intOf]; omega
            · have hz2 : (z == -1) = false := by simpa using hz1
              have hz3 : (z != -1) = true := by simpa using hz1
              go_wp2_with fail
              refine bodyPost_ret (results_cu rfl _ _ rfl (load_fault (((F9.set 0 _).set 1 _).set 2 _))) rfl ⟨pq, HPG.out, .inr ⟨j, i, z, HJ.out, HP.out, hz1, HRz.out, HAll.out, HIn.out, rfl⟩, ?_⟩
              exact kept_fresh (kept_fresh (kept_fresh (KZ3.out.trans (HKK.out.trans K9.out)) (by rw [← HZ.out]; exact Nat.le_refl _) _) (by rw [← HZ.out]; exact Nat.le_refl _) _) (by rw [← HZ.out]; exact Nat.le_refl _) _
          · have hfv2 : fv = .func (.func 33) #[.pointer (some ⟨E, 0, none⟩)] #[] := by rw [hfv, e]; rfl
            have HE : Hid (j = 5) := e
            subst hfv2
            clear hfv e cr0 cr1 cr2 cr3 cr4 cr6
            go_wp2_with fail
            (with_reducible refine Calls.mono cr5 ?_)
            rintro e w9 ⟨⟨z, rfl, hz⟩, k9⟩
            have HRz : Hid (RuleIs pq j i z) := by show RuleIs pq j i z; rw [HE.out]; exact hz
            have K9 : Hid (Kept (fun _ => True) wq w9) := k9
            have F9 := FZ3.out.kept (HKK.out.trans k9) trivial
            obtain ⟨z0, z1, z2⟩ := F9.three
            have zf := F9.free
            clear hz k9 cr5
            by_cases hz1 : z = -1
            · subst hz1
              go_wp2_with fail
              go_roundw
              case rel =>
                refine ⟨i + 1, by have := HI.out; omega, by go_num, fun i' h1 => ?_, HKq.out.trans K9.out⟩
                by_cases he : i' = i
                · rw [he]; exact HRz.out
                · exact HIn.out i' (by omega)
              case measure => have := HI.out; simp [intOf]; omega
            · have hz2 : (z == -1) = false := by simpa using hz1
              have hz3 : (z != -1) = true := by simpa using hz1
              go_wp2_with fail
              refine bodyPost_ret (results_cu rfl _ _ rfl (load_fault (((F9.set 0 _).set 1 _).set 2 _))) rfl ⟨pq, HPG.out, .inr ⟨j, i, z, HJ.out, HP.out, hz1, HRz.out, HAll.out, HIn.out, rfl⟩, ?_⟩
              exact kept_fresh (kept_fresh (kept_fresh (KZ3.out.trans (HKK.out.trans K9.out)) (by rw [← HZ.out]; exact Nat.le_refl _) _) (by rw [← HZ.out]; exact Nat.le_refl _) _) (by rw [← HZ.out]; exact Nat.le_refl _) _
          · have hfv2 : fv = .func (.func 34) #[.pointer (some ⟨E, 0, none⟩)] #[] := by rw [hfv, e]; rfl
            have HE : Hid (j = 6) := e
            subst hfv2
            clear hfv e cr0 cr1 cr2 cr3 cr4 cr5
            go_wp2_with fail
            (with_reducible refine Calls.mono cr6 ?_)
            rintro e w9 ⟨⟨z, rfl, hz⟩, k9⟩
            have HRz : Hid (RuleIs pq j i z) := by show RuleIs pq j i z; rw [HE.out]; exact hz
            have K9 : Hid (Kept (fun _ => True) wq w9) := k9
            have F9 := FZ3.out.kept (HKK.out.trans k9) trivial
            obtain ⟨z0, z1, z2⟩ := F9.three
            have zf := F9.free
            clear hz k9 cr6
            by_cases hz1 : z = -1
            · subst hz1
              go_wp2_with fail
              go_roundw
              case rel =>
                refine ⟨i + 1, by have := HI.out; omega, by go_num, fun i' h1 => ?_, HKq.out.trans K9.out⟩
                by_cases he : i' = i
                · rw [he]; exact HRz.out
                · exact HIn.out i' (by omega)
              case measure => have := HI.out; simp [intOf]; omega
            · have hz2 : (z == -1) = false := by simpa using hz1
              have hz3 : (z != -1) = true := by simpa using hz1
              go_wp2_with fail
              refine bodyPost_ret (results_cu rfl _ _ rfl (load_fault (((F9.set 0 _).set 1 _).set 2 _))) rfl ⟨pq, HPG.out, .inr ⟨j, i, z, HJ.out, HP.out, hz1, HRz.out, HAll.out, HIn.out, rfl⟩, ?_⟩
              exact kept_fresh (kept_fresh (kept_fresh (KZ3.out.trans (HKK.out.trans K9.out)) (by rw [← HZ.out]; exact Nat.le_refl _) _) (by rw [← HZ.out]; exact Nat.le_refl _) _) (by rw [← HZ.out]; exact Nat.le_refl _) _
        · have i1 : ¬ (i : Int) < (cs.length : Int) := by omega
          have HI : Hid (i = cs.length) := by show _ = _; omega
          clear hkq hKK hi hlt
          go_wp2_with fail
          go_roundw
          case rel =>
            refine ⟨j + 1, by have := HJ.out; omega, by go_num, fun j' i' h1 h2 => ?_, HKr.out.trans HKq.out⟩
            by_cases he : j' = j
            · subst he
              exact HIn.out i' (by have := HI.out; have := HLen.out; omega)
            · exact HAll.out j' i' (by omega) h2
          case measure => have := HJ.out; simp [intOf]; omega
    · obtain rfl : j = 7 := by omega
      obtain ⟨z0, z1, z2⟩ := (FZ3.out.kept hkr trivial).three
      have zf := (FZ3.out.kept hkr trivial).free
      have F9 := FZ3.out.kept hkr trivial
      clear hkr hj hlt
      go_wp2_with fail
      refine bodyPost_ret (results_cu rfl _ _ rfl (load_fault (((F9.set 0 _).set 1 _).set 2 _))) rfl ⟨pq, HPG.out, .inl ⟨fun j' i' h1 h2 => HAll.out j' i' h1 h2, rfl⟩, ?_⟩
      exact kept_fresh (kept_fresh (kept_fresh (KZ3.out.trans HKr.out) (by rw [← HZ.out]; exact Nat.le_refl _) _) (by rw [← HZ.out]; exact Nat.le_refl _) _) (by rw [← HZ.out]; exact Nat.le_refl _) _

end Go.Proofs.Ytmcaoimgmgjjiaa

namespace Go.Proofs.Ytmcaoimgmgjjiaa
open Go.RowKit

structure Ui where
  k : Int
  tx : List UInt8
  gs : List Int
  bd : List UInt8
def encGi (gs : List Int) : List UInt8 := gs.flatMap fun g => enc (u64 g) 1
theorem encGi_snoc (gs : List Int) (g : Int) : encGi (gs ++ [g]) = encGi gs ++ enc (u64 g) 1 := by simp [encGi]
theorem encGi_len (gs : List Int) : (encGi gs).length = gs.length := by
  induction gs with
  | nil => rfl
  | cons g gs ih =>
    show (enc (u64 g) 1 ++ encGi gs).length = _
    rw [List.length_append, ih, enc_length, List.length_cons]
    omega
def encU (r : Ui) : List UInt8 := enc (u64 r.k) 1 ++ enc (u64 r.tx.length) 4 ++ r.tx ++ enc (u64 r.gs.length) 1 ++ encGi r.gs ++ enc (u64 r.bd.length) 4 ++ r.bd
def Ui.val (r : Ui) (a : Option Addr) (c : Nat) : Value := .agg #[.int .i64 r.k, .string ⟨r.tx.toArray⟩, .slice a r.gs.length c, .string ⟨r.bd.toArray⟩]
def Gi (w : World) (a : Option Addr) (gs : List Int) : Prop :=
  0 < gs.length → ∃ b off, a = some ⟨b, off, none⟩ ∧ b < w.heap.size ∧ ∀ i (h : i < gs.length), w.cell? ⟨b, off + i, none⟩ = some (.int .i64 gs[i])
theorem Gi.all {w w' : World} {a : Option Addr} {gs : List Int} (h : Gi w a gs) (k : Kept (fun _ => True) w w') : Gi w' a gs := fun h0 => by
  obtain ⟨b, off, e, hb, hc⟩ := h h0
  exact ⟨b, off, e, Nat.lt_of_lt_of_le hb k.size, fun i hi => (kept_cell k hb trivial).trans (hc i hi)⟩
def WS (w0 w : World) (B : Nat) (bs : List UInt8) : Prop := ∃ G v, Wr w B G v bs ∧ w0.heap.size ≤ B ∧ (∀ x, G = some x → w0.heap.size ≤ x) ∧ Kept (fun _ => True) w0 w
end Go.Proofs.Ytmcaoimgmgjjiaa
