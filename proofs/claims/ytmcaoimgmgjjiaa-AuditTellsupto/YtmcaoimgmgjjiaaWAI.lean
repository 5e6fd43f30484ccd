/-
  Texts of the proofs, 35 of 52.
-/
import Derived.Test.YtmcaoimgmgjjiaaWB
import Derived.Test.YtmcaoimgmgjjiaaWAH
namespace Go.Proofs.Ytmcaoimgmgjjiaa
open Go.RowKit

def wi (n : Int) (m : Nat) : Nat := (if n.tmod ((m : Int) + 1) < 0 then n.tmod ((m : Int) + 1) + (m : Int) + 1 else n.tmod ((m : Int) + 1)).toNat
theorem wi_le (n : Int) (m : Nat) : wi n m ≤ m := by
  have h1 : n.tmod ((m : Int) + 1) < (m : Int) + 1 := Int.tmod_lt_of_pos n (by omega)
  unfold wi
  split <;> omega
set_option maxHeartbeats 1000000 in
theorem wi_any {w : World} (n : Int) (m : Nat) (hm : m ≤ 1000000000000) :
    Calls Try.prog 24 #[.int .i64 n, .int .i64 0, .int .i64 m] w fun e w' => e = .returned (.int .i64 (wi n m : Nat)) ∧ w' = w := by
  have hz : ((m : Int) + 1 == 0) = false := by simp; omega
  have hz2 : ¬ ((m : Int) + 1 = 0) := by omega
  have hz3 : ¬ ((m : Int) + 1 = -1) := by omega
  have h1 : n.tmod ((m : Int) + 1) < (m : Int) + 1 := Int.tmod_lt_of_pos n (by omega)
  have h2 : -((m : Int) + 1) < n.tmod ((m : Int) + 1) := by
    have := Int.tmod_lt_of_pos (-n) (show (0 : Int) < (m : Int) + 1 by omega)
    rw [Int.neg_tmod] at this
    omega
  unfold wi
  generalize hr : n.tmod ((m : Int) + 1) = r at *
  by_cases hn : r < 0
  · rw [if_pos hn, Int.toNat_of_nonneg (by omega)]
    go_enter Try.func24, Try.ntmps24
    go_wp2
    go_ret
    exact ⟨rfl, rfl⟩
  · rw [if_neg hn, Int.toNat_of_nonneg (by omega)]
    go_enter Try.func24, Try.ntmps24
    go_wp2
    go_ret
    exact ⟨rfl, rfl⟩
theorem lit_cell {w : World} {G : Nat} {cs : Array Value} {ty : TypeId} {fr : Nat × Nat} (h : w.heap[G]? = some (.cells cs ty fr)) {k : Nat} {v : Value} (hv : cs[k]? = some v) : w.cell? ⟨G, k, none⟩ = some v := by
  rw [cell_of_row w G _ _ _ _ h]
  exact hv

end Go.Proofs.Ytmcaoimgmgjjiaa

namespace Go.Proofs.Ytmcaoimgmgjjiaa
open Go.RowKit

theorem gi_row {w : World} {G : Nat} {gs : List Nat} (h : w.heap[G]? = some (.cells (gs.map fun g : Nat => Value.int .i64 (g : Int)).toArray 3 (0, 0))) : Gi w (some ⟨G, 0, none⟩) (gs.map fun g : Nat => (g : Int)) := fun _ =>
  ⟨G, 0, rfl, lt_of_block h, fun i hi => by
    rw [List.length_map] at hi
    rw [Nat.zero_add, List.getElem_map]
    exact lit_cell h (by simp [hi])⟩
theorem vw_row {α : Type} {S : Shp α} {w : World} {B : Nat} {xs : List α} {t : TypeId} (h : w.heap[B]? = some (.cells (S.row xs).toArray t (0, 0))) : Vw S w (some ⟨B, 0, none⟩) xs :=
  ⟨fun _ => ⟨B, 0, rfl, lt_of_block h, fun i hi j u hu => by
    have hj : j < S.n := by have := (List.getElem?_eq_some_iff.1 hu).1; rwa [S.len] at this
    rw [Nat.zero_add]
    refine lit_cell h ?_
    rw [List.getElem?_toArray, row_get xs i hi j hj]
    exact hu⟩⟩
theorem claimR_any {w : World} (g : Int) {al : Option Addr} {cap n : Nat} {us : List Ur} {rs : List Rr} (h : Rrv w al rs) (he : rs.map (·.1) = us.map Ur.ui) (ok : ∀ u ∈ us, Okt u) (hn : us.length = n) (hm : n ≤ 800) :
    Calls Try.prog 9 #[.int .i64 g, .slice al n cap] w fun e w' => ∃ a' c', e = .returned (.agg #[.int .i64 g, .slice a' (encL (mkC (tsR us))).length c']) ∧ Ob w' w.heap.size (.slice a' (encL (mkC (tsR us))).length c') (encL (mkC (tsR us))) ∧ Kept (fun _ => True) w w' := by
  have hl : rs.length = n := by
    have := congrArg List.length he
    rw [List.length_map, List.length_map] at this
    omega
  have key : ∀ r ∈ rs, ∃ u ∈ us, r.1 = u.ui := fun r hr => by
    have h1 : r.1 ∈ us.map Ur.ui := by rw [← he]; exact List.mem_map_of_mem hr
    obtain ⟨u, hu, e⟩ := List.mem_map.1 h1
    exact ⟨u, hu, e.symm⟩
  have hts : (rs.map fun r => encU r.1) = tsR us := by
    have h1 : (rs.map fun r => encU r.1) = (rs.map (·.1)).map encU := by rw [List.map_map]; rfl
    rw [h1, he, List.map_map]
    exact List.map_congr_left fun u hu => encU_nat (ok u hu)
  have := claim_any (cap := cap) g h (by omega) (fun r hr => by
    obtain ⟨u, hu, e⟩ := key r hr
    rw [e]
    have h1 := (ok u hu).t
    have h2 := (ok u hu).b
    show u.tx.length + u.bd.length ≤ _
    omega) (fun r hr => by
    obtain ⟨u, hu, e⟩ := key r hr
    rw [e]
    have h1 := (ok u hu).n
    show (u.gs.map _).length ≤ _
    rw [List.length_map]
    omega)
  rw [hts, hl] at this
  exact this
theorem new2 (w : World) (o1 o2 : Obj) : ((w.alloc o1).alloc o2).heap[w.heap.size]? = some o1 ∧ ((w.alloc o1).alloc o2).heap[w.heap.size + 1]? = some o2 := by
  refine ⟨alloc_old _ (heap_alloc_new w _), ?_⟩
  have := heap_alloc_new (w.alloc o1) o2
  rwa [heap_size_alloc] at this
theorem new3 (w : World) (o1 o2 o3 : Obj) : (((w.alloc o1).alloc o2).alloc o3).heap[w.heap.size]? = some o1 ∧ (((w.alloc o1).alloc o2).alloc o3).heap[w.heap.size + 1]? = some o2 ∧ (((w.alloc o1).alloc o2).alloc o3).heap[w.heap.size + 1 + 1]? = some o3 := by
  refine ⟨alloc_old _ (new2 w o1 o2).1, alloc_old _ (new2 w o1 o2).2, ?_⟩
  have := heap_alloc_new ((w.alloc o1).alloc o2) o3
  rwa [heap_size_alloc, heap_size_alloc] at this
set_option maxRecDepth 100000 in
set_option maxHeartbeats 4000000 in
theorem known_any (w : World) : Calls Try.prog 16 #[] w fun e w' => e = .returned (.bool true) ∧ Kept (fun _ => True) w w' := by
  have CV0 : ∀ W, Calls Try.prog 10 #[.slice none 0 0] W fun e w' => e = .returned (.tuple #[.agg #[.int .i64 0, .int .i64 0, .int .i64 0], .bool true]) ∧ Kept (fun _ => True) W w' := fun W => by
    refine (verify_any (w := W) (al := none) (cap := 0) (cs := []) ⟨Vw.nil _ _, fun _ h => by simp at h, fun _ h => by simp at h, fun _ h => by simp at h⟩ (by simp)).mono ?_
    rintro e w' ⟨pq, hp, he, k⟩
    exact ⟨ver_none hp he, k⟩
  obtain ⟨E1, hE1⟩ : ∃ E1, E1 = encL (mkC (tsR [rP, rC])) := ⟨_, rfl⟩
  obtain ⟨E2, hE2⟩ : ∃ E2, E2 = encL (mkC (tsR [rA])) := ⟨_, rfl⟩
  have l1 : (E1.length : Int) ≤ 140737488355328 := by
    have h1 := wgt_few (M := 4000) (mkC (tsR [rP, rC])) (fun x hx => by
      have : x.t ∈ txs (mkC (tsR [rP, rC])) := List.mem_map.2 ⟨x, hx, rfl⟩
      rw [txs_mkC] at this
      exact tsR_short okPC (by decide) _ this)
    rw [mkC_length] at h1
    rw [hE1, encL_len]
    simp only [tsR, List.length_map, List.length_cons, List.length_nil] at *
    omega
  have l2 : (E2.length : Int) ≤ 140737488355328 := by
    have h1 := wgt_few (M := 4000) (mkC (tsR [rA])) (fun x hx => by
      have : x.t ∈ txs (mkC (tsR [rA])) := List.mem_map.2 ⟨x, hx, rfl⟩
      rw [txs_mkC] at this
      exact tsR_short okA1 (by decide) _ this)
    rw [mkC_length] at h1
    rw [hE2, encL_len]
    simp only [tsR, List.length_map, List.length_cons, List.length_nil] at *
    omega
  have CC1 : ∀ (W : World) (R G H : Nat), W.heap[G]? = some (.cells #[.int .i64 0, .int .i64 1] 3 (0, 0)) → W.heap[H]? = some (.cells #[.int .i64 0, .int .i64 1] 3 (0, 0)) → W.heap[R]? = some (.cells #[.int .i64 2, .string ⟨#[116]⟩, .slice (some ⟨G, 0, none⟩) 2 2, .string ⟨#[]⟩, .int .i64 3, .string ⟨#[116]⟩, .slice (some ⟨H, 0, none⟩) 2 2, .string ⟨#[]⟩] 24 (0, 0)) →
      Calls Try.prog 9 #[.int .i64 0, .slice (some ⟨R, 0, none⟩) 2 2] W fun e w' => ∃ a' c', e = .returned (.agg #[.int .i64 0, .slice a' E1.length c']) ∧ Ob w' W.heap.size (.slice a' E1.length c') E1 ∧ Kept (fun _ => True) W w' := fun W R G H hG hH hR => by
    have := claimR_any (w := W) (al := some ⟨R, 0, none⟩) (cap := 2) (us := [rP, rC]) (rs := [(rP.ui, (some ⟨G, 0, none⟩, 2)), (rC.ui, (some ⟨H, 0, none⟩, 2))]) 0 ⟨vw_row hR, fun r hr => by
      simp only [List.mem_cons, List.not_mem_nil, or_false] at hr
      rcases hr with rfl | rfl
      · exact gi_row (gs := [0, 1]) hG
      · exact gi_row (gs := [0, 1]) hH⟩ rfl okPC rfl (by decide)
    rwa [← hE1] at this
  have CC2 : ∀ (W : World) (R G : Nat), W.heap[G]? = some (.cells #[.int .i64 0, .int .i64 1] 3 (0, 0)) → W.heap[R]? = some (.cells #[.int .i64 4, .string ⟨#[116]⟩, .slice (some ⟨G, 0, none⟩) 2 2, .string ⟨#[]⟩] 24 (0, 0)) →
      Calls Try.prog 9 #[.int .i64 1, .slice (some ⟨R, 0, none⟩) 1 1] W fun e w' => ∃ a' c', e = .returned (.agg #[.int .i64 1, .slice a' E2.length c']) ∧ Ob w' W.heap.size (.slice a' E2.length c') E2 ∧ Kept (fun _ => True) W w' := fun W R G hG hR => by
    have := claimR_any (w := W) (al := some ⟨R, 0, none⟩) (cap := 1) (us := [rA]) (rs := [(rA.ui, (some ⟨G, 0, none⟩, 2))]) 1 ⟨vw_row hR, fun r hr => by
      rw [List.mem_singleton.1 hr]
      exact gi_row (gs := [0, 1]) hG⟩ rfl okA1 rfl (by decide)
    rwa [← hE2] at this
  have CV2 : ∀ (W : World) (L : Nat) (a1 a2 : Option Addr) (c1 c2 : Nat), Has W a1 E1 → Has W a2 E2 → W.heap[L]? = some (.cells #[.int .i64 0, .slice a1 E1.length c1, .int .i64 1, .slice a2 E2.length c2] 27 (0, 0)) →
      Calls Try.prog 10 #[.slice (some ⟨L, 0, none⟩) 2 2] W fun e w' => e = .returned (.tuple #[.agg #[.int .i64 5, .int .i64 0, .int .i64 1], .bool false]) ∧ Kept (fun _ => True) W w' := fun W L a1 a2 c1 c2 h1 h2 hL => by
    refine (verify_any (w := W) (al := some ⟨L, 0, none⟩) (cap := 2) (cs := [⟨0, E1, a1, c1⟩, ⟨1, E2, a2, c2⟩]) ⟨vw_row hL, fun c hc => ?_, fun c hc => ?_, fun c hc => ?_⟩ (by simp)).mono ?_
    · simp only [List.mem_cons, List.not_mem_nil, or_false] at hc
      rcases hc with rfl | rfl
      · exact h1
      · exact h2
    · simp only [List.mem_cons, List.not_mem_nil, or_false] at hc
      rcases hc with rfl | rfl
      · exact l1
      · exact l2
    · simp only [List.mem_cons, List.not_mem_nil, or_false] at hc
      rcases hc with rfl | rfl
      · exact (by unfold Fits; decide : Fits 0)
      · exact (by unfold Fits; decide : Fits 1)
    · rintro e w' ⟨pq, hp, he, k⟩
      exact ⟨ver_two (c := ⟨0, E1, a1, c1⟩) (d := ⟨1, E2, a2, c2⟩) rfl hE1 rfl hE2 hp he, k⟩
  have CV1 : ∀ (W : World) (L : Nat) (a1 a2 : Option Addr) (c1 c2 : Nat), Has W a1 E1 → W.heap[L]? = some (.cells #[.int .i64 0, .slice a1 E1.length c1, .int .i64 1, .slice a2 E2.length c2] 27 (0, 0)) →
      Calls Try.prog 10 #[.slice (some ⟨L, 0, none⟩) 1 2] W fun e w' => e = .returned (.tuple #[.agg #[.int .i64 0, .int .i64 0, .int .i64 0], .bool true]) ∧ Kept (fun _ => True) W w' := fun W L a1 a2 c1 c2 h1 hL => by
    have hv : Vw claimS W (some ⟨L, 0, none⟩) ([⟨0, E1, a1, c1⟩] : List Uc) := ⟨fun _ => ⟨L, 0, rfl, lt_of_block hL, fun i hi j u hu => by
      obtain rfl : i = 0 := by simpa using hi
      exact lit_cell hL (by
        simp only [List.getElem_cons_zero, claimS, ccell] at hu
        match j, hu with
        | 0, hu => simpa using hu
        | 1, hu => simpa using hu
        | j + 2, hu => simp at hu)⟩⟩
    refine (verify_any (w := W) (al := some ⟨L, 0, none⟩) (cap := 2) (cs := [⟨0, E1, a1, c1⟩]) ⟨hv, fun c hc => ?_, fun c hc => ?_, fun c hc => ?_⟩ (by simp)).mono ?_
    · rw [List.mem_singleton.1 hc]
      exact h1
    · rw [List.mem_singleton.1 hc]
      exact l1
    · rw [List.mem_singleton.1 hc]
      exact (by unfold Fits; decide : Fits 0)
    · rintro e w' ⟨pq, hp, he, k⟩
      exact ⟨ver_one (c := ⟨0, E1, a1, c1⟩) rfl hE1 hp he, k⟩
  clear hE1 hE2 l1 l2
  go_enter Try.func16, Try.ntmps16
  go_upto_region 2 with (go_at_call 10; (with_reducible refine Calls.mono (CV0 _) ?_); rintro e w1 ⟨rfl, k1⟩)
  have F2 : Hid (Bk (w1.alloc (.cells #[.int .i64 0, .int .i64 0, .int .i64 0] 33)) w1.heap.size 33 [.int .i64 0, .int .i64 0, .int .i64 0]) := heap_alloc_new w1 _
  have K2 : Hid (Kept (fun _ => True) w (w1.alloc (.cells #[.int .i64 0, .int .i64 0, .int .i64 0] 33))) := k1.alloc _
  clear k1 CV0
  generalize w1.heap.size = P1 at *
  generalize w1.alloc (.cells #[.int .i64 0, .int .i64 0, .int .i64 0] 33) = w2 at *
  obtain ⟨q0, q1, q2⟩ := new3 w2 (.cells #[.int .i64 0, .int .i64 1] 3) (.cells #[.int .i64 0, .int .i64 1] 3) (.cells #[.int .i64 2, .string ⟨#[116]⟩, .slice (some ⟨w2.heap.size, 0, none⟩) 2 2, .string ⟨#[]⟩, .int .i64 3, .string ⟨#[116]⟩, .slice (some ⟨w2.heap.size + 1, 0, none⟩) 2 2, .string ⟨#[]⟩] 24)
  have C1 := CC1 _ _ _ _ q0 q1 q2
  clear CC1 q0 q1 q2
  go_upto_region 3 with (first
    | (go_at_call 9; (with_reducible refine Calls.mono C1 ?_); rintro e w3 ⟨a3, c3, rfl, h3, k3⟩; have K3 : Hid (Kept (fun _ => True) w2 w3) := ((((Kept.refl _ _).alloc _).alloc _).alloc _).trans k3; have H3 : Hid (Has w3 a3 E1) := own_has h3; obtain ⟨q0, q1⟩ := new2 w3 (.cells #[.int .i64 0, .int .i64 1] 3) (.cells #[.int .i64 4, .string ⟨#[116]⟩, .slice (some ⟨w3.heap.size, 0, none⟩) 2 2, .string ⟨#[]⟩] 24); have C2 := CC2 _ _ _ q0 q1; clear CC2 q0 q1 h3 k3 C1)
    | (go_at_call 9; (with_reducible refine Calls.mono C2 ?_); rintro e w4 ⟨a4, c4, rfl, h4, k4⟩; have K4 : Hid (Kept (fun _ => True) w3 w4) := (((Kept.refl _ _).alloc _).alloc _).trans k4; have H4 : Hid (Has w4 a4 E2) := own_has h4; clear C2 h4 k4))
  have HL : Hid ((w4.alloc (.cells #[.int .i64 0, .slice a3 E1.length c3, .int .i64 1, .slice a4 E2.length c4] 27)).heap[w4.heap.size]? = some (.cells #[.int .i64 0, .slice a3 E1.length c3, .int .i64 1, .slice a4 E2.length c4] 27 (0, 0))) := heap_alloc_new w4 _
  have K5 : Hid (Kept (fun _ => True) w4 (w4.alloc (.cells #[.int .i64 0, .slice a3 E1.length c3, .int .i64 1, .slice a4 E2.length c4] 27))) := (Kept.refl _ _).alloc _
  generalize w4.heap.size = L at *
  generalize w4.alloc (.cells #[.int .i64 0, .slice a3 E1.length c3, .int .i64 1, .slice a4 E2.length c4] 27) = w5 at *
  have H31 : Hid (Has w5 a3 E1) := H3.out.kept (K4.out.trans K5.out) (fun _ _ => trivial)
  have H41 : Hid (Has w5 a4 E2) := H4.out.kept K5.out (fun _ _ => trivial)
  have C2 := CV2 w5 L a3 a4 c3 c4 H31.out H41.out HL.out
  clear CV2
  go_upto_region 4 with (go_at_call 10; (with_reducible refine Calls.mono C2 ?_); rintro e w6 ⟨rfl, k6⟩; have K6 : Hid (Kept (fun _ => True) w5 w6) := k6; clear C2)
  have F6 : Hid (Bk (w6.alloc (.cells #[.int .i64 5, .int .i64 0, .int .i64 1] 33)) w6.heap.size 33 [.int .i64 5, .int .i64 0, .int .i64 1]) := heap_alloc_new w6 _
  have K7 : Hid (Kept (fun _ => True) w5 (w6.alloc (.cells #[.int .i64 5, .int .i64 0, .int .i64 1] 33))) := K6.out.alloc _
  clear K6 k6
  generalize w6.heap.size = P6 at *
  generalize w6.alloc (.cells #[.int .i64 5, .int .i64 0, .int .i64 1] 33) = w7 at *
  have C1 := CV1 w7 L a3 a4 c3 c4 (H31.out.kept K7.out (fun _ _ => trivial)) ((K7.out.block L (lt_of_block HL.out) trivial).trans HL.out)
  clear CV1
  go_upto_region 5 with (go_at_call 10; (with_reducible refine Calls.mono C1 ?_); rintro e w8 ⟨rfl, k8⟩)
  have F8 : Bk (w8.alloc (.cells #[.int .i64 0, .int .i64 0, .int .i64 0] 33)) w8.heap.size 33 [.int .i64 0, .int .i64 0, .int .i64 0] := heap_alloc_new w8 _
  have k9 : Kept (fun _ => True) w7 (w8.alloc (.cells #[.int .i64 0, .int .i64 0, .int .i64 0] 33)) := k8.alloc _
  generalize w8.heap.size = P8 at *
  generalize w8.alloc (.cells #[.int .i64 0, .int .i64 0, .int .i64 0] 33) = w9 at *
  have F69 := F6.out.kept k9 trivial
  obtain ⟨f0, f1, f2⟩ := F8.three
  obtain ⟨g0, g1, g2⟩ := F69.three
  have KK : Hid (Kept (fun _ => True) w w9) := ((((K2.out.trans K3.out).trans K4.out).trans K5.out).trans K7.out).trans k9
  clear F8 F69 k8 k9 C1
  go_wp2_with fail
  go_ret
  exact ⟨rfl, KK.out⟩

end Go.Proofs.Ytmcaoimgmgjjiaa

namespace Go.Proofs.Ytmcaoimgmgjjiaa
open Go.RowKit Go.Maps Go.Sort

theorem snoc_ind {α : Type} {P : List α → Prop} (h0 : P []) (h1 : ∀ l x, P l → P (l ++ [x])) (l : List α) : P l := by
  have : ∀ m : List α, P m.reverse := fun m => by
    induction m with
    | nil => exact h0
    | cons x m ih => rw [List.reverse_cons]; exact h1 _ _ ih
  have h := this l.reverse
  rwa [List.reverse_reverse] at h
structure TelIs (rs : List Ur) (tx : List UInt8) (t : Tl) : Prop where
  c : t.ks.c = true ↔ ∃ r ∈ rs, r.tx = tx ∧ r.k = 3
  a : t.ks.a = true ↔ ∃ r ∈ rs, r.tx = tx ∧ r.k = 4
  g : t.ks.c = true → ∃ r ∈ rs, r.tx = tx ∧ r.k = 3 ∧ r.gs = t.gs
  p : t.ap = true ↔ ∃ r ∈ rs, r.tx = tx ∧ r.k = 3 ∧ r.gs ≠ t.gs
theorem ex_snoc {rs : List Ur} {r : Ur} {P : Ur → Prop} : (∃ x ∈ rs ++ [r], P x) ↔ (∃ x ∈ rs, P x) ∨ P r := by
  constructor
  · rintro ⟨x, hx, h⟩
    rcases List.mem_append.1 hx with q | q
    · exact .inl ⟨x, q, h⟩
    · rw [List.mem_singleton.1 q] at h; exact .inr h
  · rintro (⟨x, hx, h⟩ | h)
    · exact ⟨x, List.mem_append_left _ hx, h⟩
    · exact ⟨r, by simp, h⟩
theorem tel_is (tx : List UInt8) (rs : List Ur) : TelIs rs tx (tel rs tx) := by
  refine snoc_ind (P := fun rs => TelIs rs tx (tel rs tx)) ?_ ?_ rs
  · exact ⟨by simp [tel, Tl.nil, K4.nil], by simp [tel, Tl.nil, K4.nil], fun h => by simp [tel, Tl.nil, K4.nil] at h, by simp [tel, Tl.nil]⟩
  · intro l r ih
    rw [tel_snoc]
    by_cases ht : r.tx = tx
    · rw [if_pos ht]
      obtain ⟨hc, ha, hg, hp⟩ := ih
      generalize tel l tx = t at *
      obtain ⟨⟨o, p, c, a⟩, gs, ap⟩ := t
      simp only at hc ha hg hp
      have nc : r.k = 3 ∧ c = false → ap = false := fun ⟨_, h⟩ => by
        cases hap : ap with
        | false => rfl
        | true =>
          obtain ⟨x, hx, h1, h2, _⟩ := hp.1 hap
          have := hc.2 ⟨x, hx, h1, h2⟩
          rw [h] at this; cases this
      refine ⟨?_, ?_, ?_, ?_⟩
      · rw [ex_snoc, ← hc]
        simp [Tl.step, K4.put, ht]
      · rw [ex_snoc, ← ha]
        simp [Tl.step, K4.put, ht]
      · intro h
        by_cases h3 : r.k = 3
        · by_cases hcf : c = false
          · exact ⟨r, by simp, ht, h3, by simp [Tl.step, h3, hcf]⟩
          · have hct : c = true := by simpa using hcf
            obtain ⟨x, hx, q⟩ := hg hct
            exact ⟨x, List.mem_append_left _ hx, by simpa [Tl.step, hct] using q⟩
        · have hct : c = true := by simpa [Tl.step, K4.put, h3] using h
          obtain ⟨x, hx, q⟩ := hg hct
          exact ⟨x, List.mem_append_left _ hx, by simpa [Tl.step, h3] using q⟩
      · rw [ex_snoc]
        by_cases h3 : r.k = 3
        · by_cases hcf : c = false
          · have := nc ⟨h3, hcf⟩
            subst this hcf
            simp only [Tl.step, h3, ht, and_self, if_true, true_and, ne_eq, not_true, or_false, Bool.false_eq_true, false_and, if_false, false_iff]
            rintro ⟨x, hx, h1, h2, _⟩
            have := hc.2 ⟨x, hx, h1, h2⟩
            cases this
          · have hct : c = true := by simpa using hcf
            subst hct
            by_cases hgs : gs = r.gs
            · subst hgs
              simp only [Tl.step, h3, ht, Bool.true_eq_false, and_false, if_false, ne_eq, not_true, or_false]
              exact hp
            · simp only [Tl.step, h3, ht, Bool.true_eq_false, and_false, if_false, true_and, ne_eq, hgs, not_false_eq_true, and_self, if_true, true_iff]
              exact .inr (fun q => hgs q.symm)
        · simp only [Tl.step, h3, false_and, if_false, and_false, or_false]
          exact hp
    · rw [if_neg ht]
      obtain ⟨hc, ha, hg, hp⟩ := ih
      have no : ∀ P : Ur → Prop, (∃ x ∈ l ++ [r], x.tx = tx ∧ P x) ↔ ∃ x ∈ l, x.tx = tx ∧ P x := fun P => by
        rw [ex_snoc]
        exact or_iff_left (fun q => ht q.1)
      refine ⟨?_, ?_, ?_, ?_⟩
      · rw [no]; exact hc
      · rw [no]; exact ha
      · intro h
        obtain ⟨x, hx, q⟩ := hg h
        exact ⟨x, List.mem_append_left _ hx, q⟩
      · rw [no]; exact hp
theorem tel_apart (rs : List Ur) (tx : List UInt8) : (tel rs tx).ap = true ↔ ∃ r ∈ rs, ∃ r' ∈ rs, r.tx = tx ∧ r'.tx = tx ∧ r.k = 3 ∧ r'.k = 3 ∧ r.gs ≠ r'.gs := by
  have h := tel_is tx rs
  rw [h.p]
  constructor
  · rintro ⟨r, hr, h1, h2, h3⟩
    obtain ⟨r', hr', q1, q2, q3⟩ := h.g (h.c.2 ⟨r, hr, h1, h2⟩)
    exact ⟨r, hr, r', hr', h1, q1, h2, q2, by rw [q3]; exact h3⟩
  · rintro ⟨r, hr, r', hr', h1, h2, h3, h4, h5⟩
    by_cases q : r.gs = (tel rs tx).gs
    · exact ⟨r', hr', h2, h4, fun e => h5 (q.trans e.symm)⟩
    · exact ⟨r, hr, h1, h3, q⟩

def entM (rs : List Ur) : List Ue := entO (rs.map some) []
theorem entM_recs (rs : List Ur) : (entM rs).map (·.r) = rs := by
  have := entO_some rs []
  unfold entM
  simpa using this
structure Pq (gr : List (Int × List Ur)) (pq : List (Up × Ua)) : Prop where
  len : pq.length = gr.length
  md : ∀ i (h1 : i < pq.length) (h2 : i < gr.length), MdP gr[i].1 gr[i].2 pq[i].1
def flat (gr : List (Int × List Ur)) : List Ur := gr.flatMap (·.2)
def Cross (rs : List Ur) : Prop := ∀ r ∈ rs, ∀ r' ∈ rs, r.tx = r'.tx → r.k = 3 → r'.k ≠ 4 ∧ (r'.k = 3 → r.gs = r'.gs)
def Alone (p : Int × List Ur) : Prop := (∀ x ∈ entM p.2, g4 x = false ∧ g6 x = false) ∧ ∀ r ∈ p.2, r.k = 3 → (r.gs.any fun y => decide ((y : Int) = p.1)) = true
end Go.Proofs.Ytmcaoimgmgjjiaa
