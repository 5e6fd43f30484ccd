/-
  Texts of the proofs, 35 of 53.
-/
import Derived.Test.YtmcaoimgmgjjiaaVAH
import Derived.Test.YtmcaoimgmgjjiaaVQ
namespace Go.Proofs.Ytmcaoimgmgjjiaa
open Go.RowKit

theorem gi_row {w : World} {G : Nat} {gs : List Nat} (h : w.heap[G]? = some (.cells (gs.map fun g : Nat => Value.int .i64 (g : Int)).toArray 3 (0, 0))) : Gi w (some ⟨G, 0, none⟩) (gs.map fun g : Nat => (g : Int)) := fun _ =>
  ⟨G, 0, rfl, lt_of_block h, fun i hi => by
    rw [List.length_map] at hi
    rw [Nat.zero_add, List.getElem_map]
    exact lit_cell h (by simp [hi])⟩
theorem vw_row {α : Type} {S : Shp α} {w : World} {B : Nat} {xs : List α} {t : TypeId} (h : w.heap[B]? = some (.cells (S.row xs).toArray t (0, 0))) : Vw S w (some ⟨B, 0, none⟩) xs :=
  ⟨fun _ => ⟨B, 0, rfl, lt_of_block h, fun i hi j u hu => by
    have hj : j < S.n := by have := (List.getElem?_eq_some_iff.1 hu).1; rwa [S.len] at this
    rw [Nat.zero_add]
    refine lit_cell h ?_
    rw [List.getElem?_toArray, row_get xs i hi j hj]
    exact hu⟩⟩
theorem claimR_any {w : World} (g : Int) {al : Option Addr} {cap n : Nat} {us : List Ur} {rs : List Rr} (h : Rrv w al rs) (he : rs.map (·.1) = us.map Ur.ui) (ok : ∀ u ∈ us, Okt u) (hn : us.length = n) (hm : n ≤ 800) :
    Calls Try.prog 9 #[.int .i64 g, .slice al n cap] w fun e w' => ∃ a' c', e = .returned (.agg #[.int .i64 g, .slice a' (encL (mkC (tsR us))).length c']) ∧ Ob w' w.heap.size (.slice a' (encL (mkC (tsR us))).length c') (encL (mkC (tsR us))) ∧ Kept (fun _ => True) w w' := by
  have hl : rs.length = n := by
    have := congrArg List.length he
    rw [List.length_map, List.length_map] at this
    omega
  have key : ∀ r ∈ rs, ∃ u ∈ us, r.1 = u.ui := fun r hr => by
    have h1 : r.1 ∈ us.map Ur.ui := by rw [← he]; exact List.mem_map_of_mem hr
    obtain ⟨u, hu, e⟩ := List.mem_map.1 h1
    exact ⟨u, hu, e.symm⟩
  have hts : (rs.map fun r => encU r.1) = tsR us := by
    have h1 : (rs.map fun r => encU r.1) = (rs.map (·.1)).map encU := by rw [List.map_map]; rfl
    rw [h1, he, List.map_map]
    exact List.map_congr_left fun u hu => encU_nat (ok u hu)
  have := claim_any (cap := cap) g h (by omega) (fun r hr => by
    obtain ⟨u, hu, e⟩ := key r hr
    rw [e]
    have h1 := (ok u hu).t
    have h2 := (ok u hu).b
    show u.tx.length + u.bd.length ≤ _
    omega) (fun r hr => by
    obtain ⟨u, hu, e⟩ := key r hr
    rw [e]
    have h1 := (ok u hu).n
    show (u.gs.map _).length ≤ _
    rw [List.length_map]
    omega)
  rw [hts, hl] at this
  exact this
theorem new2 (w : World) (o1 o2 : Obj) : ((w.alloc o1).alloc o2).heap[w.heap.size]? = some o1 ∧ ((w.alloc o1).alloc o2).heap[w.heap.size + 1]? = some o2 := by
  refine ⟨alloc_old _ (heap_alloc_new w _), ?_⟩
  have := heap_alloc_new (w.alloc o1) o2
  rwa [heap_size_alloc] at this
theorem new3 (w : World) (o1 o2 o3 : Obj) : (((w.alloc o1).alloc o2).alloc o3).heap[w.heap.size]? = some o1 ∧ (((w.alloc o1).alloc o2).alloc o3).heap[w.heap.size + 1]? = some o2 ∧ (((w.alloc o1).alloc o2).alloc o3).heap[w.heap.size + 1 + 1]? = some o3 := by
  refine ⟨alloc_old _ (new2 w o1 o2).1, alloc_old _ (new2 w o1 o2).2, ?_⟩
  have := heap_alloc_new ((w.alloc o1).alloc o2) o3
  rwa [heap_size_alloc, heap_size_alloc] at this
set_option maxRecDepth 100000 in
set_option maxHeartbeats 4000000 in
theorem known_any (w : World) : Calls Try.prog 16 #[] w fun e w' => e = .returned (.bool true) ∧ Kept (fun _ => True) w w' := by
  have CV0 : ∀ W, Calls Try.prog 10 #[.slice none 0 0] W fun e w' => e = .returned (.tuple #[.agg #[.int .i64 0, .int .i64 0, .int .i64 0], .bool true]) ∧ Kept (fun _ => True) W w' := fun W => by
    refine (verify_any (w := W) (al := none) (cap := 0) (cs := []) ⟨Vw.nil _ _, fun _ h => by simp at h, fun _ h => by simp at h, fun _ h => by simp at h⟩ (by simp)).mono ?_
    rintro e w' ⟨pq, hp, he, k⟩
    exact ⟨ver_none hp he, k⟩
  obtain ⟨E1, hE1⟩ : ∃ E1, E1 = encL (mkC (tsR [rP, rC])) := ⟨_, rfl⟩
  obtain ⟨E2, hE2⟩ : ∃ E2, E2 = encL (mkC (tsR [rA])) := ⟨_, rfl⟩
  have l1 : (E1.length : Int) ≤ 140737488355328 := by
    have h1 := wgt_few (M := 4000) (mkC (tsR [rP, rC])) (fun x hx => by
      have : x.t ∈ txs (mkC (tsR [rP, rC])) := List.mem_map.2 ⟨x, hx, rfl⟩
      rw [txs_mkC] at this
      exact tsR_short okPC (by decide) _ this)
    rw [mkC_length] at h1
    rw [hE1, encL_len]
    simp only [tsR, List.length_map, List.length_cons, List.length_nil] at *
    omega
  have l2 : (E2.length : Int) ≤ 140737488355328 := by
    have h1 := wgt_few (M := 4000) (mkC (tsR [rA])) (fun x hx => by
      have : x.t ∈ txs (mkC (tsR [rA])) := List.mem_map.2 ⟨x, hx, rfl⟩
      rw [txs_mkC] at this
      exact tsR_short okA1 (by decide) _ this)
    rw [mkC_length] at h1
    rw [hE2, encL_len]
    simp only [tsR, List.length_map, List.length_cons, List.length_nil] at *
    omega
  have CC1 : ∀ (W : World) (R G H : Nat), W.heap[G]? = some (.cells #[.int .i64 0, .int .i64 1] 3 (0, 0)) → W.heap[H]? = some (.cells #[.int .i64 0, .int .i64 1] 3 (0, 0)) → W.heap[R]? = some (.cells #[.int .i64 2, .string ⟨#[116]⟩, .slice (some ⟨G, 0, none⟩) 2 2, .string ⟨#[]⟩, .int .i64 3, .string ⟨#[116]⟩, .slice (some ⟨H, 0, none⟩) 2 2, .string ⟨#[]⟩] 24 (0, 0)) →
      Calls Try.prog 9 #[.int .i64 0, .slice (some ⟨R, 0, none⟩) 2 2] W fun e w' => ∃ a' c', e = .returned (.agg #[.int .i64 0, .slice a' E1.length c']) ∧ Ob w' W.heap.size (.slice a' E1.length c') E1 ∧ Kept (fun _ => True) W w' := fun W R G H hG hH hR => by
    have := claimR_any (w := W) (al := some ⟨R, 0, none⟩) (cap := 2) (us := [rP, rC]) (rs := [(rP.ui, (some ⟨G, 0, none⟩, 2)), (rC.ui, (some ⟨H, 0, none⟩, 2))]) 0 ⟨vw_row hR, fun r hr => by
      simp only [List.mem_cons, List.not_mem_nil, or_false] at hr
      rcases hr with rfl | rfl
      · exact gi_row (gs := [0, 1]) hG
      · exact gi_row (gs := [0, 1]) hH⟩ rfl okPC rfl (by decide)
    rwa [← hE1] at this
  have CC2 : ∀ (W : World) (R G : Nat), W.heap[G]? = some (.cells #[.int .i64 0, .int .i64 1] 3 (0, 0)) → W.heap[R]? = some (.cells #[.int .i64 4, .string ⟨#[116]⟩, .slice (some ⟨G, 0, none⟩) 2 2, .string ⟨#[]⟩] 24 (0, 0)) →
      Calls Try.prog 9 #[.int .i64 1, .slice (some ⟨R, 0, none⟩) 1 1] W fun e w' => ∃ a' c', e = .returned (.agg #[.int .i64 1, .slice a' E2.length c']) ∧ Ob w' W.heap.size (.slice a' E2.length c') E2 ∧ Kept (fun _ => True) W w' := fun W R G hG hR => by
    have := claimR_any (w := W) (al := some ⟨R, 0, none⟩) (cap := 1) (us := [rA]) (rs := [(rA.ui, (some ⟨G, 0, none⟩, 2))]) 1 ⟨vw_row hR, fun r hr => by
      rw [List.mem_singleton.1 hr]
      exact gi_row (gs := [0, 1]) hG⟩ rfl okA1 rfl (by decide)
    rwa [← hE2] at this
  have CV2 : ∀ (W : World) (L : Nat) (a1 a2 : Option Addr) (c1 c2 : Nat), Has W a1 E1 → Has W a2 E2 → W.heap[L]? = some (.cells #[.int .i64 0, .slice a1 E1.length c1, .int .i64 1, .slice a2 E2.length c2] 27 (0, 0)) →
      Calls Try.prog 10 #[.slice (some ⟨L, 0, none⟩) 2 2] W fun e w' => e = .returned (.tuple #[.agg #[.int .i64 5, .int .i64 0, .int .i64 1], .bool false]) ∧ Kept (fun _ => True) W w' := fun W L a1 a2 c1 c2 h1 h2 hL => by
    refine (verify_any (w := W) (al := some ⟨L, 0, none⟩) (cap := 2) (cs := [⟨0, E1, a1, c1⟩, ⟨1, E2, a2, c2⟩]) ⟨vw_row hL, fun c hc => ?_, fun c hc => ?_, fun c hc => ?_⟩ (by simp)).mono ?_
    · simp only [List.mem_cons, List.not_mem_nil, or_false] at hc
      rcases hc with rfl | rfl
      · exact h1
      · exact h2
    · simp only [List.mem_cons, List.not_mem_nil, or_false] at hc
      rcases hc with rfl | rfl
      · exact l1
      · exact l2
    · simp only [List.mem_cons, List.not_mem_nil, or_false] at hc
      rcases hc with rfl | rfl
      · exact (by unfold Fits; decide : Fits 0)
      · exact (by unfold Fits; decide : Fits 1)
    · rintro e w' ⟨pq, hp, he, k⟩
      exact ⟨ver_two (c := ⟨0, E1, a1, c1⟩) (d := ⟨1, E2, a2, c2⟩) rfl hE1 rfl hE2 hp he, k⟩
  have CV1 : ∀ (W : World) (L : Nat) (a1 a2 : Option Addr) (c1 c2 : Nat), Has W a1 E1 → W.heap[L]? = some (.cells #[.int .i64 0, .slice a1 E1.length c1, .int .i64 1, .slice a2 E2.length c2] 27 (0, 0)) →
      Calls Try.prog 10 #[.slice (some ⟨L, 0, none⟩) 1 2] W fun e w' => e = .returned (.tuple #[.agg #[.int .i64 0, .int .i64 0, .int .i64 0], .bool true]) ∧ Kept (fun _ => True) W w' := fun W L a1 a2 c1 c2 h1 hL => by
    have hv : Vw claimS W (some ⟨L, 0, none⟩) ([⟨0, E1, a1, c1⟩] : List Uc) := ⟨fun _ => ⟨L, 0, rfl, lt_of_block hL, fun i hi j u hu => by
      obtain rfl : i = 0 := by simpa using hi
      exact lit_cell hL (by
        simp only [List.getElem_cons_zero, claimS, ccell] at hu
        match j, hu with
        | 0, hu => simpa using hu
        | 1, hu => simpa using hu
        | j + 2, hu => simp at hu)⟩⟩
    refine (verify_any (w := W) (al := some ⟨L, 0, none⟩) (cap := 2) (cs := [⟨0, E1, a1, c1⟩]) ⟨hv, fun c hc => ?_, fun c hc => ?_, fun c hc => ?_⟩ (by simp)).mono ?_
    · rw [List.mem_singleton.1 hc]
      exact h1
    · rw [List.mem_singleton.1 hc]
      exact l1
    · rw [List.mem_singleton.1 hc]
      exact (by unfold Fits; decide : Fits 0)
    · rintro e w' ⟨pq, hp, he, k⟩
      exact ⟨ver_one (c := ⟨0, E1, a1, c1⟩) rfl hE1 hp he, k⟩
  clear hE1 hE2 l1 l2
  go_enter Try.func16, Try.ntmps16
  go_upto_region 2 with (go_at_call 10; (with_reducible refine Calls.mono (CV0 _) ?_); rintro e w1 ⟨rfl, k1⟩)
  have F2 : Hid (Bk (w1.alloc (.cells #[.int .i64 0, .int .i64 0, .int .i64 0] 33)) w1.heap.size 33 [.int .i64 0, .int .i64 0, .int .i64 0]) := heap_alloc_new w1 _
  have K2 : Hid (Kept (fun _ => True) w (w1.alloc (.cells #[.int .i64 0, .int .i64 0, .int .i64 0] 33))) := k1.alloc _
  clear k1 CV0
  generalize w1.heap.size = P1 at *
  generalize w1.alloc (.cells #[.int .i64 0, .int .i64 0, .int .i64 0] 33) = w2 at *
  obtain ⟨q0, q1, q2⟩ := new3 w2 (.cells #[.int .i64 0, .int .i64 1] 3) (.cells #[.int .i64 0, .int .i64 1] 3) (.cells #[.int .i64 2, .string ⟨#[116]⟩, .slice (some ⟨w2.heap.size, 0, none⟩) 2 2, .string ⟨#[]⟩, .int .i64 3, .string ⟨#[116]⟩, .slice (some ⟨w2.heap.size + 1, 0, none⟩) 2 2, .string ⟨#[]⟩] 24)
  have C1 := CC1 _ _ _ _ q0 q1 q2
  clear CC1 q0 q1 q2
  go_upto_region 3 with (first
    | (go_at_call 9; (with_reducible refine Calls.mono C1 ?_); rintro e w3 ⟨a3, c3, rfl, h3, k3⟩; have K3 : Hid (Kept (fun _ => True) w2 w3) := ((((Kept.refl _ _).alloc _).alloc _).alloc _).trans k3; have H3 : Hid (Has w3 a3 E1) := own_has h3; obtain ⟨q0, q1⟩ := new2 w3 (.cells #[.int .i64 0, .int .i64 1] 3) (.cells #[.int .i64 4, .string ⟨#[116]⟩, .slice (some ⟨w3.heap.size, 0, none⟩) 2 2, .string ⟨#[]⟩] 24); have C2 := CC2 _ _ _ q0 q1; clear CC2 q0 q1 h3 k3 C1)
    | (go_at_call 9; (with_reducible refine Calls.mono C2 ?_); rintro e w4 ⟨a4, c4, rfl, h4, k4⟩; have K4 : Hid (Kept (fun _ => True) w3 w4) := (((Kept.refl _ _).alloc _).alloc _).trans k4; have H4 : Hid (Has w4 a4 E2) := own_has h4; clear C2 h4 k4))
  have HL : Hid ((w4.alloc (.cells #[.int .i64 0, .slice a3 E1.length c3, .int .i64 1, .slice a4 E2.length c4] 27)).heap[w4.heap.size]? = some (.cells #[.int .i64 0, .slice a3 E1.length c3, .int .i64 1, .slice a4 E2.length c4] 27 (0, 0))) := heap_alloc_new w4 _
  have K5 : Hid (Kept (fun _ => True) w4 (w4.alloc (.cells #[.int .i64 0, .slice a3 E1.length c3, .int .i64 1, .slice a4 E2.length c4] 27))) := (Kept.refl _ _).alloc _
  generalize w4.heap.size = L at *
  generalize w4.alloc (.cells #[.int .i64 0, .slice a3 E1.length c3, .int .i64 1, .slice a4 E2.length c4] 27) = w5 at *
  have H31 : Hid (Has w5 a3 E1) := H3.out.kept (K4.out.trans K5.out) (fun _ _ => trivial)
  have H41 : Hid (Has w5 a4 E2) := H4.out.kept K5.out (fun _ _ => trivial)
  have C2 := CV2 w5 L a3 a4 c3 c4 H31.out H41.out HL.out
  clear CV2
  go_upto_region 4 with (go_at_call 10; (with_reducible refine Calls.mono C2 ?_); rintro e w6 ⟨rfl, k6⟩; have K6 : Hid (Kept (fun _ => True) w5 w6) := k6; clear C2)
  have F6 : Hid (Bk (w6.alloc (.cells #[.int .i64 5, .int .i64 0, .int .i64 1] 33)) w6.heap.size 33 [.int .i64 5, .int .i64 0, .int .i64 1]) := heap_alloc_new w6 _
  have K7 : Hid (Kept (fun _ => True) w5 (w6.alloc (.cells #[.int .i64 5, .int .i64 0, .int .i64 1] 33))) := K6.out.alloc _
  clear K6 k6
  generalize w6.heap.size = P6 at *
  generalize w6.alloc (.cells #[.int .i64 5, .int .i64 0, .int .i64 1] 33) = w7 at *
  have C1 := CV1 w7 L a3 a4 c3 c4 (H31.out.kept K7.out (fun _ _ => trivial)) ((K7.out.block L (lt_of_block HL.out) trivial).trans HL.out)
  clear CV1
  go_upto_region 5 with (go_at_call 10; (with_reducible refine Calls.mono C1 ?_); rintro e w8 ⟨rfl, k8⟩)
  have F8 : Bk (w8.alloc (.cells #[.int .i64 0, .int .i64 0, .int .i64 0] 33)) w8.heap.size 33 [.int .i64 0, .int .i64 0, .int .i64 0] := heap_alloc_new w8 _
  have k9 : Kept (fun _ => True) w7 (w8.alloc (.cells #[.int .i64 0, .int .i64 0, .int .i64 0] 33)) := k8.alloc _
  generalize w8.heap.size = P8 at *
  generalize w8.alloc (.cells #[.int .i64 0, .int .i64 0, .int .i64 0] 33) = w9 at *
  have F69 := F6.out.kept k9 trivial
  obtain ⟨f0, f1, f2⟩ := F8.three
  obtain ⟨g0, g1, g2⟩ := F69.three
  have KK : Hid (Kept (fun _ => True) w w9) := ((((K2.out.trans K3.out).trans K4.out).trans K5.out).trans K7.out).trans k9
  clear F8 F69 k8 k9 C1
  go_wp2_with fail
  go_ret
  exact ⟨rfl, KK.out⟩

end Go.Proofs.Ytmcaoimgmgjjiaa

namespace Go.Proofs.Ytmcaoimgmgjjiaa
open Go.RowKit Go.Maps Go.Sort

theorem snoc_ind {α : Type} {P : List α → Prop} (h0 : P []) (h1 : ∀ l x, P l → P (l ++ [x])) (l : List α) : P l := by
  have : ∀ m : List α, P m.reverse := fun m => by
    induction m with
    | nil => exact h0
    | cons x m ih => rw [List.reverse_cons]; exact h1 _ _ ih
  have h := this l.reverse
  rwa [List.reverse_reverse] at h
/-- What is told of tx, in words of the records. -/
structure TelIs (rs : List Ur) (tx : List UInt8) (t : Tl) : Prop where
  c : t.ks.c = true ↔ ∃ r ∈ rs, r.tx = tx ∧ r.k = 3
  a : t.ks.a = true ↔ ∃ r ∈ rs, r.tx = tx ∧ r.k = 4
  g : t.ks.c = true → ∃ r ∈ rs, r.tx = tx ∧ r.k = 3 ∧ r.gs = t.gs
  p : t.ap = true ↔ ∃ r ∈ rs, r.tx = tx ∧ r.k = 3 ∧ r.gs ≠ t.gs
theorem ex_snoc {rs : List Ur} {r : Ur} {P : Ur → Prop} : (∃ x ∈ rs ++ [r], P x) ↔ (∃ x ∈ rs, P x) ∨ P r := by
  constructor
  · rintro ⟨x, hx, h⟩
    rcases List.mem_append.1 hx with q | q
    · exact .inl ⟨x, q, h⟩
    · rw [List.mem_singleton.1 q] at h; exact .inr h
  · rintro (⟨x, hx, h⟩ | h)
    · exact ⟨x, List.mem_append_left _ hx, h⟩
    · exact ⟨r, by simp, h⟩
theorem tel_is (tx : List UInt8) (rs : List Ur) : TelIs rs tx (tel rs tx) := by
  refine snoc_ind (P := fun rs => TelIs rs tx (tel rs tx)) ?_ ?_ rs
  · exact ⟨by simp [tel, Tl.nil, K4.nil], by simp [tel, Tl.nil, K4.nil], fun h => by simp [tel, Tl.nil, K4.nil] at h, by simp [tel, Tl.nil]⟩
  · intro l r ih
    rw [tel_snoc]
    by_cases ht : r.tx = tx
    · rw [if_pos ht]
      obtain ⟨hc, ha, hg, hp⟩ := ih
      generalize tel l tx = t at *
      obtain ⟨⟨o, p, c, a⟩, gs, ap⟩ := t
      simp only at hc ha hg hp
      have nc : r.k = 3 ∧ c = false → ap = false := fun ⟨_, h⟩ => by
        cases hap : ap with
        | false => rfl
        | true =>
          obtain ⟨x, hx, h1, h2, _⟩ := hp.1 hap
          have := hc.2 ⟨x, hx, h1, h2⟩
          rw [h] at this; cases this
      refine ⟨?_, ?_, ?_, ?_⟩
      · rw [ex_snoc, ← hc]
        simp [Tl.step, K4.put, ht]
      · rw [ex_snoc, ← ha]
        simp [Tl.step, K4.put, ht]
      · intro h
        by_cases h3 : r.k = 3
        · by_cases hcf : c = false
          · exact ⟨r, by simp, ht, h3, by simp [Tl.step, h3, hcf]⟩
          · have hct : c = true := by simpa using hcf
            obtain ⟨x, hx, q⟩ := hg hct
            exact ⟨x, List.mem_append_left _ hx, by simpa [Tl.step, hct] using q⟩
        · have hct : c = true := by simpa [Tl.step, K4.put, h3] using h
          obtain ⟨x, hx, q⟩ := hg hct
          exact ⟨x, List.mem_append_left _ hx, by simpa [Tl.step, h3] using q⟩
      · rw [ex_snoc]
        by_cases h3 : r.k = 3
        · by_cases hcf : c = false
          · have := nc ⟨h3, hcf⟩
            subst this hcf
            simp only [Tl.step, h3, ht, and_self, if_true, true_and, ne_eq, not_true, or_false, Bool.false_eq_true, false_and, if_false, false_iff]
            rintro ⟨x, hx, h1, h2, _⟩
            have := hc.2 ⟨x, hx, h1, h2⟩
            cases this
          · have hct : c = true := by simpa using hcf
            subst hct
            by_cases hgs : gs = r.gs
            · subst hgs
              simp only [Tl.step, h3, ht, Bool.true_eq_false, and_false, if_false, ne_eq, not_true, or_false]
              exact hp
            · simp only [Tl.step, h3, ht, Bool.true_eq_false, and_false, if_false, true_and, ne_eq, hgs, not_false_eq_true, and_self, if_true, true_iff]
              exact .inr (fun q => hgs q.symm)
        · simp only [Tl.step, h3, false_and, if_false, and_false, or_false]
          exact hp
    · rw [if_neg ht]
      obtain ⟨hc, ha, hg, hp⟩ := ih
      have no : ∀ P : Ur → Prop, (∃ x ∈ l ++ [r], x.tx = tx ∧ P x) ↔ ∃ x ∈ l, x.tx = tx ∧ P x := fun P => by
        rw [ex_snoc]
        exact or_iff_left (fun q => ht q.1)
      refine ⟨?_, ?_, ?_, ?_⟩
      · rw [no]; exact hc
      · rw [no]; exact ha
      · intro h
        obtain ⟨x, hx, q⟩ := hg h
        exact ⟨x, List.mem_append_left _ hx, q⟩
      · rw [no]; exact hp
theorem tel_apart (rs : List Ur) (tx : List UInt8) : (tel rs tx).ap = true ↔ ∃ r ∈ rs, ∃ r' ∈ rs, r.tx = tx ∧ r'.tx = tx ∧ r.k = 3 ∧ r'.k = 3 ∧ r.gs ≠ r'.gs := by
  have h := tel_is tx rs
  rw [h.p]
  constructor
  · rintro ⟨r, hr, h1, h2, h3⟩
    obtain ⟨r', hr', q1, q2, q3⟩ := h.g (h.c.2 ⟨r, hr, h1, h2⟩)
    exact ⟨r, hr, r', hr', h1, q1, h2, q2, by rw [q3]; exact h3⟩
  · rintro ⟨r, hr, r', hr', h1, h2, h3, h4, h5⟩
    by_cases q : r.gs = (tel rs tx).gs
    · exact ⟨r', hr', h2, h4, fun e => h5 (q.trans e.symm)⟩
    · exact ⟨r, hr, h1, h3, q⟩

/-- The entries of records. -/
def entM (rs : List Ur) : List Ue := entO (rs.map some) []
theorem entM_recs (rs : List Ur) : (entM rs).map (·.r) = rs := by
  have := entO_some rs []
  unfold entM
  simpa using this
/-- Pages of groups and records. -/
structure Pq (gr : List (Int × List Ur)) (pq : List (Up × Ua)) : Prop where
  len : pq.length = gr.length
  md : ∀ i (h1 : i < pq.length) (h2 : i < gr.length), MdP gr[i].1 gr[i].2 pq[i].1
def flat (gr : List (Int × List Ur)) : List Ur := gr.flatMap (·.2)
theorem Pq.all {gr : List (Int × List Ur)} {pq : List (Up × Ua)} (h : Pq gr pq) : allR (pq.map (·.1)) = flat gr := by
  unfold allR flat
  rw [List.flatMap_def, List.flatMap_def]
  congr 1
  refine List.ext_getElem (by simp [h.len]) fun i h1 h2 => ?_
  simp only [List.length_map] at h1 h2
  simp only [List.getElem_map]
  exact (h.md i h1 h2).recs
/-- No Commit beside an Abort of one transaction; no two Commits of one with unlike groups. -/
def Cross (rs : List Ur) : Prop := ∀ r ∈ rs, ∀ r' ∈ rs, r.tx = r'.tx → r.k = 3 → r'.k ≠ 4 ∧ (r'.k = 3 → r.gs = r'.gs)
/-- What rules 4, 6 and the end of 7 ask of one claim. -/
def Alone (p : Int × List Ur) : Prop := (∀ x ∈ entM p.2, g4 x = false ∧ g6 x = false) ∧ ∀ r ∈ p.2, r.k = 3 → (r.gs.any fun y => decide ((y : Int) = p.1)) = true
end Go.Proofs.Ytmcaoimgmgjjiaa

namespace Go.Proofs.Ytmcaoimgmgjjiaa
open Go.RowKit

/-- A record that tame made. -/
structure Tme (r : Ur) : Prop where
  k : (r.k = 1 ∧ r.tx = []) ∨ ((r.k = 2 ∨ r.k = 3 ∨ r.k = 4) ∧ (r.tx = [116] ∨ r.tx = [117]))
  g : r.gs = [0, 1] ∨ r.gs = [0] ∨ r.gs = [0, 1, 2]
  b : r.bd = []
theorem Tme.f {r : Ur} (h : Tme r) : fmd r = true := by
  obtain ⟨k, tx, gs, bd⟩ := r
  obtain ⟨hk, hg, hb⟩ := h
  simp only at *
  rcases hk with ⟨rfl, rfl⟩ | ⟨rfl | rfl | rfl, rfl | rfl⟩ <;> rcases hg with rfl | rfl | rfl <;> rfl
end Go.Proofs.Ytmcaoimgmgjjiaa

namespace Go.Proofs.Ytmcaoimgmgjjiaa
open Go.RowKit

theorem Tme.ok {r : Ur} (h : Tme r) : Okt r := by
  refine ⟨h.f, ?_, ?_, ?_, ?_⟩
  · rcases h.k with ⟨_, q⟩ | ⟨_, q | q⟩ <;> rw [q] <;> decide
  · rcases h.g with q | q | q <;> rw [q] <;> decide
  · rcases h.g with q | q | q <;> rw [q] <;> decide
  · rw [h.b]; decide
/-- With a byte more, or one less, it is none. -/
theorem Tme.more {r : Ur} (h : Tme r) : rec? (encR r ++ [120]) = none := by
  obtain ⟨k, tx, gs, bd⟩ := r
  obtain ⟨hk, hg, hb⟩ := h
  simp only at *
  subst hb
  rcases hk with ⟨rfl, rfl⟩ | ⟨rfl | rfl | rfl, rfl | rfl⟩ <;> rcases hg with rfl | rfl | rfl <;> kernel_rfl
theorem Tme.less {r : Ur} (h : Tme r) : rec? ((encR r).take ((encR r).length - 1)) = none := by
  obtain ⟨k, tx, gs, bd⟩ := r
  obtain ⟨hk, hg, hb⟩ := h
  simp only at *
  subst hb
  rcases hk with ⟨rfl, rfl⟩ | ⟨rfl | rfl | rfl, rfl | rfl⟩ <;> rcases hg with rfl | rfl | rfl <;> kernel_rfl

theorem Gv.gi {w : World} {a : Option Addr} {gs : List Nat} (h : Gv w a gs) : Gi w a (gs.map fun g : Nat => (g : Int)) := fun h0 => by
  rw [List.length_map] at h0
  obtain ⟨b, off, e, hb, hc⟩ := h h0
  refine ⟨b, off, e, hb, fun i hi => ?_⟩
  rw [List.length_map] at hi
  rw [hc i hi, List.getElem_map]
theorem Tme.len {r : Ur} (h : Tme r) : (encR r).length ≤ 20 ∧ 10 ≤ (encR r).length := by
  rw [encR_len, h.b]
  have h1 : r.tx.length ≤ 1 := by rcases h.k with ⟨_, q⟩ | ⟨_, q | q⟩ <;> rw [q] <;> decide
  have h2 : r.gs.length ≤ 3 := by rcases h.g with q | q | q <;> rw [q] <;> decide
  simp only [List.length_nil]
  omega
end Go.Proofs.Ytmcaoimgmgjjiaa

namespace Go.Proofs.Ytmcaoimgmgjjiaa
open Go.RowKit Go.Maps Go.Sort

/-- A tamed record, and where its groups lie. -/
abbrev Ut := Ur × (Option Addr × Nat)
def rrU (p : Ut) : Rr := (p.1.ui, p.2)
structure Rws (w : World) (b : Nat) (v : Value) (xs : List Ut) : Prop where
  ow : Ow recS 24 w b v (xs.map rrU)
  its : ∀ p ∈ xs, Its w b (.slice p.2.1 p.1.gs.length p.2.2) p.1.gs
  tm : ∀ p ∈ xs, Tme p.1
theorem Rws.nil (w : World) (b : Nat) : Rws w b (.slice none 0 0) [] := ⟨Ow.nil _ _ _, (fun _ h => by cases h), fun _ h => by cases h⟩
section
variable {w w' : World} {b : Nat} {v : Value} {xs : List Ut}
theorem Rws.all (h : Rws w b v xs) (k : Kept (fun _ => True) w w') : Rws w' b v xs := ⟨h.ow.all k, fun p hp => (h.its p hp).kept k (fun _ _ => trivial), h.tm⟩
theorem Rws.shape (h : Rws w b v xs) : ∃ a c, v = .slice a xs.length c ∧ xs.length ≤ c ∧ (a = none → c = 0) := by
  obtain ⟨a, c, e, h1, _, h2⟩ := h.ow.shape
  rw [List.length_map] at e h1
  exact ⟨a, c, e, h1, h2⟩
theorem Rws.step {n c M : Nat} {ao a' : Option Addr} {c' : Nat} {o : Obj} (h : Rws w b (.slice ao n c) xs) (p : Ut) (hp : Tme p.1) (hi : Its w b (.slice p.2.1 p.1.gs.length p.2.2) p.1.gs) (ho : Ow recS 24 w' b (.slice a' M c') (xs.map rrU ++ [rrU p])) (hg : (w.alloc o).grownBy w' (Value.slice ao n c).ownBlock) : Rws w' b (.slice a' M c') (xs ++ [p]) := by
  have k : Kept (fun x => (Value.slice ao n c).ownBlock ≠ some x) w w' := ((Kept.refl _ _).alloc _).grown hg (fun x _ e h => h e)
  have far : ∀ q : Ut, Its w b (.slice q.2.1 q.1.gs.length q.2.2) q.1.gs → Its w' b (.slice q.2.1 q.1.gs.length q.2.2) q.1.gs := fun q hq => hq.kept k (fun x hx => by
    rcases hq.2 with ⟨e, _⟩ | ⟨g, cap, cur, e, _, hgb, _⟩
    · rw [e] at hx; cases hx
    · rw [e] at hx
      cases hx
      exact h.ow.ne hgb (by decide))
  refine ⟨by rw [List.map_append]; exact ho, fun q hq => ?_, fun q hq => ?_⟩
  · rcases List.mem_append.1 hq with q1 | q1
    · exact far q (h.its q q1)
    · rw [List.mem_singleton.1 q1]; exact far p hi
  · rcases List.mem_append.1 hq with q1 | q1
    · exact h.tm q q1
    · rw [List.mem_singleton.1 q1]; exact hp
end
theorem Rrv.take {w : World} {a : Option Addr} {rs : List Rr} (h : Rrv w a rs) (k : Nat) : Rrv w a (rs.take k) := by
  refine ⟨⟨fun h0 => ?_⟩, fun r hr => h.gi r (List.mem_of_mem_take hr)⟩
  rw [List.length_take] at h0
  obtain ⟨b, off, e, hb, hc⟩ := h.vw.row (by omega)
  refine ⟨b, off, e, hb, fun i hi => ?_⟩
  rw [List.length_take] at hi
  rw [List.getElem_take]
  exact hc i (by omega)
theorem entO_append (ys : List (Option Ur)) : ∀ (xs : List Ur) (es : List Ue), entO (xs.map some ++ ys) es = entO ys (entO (xs.map some) es)
  | [], es => rfl
  | x :: xs, es => by
    show entO (xs.map some ++ ys) _ = entO ys (entO (xs.map some) _)
    rw [entO_append ys xs]
theorem entO_pre : ∀ (os : List (Option Ur)) (es : List Ue), ∃ t, entO os es = es ++ t
  | [], es => ⟨[], by simp [entO]⟩
  | none :: _, es => ⟨[], by simp [entO]⟩
  | some r :: os, es => by
    obtain ⟨t, ht⟩ := entO_pre os (es ++ [⟨r, kin es r.tx⟩])
    exact ⟨[⟨r, kin es r.tx⟩] ++ t, by show entO os _ = _; rw [ht, List.append_assoc]⟩
theorem entM_take {rs : List Ur} {i : Nat} {x : Ue} (h : x ∈ entM (rs.take i)) : x ∈ entM rs := by
  have e : entM rs = entO ((rs.drop i).map some) (entM (rs.take i)) := by
    unfold entM
    rw [← entO_append, ← List.map_append, List.take_append_drop]
  obtain ⟨t, ht⟩ := entO_pre ((rs.drop i).map some) (entM (rs.take i))
  rw [e, ht]
  exact List.mem_append_left _ h
theorem Alone.take {g : Int} {rs : List Ur} (h : Alone (g, rs)) (i : Nat) : Alone (g, rs.take i) :=
  ⟨fun x hx => h.1 x (entM_take hx), fun r hr => h.2 r (List.mem_of_mem_take hr)⟩
theorem Cross.sub {rs ss : List Ur} (h : Cross rs) (hs : ∀ r ∈ ss, r ∈ rs) : Cross ss := fun r hr r' hr' => h r (hs r hr) r' (hs r' hr')
theorem rdL_made {rs : List Ur} (ok : ∀ r ∈ rs, Okt r) : rdL (mkC (tsR rs)) = rs := by
  unfold rdL tsR
  rw [txs_mkC]
  induction rs with
  | nil => rfl
  | cons r rs ih =>
    rw [List.map_cons, List.filterMap_cons, (ok r (by simp)).back, ih (fun x hx => ok x (List.mem_cons_of_mem _ hx))]
/-- These claims are made of these records. -/
structure Mds (cs : List Uc) (gr : List (Int × List Ur)) : Prop where
  len : cs.length = gr.length
  g : ∀ i (h1 : i < cs.length) (h2 : i < gr.length), cs[i].g = gr[i].1
  b : ∀ i (h1 : i < cs.length) (h2 : i < gr.length), cs[i].bs = encL (mkC (tsR gr[i].2))
  ok : ∀ p ∈ gr, ∀ r ∈ p.2, Okt r
  sh : ∀ p ∈ gr, ∀ r ∈ p.2, r.tx.length + r.bd.length ≤ 3000
  few : ∀ p ∈ gr, p.2.length ≤ 4096
theorem Mds.pq {cs : List Uc} {gr : List (Int × List Ur)} {pq : List (Up × Ua)} (h : Mds cs gr) (hp : Pgs cs (pq.map (·.1))) : Pq gr pq := by
  have hl := hp.len
  rw [List.length_map] at hl
  refine ⟨by rw [hl, h.len], fun i h1 h2 => ?_⟩
  have h3 : i < cs.length := by rw [h.len]; exact h2
  have := md_page hp i (by rw [List.length_map]; exact h1) h3 (h.b i h3 h2) (h.ok _ (List.getElem_mem h2)) (h.sh _ (List.getElem_mem h2)) (h.few _ (List.getElem_mem h2))
  rw [List.getElem_map, h.g i h3 h2] at this
  exact this
theorem Mds.out {cs : List Uc} {gr : List (Int × List Ur)} {lss : List (List Li)} (h : Mds cs gr) (hd : Dcs cs lss) : outR lss = flat gr := by
  unfold outR flat
  rw [List.flatMap_def, List.flatMap_def]
  congr 1
  refine List.ext_getElem (by simp [hd.len, h.len]) fun i h1 h2 => ?_
  simp only [List.length_map] at h1 h2
  simp only [List.getElem_map]
  have h3 : i < cs.length := by rw [h.len]; exact h2
  obtain ⟨y, z, hdd⟩ := hd.dec i h1 h3
  rw [h.b i h3 h2] at hdd
  have := (dec_made hdd (by have := h.few _ (List.getElem_mem h2); simpa [tsR] using this) (tsR_short (h.ok _ (List.getElem_mem h2)) (h.sh _ (List.getElem_mem h2)))).1
  rw [this]
  exact rdL_made (h.ok _ (List.getElem_mem h2))
end Go.Proofs.Ytmcaoimgmgjjiaa
