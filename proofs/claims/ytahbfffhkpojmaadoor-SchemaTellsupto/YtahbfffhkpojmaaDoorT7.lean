/-
  Read.
-/
import Derived.Test.YtahbfffhkpojmaaDoorT6
namespace Go.Proofs.YtahbfffhkpojmaaDoor
open Go.RowKit

theorem rdA_len {s : List UInt8} {a : At} (h : rdA s = some a) : a.name.length ≤ s.length := by
  unfold rdA at h
  split at h
  · cases h
    exact (wrd_len s).1
  · cases h
theorem rdR_len {s : List UInt8} {r : Ru} (h : rdR s = some r) : r.name.length ≤ s.length ∧ r.guard.length ≤ s.length := by
  unfold rdR at h
  split at h
  · cases h
  · cases h
    exact wrd_len s
theorem spl_len (s : List UInt8) : (spl s).1.length ≤ s.length ∧ ∀ p ∈ (spl s).2, p.length ≤ s.length := by
  induction s with
  | nil => simp [spl]
  | cons c r ih =>
    unfold spl
    split
    · refine ⟨by simp, fun p hp => ?_⟩
      rcases List.mem_cons.1 hp with rfl | hp
      · simp; omega
      · have := ih.2 p hp
        simp; omega
    · refine ⟨by simp; omega, fun p hp => ?_⟩
      have := ih.2 p hp
      simp; omega
theorem par_sz {t u : Ty} {p : List UInt8} (h : par t p = some u) (ht : Tsz t) (hp : p.length ≤ 281474976710656) : Tsz u := by
  have l1 := trim_len p 32
  have l2 := wrd_len (Lib.trimB p 32)
  unfold par par0 at h
  split at h
  · obtain ⟨a, ha, rfl⟩ := Option.map_eq_some_iff.1 h
    have := rdA_len ha
    refine ⟨ht.name, fun x hx => ?_, ht.stages, ht.marks⟩
    rcases List.mem_append.1 hx with hx | hx
    · exact ht.attrs x hx
    · rw [List.mem_singleton.1 hx]; omega
  · split at h
    · obtain ⟨a, ha, rfl⟩ := Option.map_eq_some_iff.1 h
      have := rdR_len ha
      refine ⟨ht.name, ht.attrs, fun x hx => ?_, ht.marks⟩
      rcases List.mem_append.1 hx with hx | hx
      · exact ht.stages x hx
      · rw [List.mem_singleton.1 hx]; omega
    · split at h
      · obtain ⟨a, ha, rfl⟩ := Option.map_eq_some_iff.1 h
        have := rdR_len ha
        refine ⟨ht.name, ht.attrs, ht.stages, fun x hx => ?_⟩
        rcases List.mem_append.1 hx with hx | hx
        · exact ht.marks x hx
        · rw [List.mem_singleton.1 hx]; omega
      · cases h
theorem rdp_sz {ps : List (List UInt8)} (hp : ∀ p ∈ ps, p.length ≤ 281474976710656) : ∀ {t u : Ty} {k : Nat}, rdp t k ps = .inr u → Tsz t → Tsz u := by
  induction ps with
  | nil => intro t u k h ht; cases h; exact ht
  | cons p ps ih =>
    intro t u k h ht
    unfold rdp at h
    cases hq : par t p with
    | none => rw [hq] at h; cases h
    | some x =>
      rw [hq] at h
      exact ih (fun p hp' => hp p (List.mem_cons_of_mem _ hp')) h (par_sz hq ht (hp p (List.mem_cons_self ..)))
theorem rd_sz {s : List UInt8} {t : Ty} (h : rd s = .inr t) (hs : s.length ≤ 281474976710656) : Tsz t := by
  obtain ⟨h1, h2⟩ := spl_len s
  unfold rd at h
  cases hf : fst1 (spl s).1 with
  | none => rw [hf] at h; cases h
  | some n =>
    rw [hf] at h
    refine rdp_sz (fun p hp => ?_) h ⟨?_, fun _ h => by simp at h, fun _ h => by simp at h, fun _ h => by simp at h⟩
    · have := h2 p hp; omega
    · unfold fst1 fst0 at hf
      split at hf
      · cases hf
        have l1 := trim_len (spl s).1 32
        have l2 := wrd_len (Lib.trimB (spl s).1 32)
        have l3 := wrd_len (wrd (Lib.trimB (spl s).1 32)).2
        show (wrd (wrd (Lib.trimB (spl s).1 32)).2).1.length ≤ _
        omega
      · cases hf
theorem Tsz.cap {t : Ty} (h : Tsz t) : Tsz (cap7 t) :=
  ⟨h.name, fun a ha => h.attrs a (List.mem_of_mem_take ha), fun a ha => h.stages a (List.mem_of_mem_take ha), fun a ha => h.marks a (List.mem_of_mem_take ha)⟩
theorem TyV.parts {w : World} {v : Value} {t : Ty} (h : TyV w v t) : ∃ ao an ac so sn sc mo mn mc, v = .agg #[.string ⟨t.name.toArray⟩, .slice ao an ac, .slice so sn sc, .slice mo mn mc] := by
  obtain ⟨va, vs, vm, rfl, h1, h2, h3⟩ := h
  obtain ⟨ao, ac, rfl, _⟩ := h1.form
  obtain ⟨so, sc, rfl, _⟩ := h2.form
  obtain ⟨mo, mc, rfl, _⟩ := h3.form
  exact ⟨_, _, _, _, _, _, _, _, _, rfl⟩

set_option maxRecDepth 100000 in
set_option maxHeartbeats 4000000 in
theorem reads_any {w : World} (s : List UInt8) (hs : s.length ≤ 281474976710656) :
    Calls Tryd.prog 7 #[.string ⟨s.toArray⟩] w fun e w' => ∃ v, e = .returned (.tuple #[v, .int .i64 ((read s).2.1 : Nat), .int .i64 ((read s).2.2 : Nat)]) ∧ TyV w' v (read s).1 ∧ Kept (fun _ => True) w w' := by
  have c1 := fun W => readParts_any (w := W) s hs
  obtain ⟨C, hC⟩ : ∃ C, C = read s := ⟨_, rfl⟩
  rw [← hC]
  rw [read_cap] at hC
  have HC : Hid _ := hC
  have HSz : Hid (∀ t, rd s = .inr t → Tsz (cap7 t)) := fun t ht => (rd_sz ht hs).cap
  clear hC
  have K0 : Hid (Kept (fun _ => True) w (w.alloc (.cells #[.string ⟨#[]⟩, .slice none 0 0, .slice none 0 0, .slice none 0 0] 26))) := (Kept.refl _ _).alloc _
  have HX : Hid _ := heap_alloc_new w (.cells #[.string ⟨#[]⟩, .slice none 0 0, .slice none 0 0, .slice none 0 0] 26)
  go_enter Tryd.func7, Tryd.ntmps7
  go_wp2_with fail
  refine Calls.mono (c1 _) ?_
  rintro e w1 ⟨hA, k1⟩
  have HK1 : Hid (Kept (fun _ => True) w w1) := K0.out.trans k1
  have hX1 := (k1.block w.heap.size (by simp) trivial).trans HX.out
  have HLT : Hid (w.heap.size < w1.heap.size) := lt_of_block hX1
  clear c1 k1 K0 HX
  rcases hA with ⟨k, v, hrd, hk, rfl, hv⟩ | ⟨t, v, hrd, rfl, hv, hfr⟩
  · have HE : Hid (C = (Ty.none, 12, k)) := by show _ = _; rw [HC.out, hrd]
    obtain ⟨ao, an, ac, so, sn, sc, mo, mn, mc, rfl⟩ := hv.parts
    have hX2 := (((Kept.refl (fun _ => True) w1).alloc (.cells #[.string ⟨Ty.none.name.toArray⟩, .slice ao an ac, .slice so sn sc, .slice mo mn mc] 26)).block w.heap.size HLT.out trivial).trans hX1
    obtain ⟨⟨z0, z1, z2, z3⟩, f0, f1, f2, f3⟩ := four_cell hX2
    have HX2 : Hid _ := hX2
    have HK2 : Hid (Kept (fun _ => True) w (w1.alloc (.cells #[.string ⟨Ty.none.name.toArray⟩, .slice ao an ac, .slice so sn sc, .slice mo mn mc] 26))) := HK1.out.alloc _
    clear hX1 hX2 HC hrd hv HSz
    go_wp2_with fail
    refine bodyPost_ret (results_tri rfl _ _ rfl (load_type (set_cell (set_cell (set_cell (set_cell HX2.out 0 _) 1 _) 2 _) 3 _) rfl)) rfl ⟨_, by rw [HE.out]; rfl, by rw [HE.out]; exact TyV.none _, ?_⟩
    exact (((HK2.out.setNew (Nat.le_refl _) _).setNew (Nat.le_refl _) _).setNew (Nat.le_refl _) _).setNew (Nat.le_refl _) _
  · have HE : Hid (C = if right (cap7 t) ≠ 0 then (Ty.none, right (cap7 t), 0) else (cap7 t, 0, 0)) := by show _ = _; rw [HC.out, hrd]
    have hz := HSz.out t hrd
    have HV : Hid (TyV w1 v (cap7 t)) := hv
    obtain ⟨ao, an, ac, so, sn, sc, mo, mn, mc, rfl⟩ := hv.parts
    have HFR : Hid (∀ k, (Value.slice ao an ac).ownBlock = some k ∨ (Value.slice so sn sc).ownBlock = some k ∨ (Value.slice mo mn mc).ownBlock = some k → k ≠ w.heap.size) := by
      obtain ⟨n, va, vs, vm, e, hfr⟩ := hfr
      simp only [Value.agg.injEq, Array.mk.injEq, List.cons.injEq, and_true] at e
      obtain ⟨_, rfl, rfl, rfl⟩ := e
      intro k hk
      have := hfr k hk
      have e1 : (w.alloc (.cells #[.string ⟨#[]⟩, .slice none 0 0, .slice none 0 0, .slice none 0 0] 26)).heap.size = w.heap.size + 1 := by simp
      omega
    have ka : Kept (fun _ => True) w1 (w1.alloc (.cells #[.string ⟨(cap7 t).name.toArray⟩, .slice ao an ac, .slice so sn sc, .slice mo mn mc] 26)) := (Kept.refl _ _).alloc _
    have hT := heap_alloc_new w1 (.cells #[.string ⟨(cap7 t).name.toArray⟩, .slice ao an ac, .slice so sn sc, .slice mo mn mc] 26)
    have hX2 := (ka.block w.heap.size HLT.out trivial).trans hX1
    have cr := right_any (hv.all ka) hz
    have HT : Hid _ := hT
    have HX2 : Hid _ := hX2
    have HKa : Hid _ := ka
    have HK2 : Hid (Kept (fun _ => True) w (w1.alloc (.cells #[.string ⟨(cap7 t).name.toArray⟩, .slice ao an ac, .slice so sn sc, .slice mo mn mc] 26))) := HK1.out.alloc _
    have HN : Hid (w.heap.size ≠ w1.heap.size) := Nat.ne_of_lt HLT.out
    clear hX1 hX2 hT HC hrd hv HSz hz ka HK1 hfr
    generalize right (cap7 t) = c at *
    generalize (cap7 t) = tc at *
    go_wp2_with fail
    refine Calls.mono cr ?_
    rintro e w2 ⟨rfl, k2⟩
    have hX3 := (k2.block w.heap.size (lt_of_block HX2.out) trivial).trans HX2.out
    have hT3 := (k2.block w1.heap.size (lt_of_block HT.out) trivial).trans HT.out
    have HK3 : Hid (Kept (fun _ => True) w w2) := HK2.out.trans k2
    have HV3 : Hid (TyV w2 (.agg #[.string ⟨tc.name.toArray⟩, .slice ao an ac, .slice so sn sc, .slice mo mn mc]) tc) := (HV.out.all HKa.out).all k2
    obtain ⟨⟨z0, z1, z2, z3⟩, f0, f1, f2, f3⟩ := four_cell hX3
    obtain ⟨⟨y0, y1, y2, y3⟩, _⟩ := four_cell hT3
    have HX3 : Hid _ := hX3
    clear hX3 hT3 cr k2 HKa HK2 HX2 HT HV
    by_cases hc : c = 0
    · subst hc
      have HF : Hid (C = (tc, 0, 0)) := by show _ = _; rw [HE.out, if_neg (by simp)]
      clear HE
      go_wp2_with fail
      refine bodyPost_ret (results_tri rfl _ _ rfl (load_type (set_cell (set_cell (set_cell (set_cell HX3.out 0 _) 1 _) 2 _) 3 _) rfl)) rfl ⟨_, by rw [HF.out]; rfl, ?_, ?_⟩
      · rw [HF.out]
        obtain ⟨va, vs, vm, e, h1, h2, h3⟩ := HV3.out
        simp only [Value.agg.injEq, Array.mk.injEq, List.cons.injEq, and_true] at e
        obtain ⟨_, rfl, rfl, rfl⟩ := e
        have kz : ∀ a b c d : Value, Kept (· ≠ w.heap.size) w2 ((((w2.setCell ⟨w.heap.size, 0, none⟩ a).setCell ⟨w.heap.size, 1, none⟩ b).setCell ⟨w.heap.size, 2, none⟩ c).setCell ⟨w.heap.size, 3, none⟩ d) := fun a b c d =>
          ((((Kept.refl _ _).setCell (by simp) _).setCell (by simp) _).setCell (by simp) _).setCell (by simp) _
        exact ⟨_, _, _, rfl, h1.kept (kz _ _ _ _) (fun i e => HFR.out i (.inl e)), h2.kept (kz _ _ _ _) (fun i e => HFR.out i (.inr (.inl e))), h3.kept (kz _ _ _ _) (fun i e => HFR.out i (.inr (.inr e)))⟩
      · exact (((HK3.out.setNew (Nat.le_refl _) _).setNew (Nat.le_refl _) _).setNew (Nat.le_refl _) _).setNew (Nat.le_refl _) _
    · have hc' : ((c : Int) == 0) = false := by simp; omega
      have HF : Hid (C = (Ty.none, c, 0)) := by show _ = _; rw [HE.out, if_pos hc]
      clear HE hc
      go_wp2_with fail
      refine bodyPost_ret (results_tri rfl _ _ rfl (load_type (set_cell (set_cell (set_cell (set_cell HX3.out 0 _) 1 _) 2 _) 3 _) rfl)) rfl ⟨_, by rw [HF.out]; rfl, by rw [HF.out]; exact TyV.none _, ?_⟩
      exact (((HK3.out.setNew (Nat.le_refl _) _).setNew (Nat.le_refl _) _).setNew (Nat.le_refl _) _).setNew (Nat.le_refl _) _

end Go.Proofs.YtahbfffhkpojmaaDoor
