/-
  readParts, whole.
-/
import Derived.Test.YtahbfffhkpojmaaDoorT3b
import Derived.Test.YtahbfffhkpojmaaDoorT3c
import Derived.Test.YtahbfffhkpojmaaDoorT3d
namespace Go.Proofs.YtahbfffhkpojmaaDoor
open Go.RowKit

theorem rd_first (s : List UInt8) : rd s = match fst1 (cutAt 59 s).1 with
    | none => .inl 0
    | some n => rdp ⟨n, [], [], []⟩ ((cutAt 59 s).1.length + 1) (rem (cutAt 59 s).2.2 (cutAt 59 s).2.1) := by
  obtain ⟨r1, r2, _⟩ := rem_cut s
  unfold rd
  rw [r1, r2]
  cases fst1 (cutAt 59 s).1 <;> rfl
/-- Four blocks that were made one behind the other. -/
theorem alloc_four (w : World) (a b c d : Obj) : ((((w.alloc a).alloc b).alloc c).alloc d).heap[w.heap.size]? = some a ∧ ((((w.alloc a).alloc b).alloc c).alloc d).heap[w.heap.size + 1]? = some b ∧ ((((w.alloc a).alloc b).alloc c).alloc d).heap[w.heap.size + 2]? = some c ∧ ((((w.alloc a).alloc b).alloc c).alloc d).heap[w.heap.size + 3]? = some d := by
  have e1 : (w.alloc a).heap.size = w.heap.size + 1 := by simp
  have e2 : ((w.alloc a).alloc b).heap.size = w.heap.size + 2 := by simp
  have e3 : (((w.alloc a).alloc b).alloc c).heap.size = w.heap.size + 3 := by simp
  refine ⟨?_, ?_, ?_, ?_⟩
  · rw [heap_alloc_old _ _ (by omega), heap_alloc_old _ _ (by omega), heap_alloc_old _ _ (by omega)]
    exact heap_alloc_new w a
  · rw [heap_alloc_old _ _ (by omega), heap_alloc_old _ _ (by omega), ← e1]
    exact heap_alloc_new _ b
  · rw [heap_alloc_old _ _ (by omega), ← e2]
    exact heap_alloc_new _ c
  · rw [← e3]
    exact heap_alloc_new _ d
theorem Mt.setN {w0 w : World} {va vs vm : Value} {t : Ty} (h : Mt w0 w t va vs vm) (n : List UInt8) : Mt w0 (w.setCell ⟨w0.heap.size + 1, 0, none⟩ (.string ⟨n.toArray⟩)) { t with name := n } va vs vm := by
  have k : Kept (· ≠ w0.heap.size + 1) w (w.setCell ⟨w0.heap.size + 1, 0, none⟩ (.string ⟨n.toArray⟩)) := (Kept.refl _ _).setCell (by simp) _
  obtain ⟨x0, x1, x2, x3, ha⟩ := h.att
  obtain ⟨y0, y1, hr⟩ := h.rul
  refine ⟨h.kept.setNew (by simp) _, (k.block _ (lt_of_block h.res) (by omega)).trans h.res, set_cell h.self 0 _, ⟨x0, x1, x2, x3, (k.block _ (lt_of_block ha) (by omega)).trans ha⟩, ⟨y0, y1, (k.block _ (lt_of_block hr) (by omega)).trans hr⟩,
    own_keep h.attrs k (fun i e => ?_), own_keep h.stages k (fun i e => ?_), own_keep h.marks k (fun i e => ?_), h.apart⟩
  · have := (World.ownsRow.lt h.attrs i e).1; omega
  · have := (World.ownsRow.lt h.stages i e).1; omega
  · have := (World.ownsRow.lt h.marks i e).1; omega

set_option maxRecDepth 100000 in
set_option maxHeartbeats 8000000 in
theorem readParts_any {w : World} (s : List UInt8) (hs : s.length ≤ 281474976710656) :
    Calls Tryd.prog 20 #[.string ⟨s.toArray⟩] w fun e w' => Ans w s e w' ∧ Kept (fun _ => True) w w' := by
  go_enter Tryd.func20, Tryd.ntmps20
  go_wp2
  refine wp_scope_all (c := scopeIn Tryd.f20.body) (Sj w s) ?_ ?_
  · rintro m l a w1 ⟨k, p, left, more, r, t, va, vs, vm, hF, hM, hL, hr, hR⟩ IH
    rcases hR with ⟨rfl, rfl, hR⟩ | ⟨rfl, rfl, hR⟩ | ⟨rfl, rfl, hR⟩ | ⟨rfl, rfl, hR⟩ | ⟨rfl, rfl, hR⟩
    · exact sp0 hs hF hM hL hR
    · cases more with
      | false => exact sp1a hs hF hM hR
      | true => exact sp1b hs hF hM hL hR IH
    · exact sp2 hs hF hM hL hr hR
    · exact sp3 hs hF hM hL hr hR
    · exact sp4 hs hF hM hL hr hR
  · intro H
    have HH : Hid _ := H
    clear H
    have hR := rd_first s
    obtain ⟨l1, l2, l3⟩ := cut_len 59 s
    have HLie : Hid (Lie s 0 (cutAt 59 s).1 (cutAt 59 s).2.1 (cutAt 59 s).2.2) := ⟨by omega, fun h => by have := l3 h; omega⟩
    have c1 := fun W => cut_any (w := W) s 59 hs
    have HR : Hid _ := hR
    clear hR l2 l3
    generalize (cutAt 59 s).2.2 = mo at *
    generalize (cutAt 59 s).2.1 = lf at *
    generalize (cutAt 59 s).1 = q at *
    have c2 := fun W => trim_any (w := W) q (by omega)
    have ht := trim_len q 32
    have c3 := fun W => word_any (w := W) (Lib.trimB q 32) (by omega)
    have hw := wrd_len (Lib.trimB q 32)
    have c4 := fun W => word_any (w := W) (wrd (Lib.trimB q 32)).2 (by omega)
    have hw2 := wrd_len (wrd (Lib.trimB q 32)).2
    have c5 := fun W => clones_any (w := W) (wrd (wrd (Lib.trimB q 32)).2).1 (by omega)
    have HZ : Hid ((wrd (wrd (Lib.trimB q 32)).2).2.length ≤ s.length) := by show _ ≤ _; omega
    have HR2 := HR.out
    unfold fst1 fst0 at HR2
    have HQ : Hid _ := HR2
    clear HR HR2 hw hw2 ht
    generalize (wrd (wrd (Lib.trimB q 32)).2).1 = x at *
    generalize (wrd (wrd (Lib.trimB q 32)).2).2 = z at *
    generalize (wrd (Lib.trimB q 32)).1 = y at *
    generalize (wrd (Lib.trimB q 32)).2 = z1 at *
    generalize Lib.trimB q 32 = tq at *
    have HM0 : Hid (Mt w ((((w.alloc (.cells #[.string ⟨#[]⟩, .slice none 0 0, .slice none 0 0, .slice none 0 0] 26)).alloc (.cells #[.string ⟨#[]⟩, .slice none 0 0, .slice none 0 0, .slice none 0 0] 26)).alloc (.cells #[.string ⟨#[]⟩, .int .i64 0, .int .i64 0, .int .i64 0] 50)).alloc (.cells #[.string ⟨#[]⟩, .string ⟨#[]⟩] 44)) Ty.none (.slice none 0 0) (.slice none 0 0) (.slice none 0 0)) := by
      obtain ⟨a1, a2, a3, a4⟩ := alloc_four w (.cells #[.string ⟨#[]⟩, .slice none 0 0, .slice none 0 0, .slice none 0 0] 26) (.cells #[.string ⟨#[]⟩, .slice none 0 0, .slice none 0 0, .slice none 0 0] 26) (.cells #[.string ⟨#[]⟩, .int .i64 0, .int .i64 0, .int .i64 0] 50) (.cells #[.string ⟨#[]⟩, .string ⟨#[]⟩] 44)
      exact ⟨((((Kept.refl _ _).alloc _).alloc _).alloc _).alloc _, a1, a2, ⟨_, _, _, _, a3⟩, ⟨_, _, a4⟩, Ao.nil _ _, Ro.nil _ _, Ro.nil _ _, fun k h => by simp [Value.ownBlock] at h⟩
    conv => arg 2; whnf
    go_wp2_with fail
    refine Calls.mono (c1 _) ?_
    rintro e w2 ⟨rfl, n2, rfl⟩
    have HM1 : Hid _ := HM0.out.all ((Kept.refl _ _).drewN n2)
    clear c1 HM0
    go_wp2_with fail
    refine Calls.mono (c2 _) ?_
    rintro e w3 ⟨rfl, k3⟩
    have HM3 : Hid (Mt w w3 Ty.none (.slice none 0 0) (.slice none 0 0) (.slice none 0 0)) := HM1.out.all k3
    clear c2 HM1 k3
    go_wp2_with fail
    refine Calls.mono (c3 _) ?_
    rintro e w4 ⟨rfl, k4⟩
    have HM4 : Hid (Mt w w4 Ty.none (.slice none 0 0) (.slice none 0 0) (.slice none 0 0)) := HM3.out.all k4
    clear c3 HM3 k4
    go_wp2_with fail
    refine Calls.mono (c4 _) ?_
    rintro e w5 ⟨rfl, k5⟩
    have HM5 : Hid (Mt w w5 Ty.none (.slice none 0 0) (.slice none 0 0) (.slice none 0 0)) := HM4.out.all k5
    clear c4 HM4 k5
    have wrong : ¬ (y = [116, 121, 112, 101] ∧ x ≠ [] ∧ z = []) → rd s = .inl 0 := fun h => by rw [HQ.out, if_neg h]
    have fine : y = [116, 121, 112, 101] → x ≠ [] → z = [] → rd s = rdp ⟨x, [], [], []⟩ (q.length + 1) (rem mo lf) := fun h1 h2 h3 => by rw [HQ.out, if_pos ⟨h1, h2, h3⟩]
    have HWr : Hid _ := wrong
    have HFi : Hid _ := fine
    clear wrong fine HQ
    by_cases h1 : y = [116, 121, 112, 101]
    · by_cases h2 : x = []
      · have HE : Hid (rd s = .inl 0) := HWr.out (fun h => h.2.1 h2)
        subst h1 h2
        clear HWr HFi c5
        go_wp2_with fail
        go_step3
        exact ⟨0, 0, q, lf, mo, z, Ty.none, _, _, _, Fp.mk' rfl rfl rfl rfl rfl rfl rfl rfl rfl rfl rfl, HM5.out, HLie.out, HZ.out, .inl ⟨rfl, rfl, HE.out⟩⟩
      · by_cases h3 : z = []
        · have HE : Hid (rd s = rdp ⟨x, [], [], []⟩ (q.length + 1) (rem mo lf)) := HFi.out h1 h2 h3
          subst h1 h3
          replace h2 := beq_eq_false_iff_ne.2 h2
          clear HWr HFi
          go_wp2_with fail
          refine Calls.mono (c5 _) ?_
          rintro e w6 ⟨rfl, k6⟩
          have hM6 : Mt w w6 Ty.none (.slice none 0 0) (.slice none 0 0) (.slice none 0 0) := HM5.out.all k6
          have HM6 : Hid _ := hM6.setN x
          obtain ⟨⟨d0, d1, d2, d3⟩, e0, e1, e2, e3⟩ := four_cell hM6.self
          clear c5 HM5 k6 hM6
          go_wp2_with fail
          go_step3
          iterate 2 (first | go_values | go_skip | go_guarded | go_step | go_upon | go_back)
          refine From.use (HH.out (2 * mu mo lf + 2) 1 _ _ ⟨0, q, lf, mo, [], _, _, _, _, ?_, HM6.out, HLie.out, Nat.zero_le _, .inr (.inl ⟨rfl, rfl, ?_⟩)⟩) rfl
          · exact Fp.mk' rfl rfl rfl rfl rfl rfl rfl rfl rfl rfl rfl
          · rw [HE.out, Nat.zero_add]
            rfl
        · have HE : Hid (rd s = .inl 0) := HWr.out (fun h => h3 h.2.2)
          subst h1
          replace h2 := beq_eq_false_iff_ne.2 h2
          replace h3 := beq_eq_false_iff_ne.2 h3
          clear HWr HFi c5
          go_wp2_with fail
          go_step3
          exact ⟨0, 0, q, lf, mo, z, Ty.none, _, _, _, Fp.mk' rfl rfl rfl rfl rfl rfl rfl rfl rfl rfl rfl, HM5.out, HLie.out, HZ.out, .inl ⟨rfl, rfl, HE.out⟩⟩
    · have HE : Hid (rd s = .inl 0) := HWr.out (fun h => h1 h.1)
      replace h1 := beq_eq_false_iff_ne.2 h1
      clear HWr HFi c5
      go_wp2_with fail
      go_step3
      exact ⟨0, 0, q, lf, mo, z, Ty.none, _, _, _, Fp.mk' rfl rfl rfl rfl rfl rfl rfl rfl rfl rfl rfl, HM5.out, HLie.out, HZ.out, .inl ⟨rfl, rfl, HE.out⟩⟩

end Go.Proofs.YtahbfffhkpojmaaDoor
