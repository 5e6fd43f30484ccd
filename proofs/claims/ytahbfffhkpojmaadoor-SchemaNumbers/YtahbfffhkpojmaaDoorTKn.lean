/-
  The law's known and tight; the book's two types.
-/
import Derived.Test.YtahbfffhkpojmaaDoorTBk
import Derived.Test.YtahbfffhkpojmaaDoorTR2
namespace Go.Proofs.YtahbfffhkpojmaaDoor
open Go.RowKit

theorem Av.new {w : World} {g cap : Nat} {xs : List At} {fr : Nat × Nat} (h : w.heap[g]? = some (.cells (arow xs).toArray 50 fr)) (hl : xs.length ≤ 1000) : Av w (.slice (some ⟨g, 0, none⟩) xs.length cap) xs := by
  have hc : ∀ i (_ : i < xs.length) (j : Nat), j < 4 → w.cell? ⟨g, 0 + i * 4 + j, none⟩ = (alay xs[i])[j]? := fun i hi j hj => by
    rw [cell_of_row w g _ _ _ _ h, Nat.zero_add]
    have := flat_get alay_len xs i hi j hj
    simpa [arow] using this
  refine ⟨_, _, rfl, by omega, by simp, fun _ => ⟨g, 0, rfl, lt_of_block h, fun i hi => ⟨hc i hi 0 (by omega), hc i hi 1 (by omega), hc i hi 2 (by omega), hc i hi 3 (by omega)⟩⟩⟩
theorem Rv.new {w : World} {g cap : Nat} {xs : List Ru} {fr : Nat × Nat} (h : w.heap[g]? = some (.cells (rrow xs).toArray 44 fr)) (hl : xs.length ≤ 1000) : Rv w (.slice (some ⟨g, 0, none⟩) xs.length cap) xs := by
  have hc : ∀ i (_ : i < xs.length) (j : Nat), j < 2 → w.cell? ⟨g, 0 + i * 2 + j, none⟩ = (rlay xs[i])[j]? := fun i hi j hj => by
    rw [cell_of_row w g _ _ _ _ h, Nat.zero_add]
    have := flat_get rlay_len xs i hi j hj
    simpa [rrow] using this
  refine ⟨_, _, rfl, by omega, by simp, fun _ => ⟨g, 0, rfl, lt_of_block h, fun i hi => ⟨hc i hi 0 (by omega), hc i hi 1 (by omega)⟩⟩⟩

def kn1 : List UInt8 := [116, 121, 112, 101, 32, 108, 111, 97, 110, 59, 32, 97, 116, 116, 114, 32, 115, 117, 109, 32, 53, 32, 48, 32, 49, 48, 48, 59, 32, 115, 116, 97, 103, 101, 32, 112, 97, 121, 32, 108, 116, 32, 115, 117, 109, 32, 57]
def kn2 : List UInt8 := [116, 121, 112, 101, 32, 108, 111, 97, 110, 59, 32, 120]
theorem kn1_read : read kn1 = (⟨[108, 111, 97, 110], [⟨[115, 117, 109], 5, 0, 100⟩], [⟨[112, 97, 121], [108, 116, 32, 115, 117, 109, 32, 57]⟩], []⟩, 0, 0) := by kernel_rfl
theorem kn2_read : read kn2 = (Ty.none, 12, 10) := by kernel_rfl

set_option maxRecDepth 100000 in
set_option maxHeartbeats 4000000 in
theorem known_any {w : World} : Calls Tryd.prog 15 #[] w fun e w' => e = .returned (.bool true) ∧ Kept (fun _ => True) w w' := by
  have c1 := fun W => reads_any (w := W) kn1 (by decide)
  have c2 := fun W => reads_any (w := W) kn2 (by decide)
  rw [kn1_read] at c1
  rw [kn2_read] at c2
  simp only [kn1, kn2] at c1 c2
  go_enter Tryd.func15, Tryd.ntmps15
  go_wp2_with fail
  refine Calls.mono (c1 _) ?_
  rintro e w1 ⟨v1, rfl, hv1, k1⟩
  obtain ⟨va, vs, vm, rfl, ha, hs, hm⟩ := hv1
  obtain ⟨ao, ac, rfl, _⟩ := ha.form
  obtain ⟨so, sc, rfl, _⟩ := hs.form
  obtain ⟨mo, mc, rfl, _⟩ := hm.form
  have HS : Hid (Rv w1 (.slice so 1 sc) [⟨[112, 97, 121], [108, 116, 32, 115, 117, 109, 32, 57]⟩]) := hs
  have HK1 : Hid (Kept (fun _ => True) w w1) := k1
  have hT := heap_alloc_new w1 (.cells #[.string ⟨#[108, 111, 97, 110]⟩, .slice ao 1 ac, .slice so 1 sc, .slice mo 0 mc] 26)
  have HT : Hid _ := hT
  clear ha hs hm k1 c1 hT
  simp only [List.length_cons, List.length_nil, Nat.zero_add]
  go_wp2_with fail
  refine Calls.mono (c2 _) ?_
  rintro e w2 ⟨v2, rfl, hv2, k2⟩
  obtain ⟨ao2, an2, ac2, so2, sn2, sc2, mo2, mn2, mc2, rfl⟩ := hv2.parts
  have hT2 := (k2.block w1.heap.size (lt_of_block HT.out) trivial).trans HT.out
  have ka : Kept (fun _ => True) w2 (w2.alloc (.cells #[.string ⟨Ty.none.name.toArray⟩, .slice ao2 an2 ac2, .slice so2 sn2 sc2, .slice mo2 mn2 mc2] 26)) := (Kept.refl _ _).alloc _
  have hT3 := (ka.block w1.heap.size (lt_of_block hT2) trivial).trans hT2
  obtain ⟨⟨z0, z1, z2, z3⟩, _⟩ := four_cell hT3
  obtain ⟨b, off, rfl, hb, r0, r1⟩ := ((HS.out.all ((Kept.refl _ _).alloc _)).all (k2.trans ka)).at 0 (by simp)
  simp only [Nat.zero_mul, Nat.add_zero, List.getElem_cons_zero] at r0 r1
  have HKx : Hid (Kept (fun _ => True) w (w2.alloc (.cells #[.string ⟨Ty.none.name.toArray⟩, .slice ao2 an2 ac2, .slice so2 sn2 sc2, .slice mo2 mn2 mc2] 26))) := (((HK1.out.alloc _).trans k2).alloc _)
  clear c2 hT2 hT3 ka k2 hv2 HS HK1 HT hb
  go_wp2_with fail
  go_ret
  exact ⟨rfl, HKx.out⟩

theorem alloc_five (w : World) (a b c d e : Obj) : let W := ((((w.alloc a).alloc b).alloc c).alloc d).alloc e; W.heap[w.heap.size]? = some a ∧ W.heap[w.heap.size + 1]? = some b ∧ W.heap[w.heap.size + 1 + 1]? = some c ∧ W.heap[w.heap.size + 1 + 1 + 1]? = some d ∧ W.heap[w.heap.size + 1 + 1 + 1 + 1]? = some e := by
  obtain ⟨h1, h2, h3, h4⟩ := alloc_four w a b c d
  have e4 : ((((w.alloc a).alloc b).alloc c).alloc d).heap.size = w.heap.size + 1 + 1 + 1 + 1 := by simp
  refine ⟨?_, ?_, ?_, ?_, ?_⟩
  · rw [heap_alloc_old _ _ (by omega)]; exact h1
  · rw [heap_alloc_old _ _ (by omega)]; exact h2
  · rw [heap_alloc_old _ _ (by omega)]; exact h3
  · rw [heap_alloc_old _ _ (by omega)]; exact h4
  · rw [← e4]; exact heap_alloc_new _ e
/-- The book's types. -/
def loan : Ty := ⟨[108, 111, 97, 110], [⟨[115, 117, 109], 5, 0, 100⟩, ⟨[114, 105, 115, 107], 0, -10, 10⟩], [⟨[99, 104, 101, 99, 107], [108, 116, 32, 114, 105, 115, 107, 32, 53]⟩, ⟨[112, 97, 121], [97, 110, 100, 32, 99, 104, 101, 99, 107, 32, 108, 116, 32, 48, 32, 115, 117, 109]⟩],
  [⟨[112, 97, 105, 100], [112, 97, 121]⟩, ⟨[98, 105, 103], [108, 116, 32, 53, 48, 32, 115, 117, 109]⟩, ⟨[98, 111, 116, 104], [97, 110, 100, 32, 112, 97, 105, 100, 32, 98, 105, 103]⟩]⟩
def count : Ty := ⟨[99, 111, 117, 110, 116], [⟨[110], 0, -1000, 1000⟩], [], []⟩
set_option maxRecDepth 100000 in
set_option maxHeartbeats 4000000 in
theorem types_any {w : World} : Calls Tryd.prog 10 #[] w fun e w' => ∃ g a s m b, e = .returned (.slice (some ⟨g, 0, none⟩) 2 2) ∧ w'.heap[g]? = some (.cells #[.string ⟨loan.name.toArray⟩, a, s, m, .string ⟨count.name.toArray⟩, b, .slice none 0 0, .slice none 0 0] 26 (0, 0)) ∧
    TyV w' (.agg #[.string ⟨loan.name.toArray⟩, a, s, m]) loan ∧ TyV w' (.agg #[.string ⟨count.name.toArray⟩, b, .slice none 0 0, .slice none 0 0]) count ∧ Kept (fun _ => True) w w' := by
  go_enter Tryd.func10, Tryd.ntmps10
  go_wp2_with fail
  obtain ⟨h1, h2, h3, h4, h5⟩ := alloc_five w (.cells (arow loan.attrs).toArray 50) (.cells (rrow loan.stages).toArray 44) (.cells (rrow loan.marks).toArray 44) (.cells (arow count.attrs).toArray 50)
    (.cells #[.string ⟨loan.name.toArray⟩, .slice (some ⟨w.heap.size, 0, none⟩) 2 2, .slice (some ⟨w.heap.size + 1, 0, none⟩) 2 2, .slice (some ⟨w.heap.size + 1 + 1, 0, none⟩) 3 3, .string ⟨count.name.toArray⟩, .slice (some ⟨w.heap.size + 1 + 1 + 1, 0, none⟩) 1 1, .slice none 0 0, .slice none 0 0] 26)
  go_ret
  refine ⟨_, _, _, _, _, rfl, h5, ⟨_, _, _, rfl, Av.new (xs := loan.attrs) h1 (by decide), Rv.new (xs := loan.stages) h2 (by decide), Rv.new (xs := loan.marks) h3 (by decide)⟩, ⟨_, _, _, rfl, Av.new (xs := count.attrs) h4 (by decide), Rv.nil _, Rv.nil _⟩, ?_⟩
  exact (((((Kept.refl _ w).alloc _).alloc _).alloc _).alloc _).alloc _

/-- A guard without blanks at its ends. -/
def okG (g : List UInt8) : Bool := decide (g ≠ []) && decide (g.head? ≠ some 32) && decide (g.getLast? ≠ some 32)
def tightB (t : Ty) : Bool := (t.stages ++ t.marks).all (fun r => okG r.guard)
theorem all_drop {l : List Ru} {f : Ru → Bool} {i : Nat} (h : i < l.length) : (l.drop i).all f = (f l[i] && (l.drop (i + 1)).all f) := by
  rw [List.drop_eq_getElem_cons h, List.all_cons]

set_option maxRecDepth 100000 in
set_option maxHeartbeats 8000000 in
theorem tight_any {w : World} {v : Value} {t : Ty} (h : TyV w v t) (l2 : t.stages.length ≤ 6) (l3 : t.marks.length ≤ 6) (hg : ∀ r ∈ t.stages ++ t.marks, r.guard.length ≤ 1000000) :
    Calls Tryd.prog 19 #[v] w fun e w' => e = .returned (.bool (tightB t)) ∧ Kept (fun _ => True) w w' := by
  obtain ⟨C, hC⟩ : ∃ C, C = tightB t := ⟨_, rfl⟩
  rw [← hC]
  have HC : Hid (C = (t.stages ++ t.marks).all (fun r => okG r.guard)) := hC
  have HGL : Hid _ := hg
  clear hC hg
  obtain ⟨va, vs, vm, rfl, ha, hs, hk⟩ := h
  obtain ⟨ao, ac, rfl, la⟩ := ha.form
  obtain ⟨so, sc, rfl, ls⟩ := hs.form
  obtain ⟨mo, mc, rfl, lm⟩ := hk.form
  have k0 : Kept (fun _ => True) w (w.alloc (.cells #[.string ⟨t.name.toArray⟩, .slice ao t.attrs.length ac, .slice so t.stages.length sc, .slice mo t.marks.length mc] 26)) := (Kept.refl _ _).alloc _
  have hX := heap_alloc_new w (.cells #[.string ⟨t.name.toArray⟩, .slice ao t.attrs.length ac, .slice so t.stages.length sc, .slice mo t.marks.length mc] 26)
  replace hs := hs.all k0
  replace hk := hk.all k0
  clear ha
  go_enter Tryd.func19, Tryd.ntmps19
  go_wp2_with fail
  generalize w.alloc (.cells #[.string ⟨t.name.toArray⟩, .slice ao t.attrs.length ac, .slice so t.stages.length sc, .slice mo t.marks.length mc] 26) = wr at *
  obtain ⟨B, hB⟩ : ∃ B, B = w.heap.size := ⟨_, rfl⟩
  rw [← hB] at hX ⊢
  have K0 : Hid (Kept (fun _ => True) w wr) := k0
  have HRS : Hid (Rv wr (.slice so t.stages.length sc) t.stages) := hs
  have HRM : Hid (Rv wr (.slice mo t.marks.length mc) t.marks) := hk
  obtain ⟨⟨y0, y1, y2, y3⟩, _⟩ := four_cell hX
  have hrl : t.stages.length + t.marks.length ≤ 12 := by omega
  obtain ⟨N2, hN2⟩ : ∃ N2, N2 = t.stages.length + t.marks.length := ⟨_, rfl⟩
  have HN1 : Hid (([] : List Ru).length + t.stages.length = t.stages.length) := by show _ = _; simp
  have HN2 : Hid (([] ++ t.stages).length + t.marks.length = N2) := by show _ = _; rw [hN2]; simp
  have HN3 : Hid (([] : List Ru).length + t.stages.length ≤ 100000000 ∧ ([] ++ t.stages).length + t.marks.length ≤ 100000000) := by
    refine ⟨?_, ?_⟩
    · rw [HN1.out]; omega
    · rw [HN2.out]; omega
  have h12 : N2 ≤ 12 := by omega
  have kd : Kept (fun _ => True) wr wr.drew := (Kept.refl _ _).drew
  have u2 : ∀ W, Kept (fun _ => True) wr W → W.cell? ⟨B, 2, none⟩ = some (.slice so t.stages.length sc) := fun W q => (World.cell?_of_block (w := wr) (q.block _ (World.block_lt_of_cell? wr _ y2) trivial)).trans y2
  have u3 : ∀ W, Kept (fun _ => True) wr W → W.cell? ⟨B, 3, none⟩ = some (.slice mo t.marks.length mc) := fun W q => (World.cell?_of_block (w := wr) (q.block _ (World.block_lt_of_cell? wr _ y3) trivial)).trans y3
  clear y0 y1 y2 y3 hN2 hrl hB hX hs hk k0
  go_region_held3 (fun W => Kept (fun _ => True) wr W) (first | assumption | exact Kept.alloc (by assumption) _) (first
    | (refine step_append_rules ?_ (.tmp 6) (.tmp 8) ?_ wr.heap.size (.slice (some ⟨wr.heap.size, 0, none⟩) 0 0) [] ?_ (Ro.made wr.drew) (by simp) (.slice so t.stages.length sc) ?_ t.stages (HRS.out.all (kd.alloc _)) HN3.out.1 t.stages.length HN1.out ?_; rfl; rfl; rfl; rfl; intro ao1 cap1 w5 t1 gr1; have k1 : Kept (fun _ => True) wr w5 := (kd.alloc _).grown gr1 (fun q hq e _ => by simp [Value.ownBlock] at e; omega))
    | (refine step_append_rules ?_ (.tmp 9) (.tmp 11) ?_ wr.heap.size (.slice ao1 t.stages.length cap1) ([] ++ t.stages) ?_ t1 k1.size (.slice mo t.marks.length mc) ?_ t.marks (HRM.out.all k1) HN3.out.2 N2 HN2.out ?_; rfl; rfl; rfl; rfl; intro ao2 cap2 w6 t2 gr2; have k2 : Kept (fun _ => True) wr w6 := k1.grown gr2 (fun q hq e _ => by have := (World.ownsRow.lt t1 q e).1; omega)))
  all_goals
    have hv : Rv w6 (.slice ao2 N2 cap2) (t.stages ++ t.marks) := Ro.view (show Ro w6 wr.heap.size (.slice ao2 N2 cap2) (t.stages ++ t.marks) from t2) (by rw [List.length_append]; omega)
    have HV : Hid (Rv w6 (.slice ao2 N2 cap2) (t.stages ++ t.marks)) := hv
    have HRL : Hid (N2 = (t.stages ++ t.marks).length) := by show _ = _; rw [← HN2.out]; simp
    have HK5 : Hid (Kept (fun _ => True) w w6) := K0.out.trans k2
    clear t1 t2 gr1 gr2 k1 k2 hv u2 u3 kd
    generalize t.stages ++ t.marks = rs at *
    go_wp2_with fail
    go_loopw [4, 5] (fun t4 _ wq => ∃ j : Nat, j ≤ N2 ∧ t4 = .int .i64 j ∧ C = (rs.drop j).all (fun r => okG r.guard) ∧ Kept (fun _ => True) w6 wq) (fun t4 _ _ => N2 - (intOf t4).toNat)
    case atStart => exact ⟨0, Nat.zero_le _, rfl, HC.out, Kept.refl _ _⟩
    case round =>
    obtain ⟨j, hj, rfl, hE, hk⟩ := hrel
    have HE : Hid (C = (rs.drop j).all (fun r => okG r.guard)) := hE
    have HKq : Hid (Kept (fun _ => True) w6 wr) := hk
    clear hE hk
    by_cases hlt : j < N2
    · have hltr : j < rs.length := by have := HRL.out; omega
      obtain ⟨b, off, rfl, hb, r0, r1⟩ := (HV.out.all HKq.out).at j hltr
      have j1 : (j : Int) < (N2 : Int) := by omega
      have j0 : (0 : Int) ≤ (j : Int) := by omega
      have hgl := HGL.out _ (List.getElem_mem hltr)
      have HSt : Hid (C = (okG (rs[j]).guard && (rs.drop (j + 1)).all (fun r => okG r.guard))) := HE.out.trans (all_drop hltr)
      clear hb HE
      generalize rs[j] = y at *
      obtain ⟨yn, yg⟩ := y
      simp only at r0 r1 hgl HSt
      by_cases hg0 : yg = []
      · subst hg0
        have HF : Hid (C = false) := by show _ = _; rw [HSt.out]; simp [okG]
        clear HSt
        go_wp2_with fail
        go_ret
        exact ⟨by rw [HF.out]; rfl, HK5.out.trans HKq.out⟩
      · have hpos : 0 < yg.length := List.length_pos_iff.2 hg0
        have hg0' : (yg == ([] : List UInt8)) = false := beq_eq_false_iff_ne.2 hg0
        have hx := at_text yg 0 hpos (by simpa [ByteArray.size] using hpos)
        obtain ⟨m, hmm⟩ : ∃ m, m + 1 = yg.length := ⟨yg.length - 1, by omega⟩
        have hml : m < yg.length := by omega
        have hy := at_text yg m hml (by simpa [ByteArray.size] using hml)
        have HOK : Hid (okG yg = (!(decide (yg[0] = 32)) && !(decide (yg[m] = 32)))) := by
          show _ = _
          unfold okG
          have e1 : yg.head? = some yg[0] := by rw [List.head?_eq_getElem?]; simp [hpos]
          have e2 : yg.getLast? = some (yg[m]) := by rw [List.getLast?_eq_getElem?, show yg.length - 1 = m by omega]; simp [hml]
          rw [e1, e2]
          simp [hg0]
        have p1 : (0 : Int) < (yg.length : Int) := by omega
        have p2 : (yg.length : Int) - 1 = (m : Int) := by omega
        have p3 : (m : Int) < (yg.length : Int) := by omega
        have p4 : (0 : Int) ≤ (m : Int) := by omega
        have HMM : Hid _ := hmm
        clear hg0 hmm
        generalize yg[0] = c0 at *
        generalize yg[m] = c1 at *
        by_cases h0 : c0 = 32
        · subst h0
          have HF : Hid (C = false) := by show _ = _; rw [HSt.out, HOK.out]; simp
          clear HSt HOK
          go_wp2_with fail
          go_ret
          exact ⟨by rw [HF.out]; rfl, HK5.out.trans HKq.out⟩
        · have h0' : ((c0.toNat : Int) == 32) = false := by
            simp only [beq_eq_false_iff_ne, ne_eq]
            intro q
            exact h0 (UInt8.toNat_inj.1 (by simpa using (by omega : c0.toNat = 32)))
          by_cases h1 : c1 = 32
          · subst h1
            have HF : Hid (C = false) := by show _ = _; rw [HSt.out, HOK.out]; simp
            clear HSt HOK h0
            go_wp2_with fail
            go_ret
            exact ⟨by rw [HF.out]; rfl, HK5.out.trans HKq.out⟩
          · have h1' : ((c1.toNat : Int) == 32) = false := by
              simp only [beq_eq_false_iff_ne, ne_eq]
              intro q
              exact h1 (UInt8.toNat_inj.1 (by simpa using (by omega : c1.toNat = 32)))
            have HF : Hid (C = (rs.drop (j + 1)).all (fun r => okG r.guard)) := by show _ = _; rw [HSt.out, HOK.out]; simp [h0, h1]
            clear HSt HOK h0 h1
            go_wp2_with fail
            go_roundw
            case rel => exact ⟨j + 1, by omega, by go_num, HF.out, HKq.out⟩
            case measure => simp [intOf]; omega
    · have j1 : ¬ (j : Int) < (N2 : Int) := by omega
      have HF : Hid (C = true) := by
        show _ = _
        rw [HE.out, List.drop_eq_nil_of_le (by have := HRL.out; omega)]
        rfl
      go_wp2_with fail
      go_ret
      exact ⟨by rw [HF.out]; rfl, HK5.out.trans HKq.out⟩

end Go.Proofs.YtahbfffhkpojmaaDoor
