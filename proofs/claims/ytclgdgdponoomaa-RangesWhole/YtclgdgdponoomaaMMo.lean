/-
  The law's moved; the books' Same of parts, the law's equal.
-/
import Derived.Test.YtclgdgdponoomaaMMv
import Derived.Test.YtclgdgdponoomaaMBx
namespace Go.Proofs.Ytclgdgdponoomaa
open Go.RowKit

theorem results_bx {fn : Func} {p : Nat} (h : fn.results = #[.cell p 24]) (tmps : Array Value) (w : World) {g : Nat} {x y : Value} {t : TypeId} {fr : Nat × Nat} (hp : tmps.getD p undef = .pointer (some ⟨g, 0, none⟩)) (hg : w.heap[g]? = some (.cells #[x, y] t fr)) :
    (results fn tmps).run Try.prog w = .ok (.agg #[x, y]) w :=
  results_cell_row h tmps w g t #[x, y] fr _ hp hg Try.underlying24 rfl Try.sizeMap
/-- Another Map into a variable. -/
theorem Bx.put {w : World} {B : Nat} {ao ao' : Option Addr} {cap cap' : Nat} {ep ep' : Int} {ps ps' : List Pa} (h : Bx w B ao cap ep ps) (h' : Pv w ao' ps') (hne : ∀ b off, ao' = some ⟨b, off, none⟩ → 0 < ps'.length → b ≠ B) : Bx ((w.setCell ⟨B, 0, none⟩ (.int .i64 ep')).setCell ⟨B, 1, none⟩ (.slice ao' ps'.length cap')) B ao' cap' ep' ps' := by
  refine ⟨mset_at (mset_at h.self 0 _) 1 _, ⟨fun h0 => ?_⟩⟩
  obtain ⟨b, off, e, hb, hc⟩ := h'.row h0
  have k : Kept (· ≠ B) w ((w.setCell ⟨B, 0, none⟩ (.int .i64 ep')).setCell ⟨B, 1, none⟩ (.slice ao' ps'.length cap')) := ((Kept.refl _ _).setCell (by simp) _).setCell (by simp) _
  have hq := hne b off e h0
  refine ⟨b, off, e, Nat.lt_of_lt_of_le hb k.size, fun i hi => ?_⟩
  obtain ⟨c0, c1, c2⟩ := hc i hi
  exact ⟨(kept_cell k hb hq).trans c0, (kept_cell k hb hq).trans c1, (kept_cell k hb hq).trans c2⟩
/-- Parts don't lie in a variable of the type Map that has two cells. -/
theorem Pv.off {w : World} {ao : Option Addr} {ps : List Pa} (h : Pv w ao ps) {B : Nat} {ao' : Option Addr} {cap' : Nat} {ep : Int} {qs : List Pa} (hB : Bx w B ao' cap' ep qs) : ∀ b off, ao = some ⟨b, off, none⟩ → 0 < ps.length → b ≠ B := by
  rintro b off rfl h0 rfl
  obtain ⟨b', off', e, hb, hc⟩ := h.row h0
  cases e
  obtain ⟨c0, c1, c2⟩ := hc 0 h0
  have hs := hB.self
  rw [cell_of_row w b _ _ _ _ hs] at c2
  simp at c2

/-- What moved leaves: a right Map. -/
def EMoved (w : World) (e : Ending) (w' : World) : Prop := ∃ ep' ps' ao' cap', e = .returned (.agg #[.int .i64 ep', .slice ao' ps'.length cap']) ∧ rgt ep' ps' = true ∧ Pv w' ao' ps' ∧ Kept (fun _ => True) w w'

set_option maxRecDepth 100000 in
set_option maxHeartbeats 4000000 in
theorem moved_any {w : World} {ao : Option Addr} {cap : Nat} {ep : Int} {ps : List Pa} (h : Pv w ao ps) (hr : rgt ep ps = true) {am : Option Addr} {cm : Nat} {ms : List Pa} (hm : Pv w am ms) :
    Calls Try.prog 25 #[.agg #[.int .i64 ep, .slice ao ps.length cap], .slice am ms.length cm] w fun e w' => EMoved w e w' := by
  have kX : Kept (fun _ => True) w ((w.alloc (.cells #[.int .i64 ep, .slice ao ps.length cap] 24)).alloc (.cells #[.int .i64 0, .slice none 0 0] 24)) := ((Kept.refl _ _).alloc _).alloc _
  have hB : Bx ((w.alloc (.cells #[.int .i64 ep, .slice ao ps.length cap] 24)).alloc (.cells #[.int .i64 0, .slice none 0 0] 24)) w.heap.size ao cap ep ps := (Bx.made h).all ((Kept.refl _ _).alloc _)
  have hR := heap_alloc_new (w.alloc (.cells #[.int .i64 ep, .slice ao ps.length cap] 24)) (.cells #[.int .i64 0, .slice none 0 0] 24)
  rw [show (w.alloc (.cells #[.int .i64 ep, .slice ao ps.length cap] 24)).heap.size = w.heap.size + 1 by simp] at hR
  have HM : Hid (Pv w am ms) := hm
  have HB : Hid (Bx _ _ _ _ _ _) := hB
  have HR : Hid _ := hR
  have HK : Hid _ := kX
  have HG : Hid (rgt ep ps = true) := hr
  clear h hm kX hB hR hr
  go_enter Try.func25, Try.ntmps25
  go_wp2_with fail
  go_loopw [5] (fun t wr => ∃ (i : Nat) (ep' : Int) (ps' : List Pa) (a : Option Addr) (c : Nat), i ≤ 8 ∧ t = .int .i64 i ∧ rgt ep' ps' = true ∧ Bx wr w.heap.size a c ep' ps' ∧ wr.heap[w.heap.size + 1]? = some (.cells #[.int .i64 0, .slice none 0 0] 24 (0, 0)) ∧ Kept (fun _ => True) w wr) (fun t _ => 8 - (intOf t).toNat)
  case atStart => exact ⟨0, ep, ps, ao, cap, by omega, rfl, HG.out, HB.out, HR.out, HK.out⟩
  case round =>
    obtain ⟨i, ep', ps', a, c, hi8, rfl, hr, hB, hR, hk⟩ := hrel
    clear HB HR HK HG
    have HG : Hid (rgt ep' ps' = true) := hr
    have HB : Hid (Bx _ _ _ _ _ _) := hB
    have HR : Hid (wr.heap[w.heap.size + 1]? = some (.cells #[.int .i64 0, .slice none 0 0] 24 (0, 0))) := hR
    have HK : Hid (Kept (fun _ => True) w wr) := hk
    by_cases hlt : i < ms.length ∧ i < 8
    · obtain ⟨b, off, rfl, hb, hc⟩ := (HM.out.all HK.out).row (by omega)
      obtain ⟨d0, d1, d2⟩ := hc i hlt.1
      generalize ms[i] = p at *
      obtain ⟨mlo, mhi, mg⟩ := p
      simp only at d0 d1 d2
      have g1 : (i : Int) < (ms.length : Int) := by omega
      have g2 : (i : Int) < 8 := by omega
      have g0 : (0 : Int) ≤ (i : Int) := by omega
      have hgo : (mvP ep' ps' mlo mhi mg).1 = 0 → rgt (mvP ep' ps' mlo mhi mg).2.1 (mvP ep' ps' mlo mhi mg).2.2 = true := mvP_rgt hr
      have cmv : Hid (∀ W, Kept (fun _ => True) wr W → Calls Try.prog 10 #[.agg #[.int .i64 ep', .slice a ps'.length c], .int .i64 mlo, .int .i64 mhi, .int .i64 mg] W fun e w' => ∃ ao' cap', e = .returned (.tuple #[.agg #[.int .i64 (mvP ep' ps' mlo mhi mg).2.1, .slice ao' (mvP ep' ps' mlo mhi mg).2.2.length cap'], .int .i64 (mvP ep' ps' mlo mhi mg).1]) ∧ Pv w' ao' (mvP ep' ps' mlo mhi mg).2.2 ∧ Kept (fun _ => True) W w') := fun W q => move_told (HB.out.view.all q) mlo mhi mg hr
      generalize mvP ep' ps' mlo mhi mg = r at *
      obtain ⟨r1, r2, r3⟩ := r
      simp only at cmv hgo
      have HGO : Hid (r1 = 0 → rgt r2 r3 = true) := hgo
      have D0 : ∀ W, Kept (fun _ => True) wr W → W.cell? ⟨b, off + i * 3, none⟩ = some (.int .i64 mlo) := fun W q => (kept_cell q hb trivial).trans d0
      have D1 : ∀ W, Kept (fun _ => True) wr W → W.cell? ⟨b, off + i * 3 + 1, none⟩ = some (.int .i64 mhi) := fun W q => (kept_cell q hb trivial).trans d1
      have D2 : ∀ W, Kept (fun _ => True) wr W → W.cell? ⟨b, off + i * 3 + 2, none⟩ = some (.int .i64 mg) := fun W q => (kept_cell q hb trivial).trans d2
      have M0 : ∀ W, Kept (fun _ => True) wr W → W.cell? ⟨w.heap.size, 0, none⟩ = some (.int .i64 ep') := fun W q => (HB.out.all q).cells.1
      have M1 : ∀ W, Kept (fun _ => True) wr W → W.cell? ⟨w.heap.size, 1, none⟩ = some (.slice a ps'.length c) := fun W q => (HB.out.all q).cells.2
      clear hc d0 d1 d2 hB hR hk hr hgo
      go_wp2_with fail
      go_region_held3 (fun W => Kept (fun _ => True) wr W) (first | assumption | (repeat (first | assumption | exact Kept.refl _ _ | refine Kept.drew ?_ | refine Kept.alloc ?_ _ | refine Kept.setFresh ?_ (by first | exact Nat.le_refl _ | exact s8.size) _))) (first
        | (go_at_call 10; (with_reducible refine Calls.mono (cmv.out _ (Kept.drew (Kept.refl _ _))) ?_); rintro e w8 ⟨a8, c8, rfl, hv8, k8⟩; have HV8 : Hid (Pv w8 a8 r3) := hv8; have s8 : Kept (fun _ => True) wr w8 := (Kept.refl _ _).drew.trans k8; clear hv8 k8)
        | (go_at_call 10; (with_reducible refine Calls.mono (cmv.out _ (Kept.drew (Kept.alloc (Kept.refl _ _) _))) ?_); rintro e w8 ⟨a8, c8, rfl, hv8, k8⟩; have HV8 : Hid (Pv w8 a8 r3) := hv8; have hz := (k8.block wr.heap.size (lt_of_block (heap_alloc_new wr (.cells #[.int .i64 0, .slice none 0 0] 24))) trivial).trans (heap_alloc_new wr (.cells #[.int .i64 0, .slice none 0 0] 24)); have HZ : Hid _ := hz; have z0 := (mtwo_cell hz).1; have z1 := (mtwo_cell hz).2; have f0 : w8.frozen? ⟨wr.heap.size, 0, none⟩ = false := (by simp [World.frozen?, hz]); have f1 : w8.frozen? ⟨wr.heap.size, 1, none⟩ = false := (by simp [World.frozen?, hz]); have s8 : Kept (fun _ => True) wr w8 := ((Kept.refl _ _).alloc _).drew.trans k8; clear hv8 k8 hz))
      all_goals
        first
          | (have hz : Bx w8 wr.heap.size none 0 0 [] := ⟨HZ.out, Pv.nil _ _⟩
             have hB9 : Bx ((w8.setCell ⟨wr.heap.size, 0, none⟩ (.int .i64 r2)).setCell ⟨wr.heap.size, 1, none⟩ (.slice a8 r3.length c8)) wr.heap.size a8 c8 r2 r3 := hz.put HV8.out (HV8.out.off hz)
             have k9 : Kept (fun _ => True) wr ((w8.setCell ⟨wr.heap.size, 0, none⟩ (.int .i64 r2)).setCell ⟨wr.heap.size, 1, none⟩ (.slice a8 r3.length c8)) := (s8.setFresh (Nat.le_refl _) _).setFresh (Nat.le_refl _) _
             clear hz HZ z0 z1 f0 f1 s8 HV8
             generalize (w8.setCell ⟨wr.heap.size, 0, none⟩ (.int .i64 r2)).setCell ⟨wr.heap.size, 1, none⟩ (.slice a8 r3.length c8) = w9 at *
             generalize wr.heap.size = Y at *)
          | (have hB9 := Bx.made (cap := c8) (ep := r2) HV8.out
             have k9 : Kept (fun _ => True) wr (w8.alloc (.cells #[.int .i64 r2, .slice a8 r3.length c8] 24)) := s8.alloc _
             clear s8 HV8
             generalize w8.alloc (.cells #[.int .i64 r2, .slice a8 r3.length c8] 24) = w9 at *
             generalize w8.heap.size = Y at *)
        have HB9 : Hid (Bx w9 Y a8 c8 r2 r3) := hB9
        have hBm := HB.out.all k9
        have HBm : Hid (Bx w9 w.heap.size a c ep' ps') := hBm
        have HR9 : Hid (w9.heap[w.heap.size + 1]? = some (.cells #[.int .i64 0, .slice none 0 0] 24 (0, 0))) := (k9.block _ (lt_of_block HR.out) trivial).trans HR.out
        have K9 : Hid (Kept (fun _ => True) w w9) := HK.out.trans k9
        obtain ⟨y0, y1⟩ := hB9.cells
        obtain ⟨x0, x1⟩ := hBm.cells
        have f0 := hBm.free 0
        have f1 := hBm.free 1
        clear hBm hB9 k9 D0 D1 D2 M0 M1 HB HR HK
        by_cases hr1 : r1 = 0
        · subst hr1
          have HGN : Hid (rgt r2 r3 = true) := HGO.out rfl
          have HBn : Hid (Bx _ w.heap.size a8 c8 r2 r3) := HBm.out.put (cap' := c8) (ep' := r2) HB9.out.view (HB9.out.view.off HBm.out)
          have HRn : Hid (((w9.setCell ⟨w.heap.size, 0, none⟩ (.int .i64 r2)).setCell ⟨w.heap.size, 1, none⟩ (.slice a8 r3.length c8)).heap[w.heap.size + 1]? = some (.cells #[.int .i64 0, .slice none 0 0] 24 (0, 0))) := by
            show _ = _
            rw [Below.heap_setCell _ _ _ _ (by simp), Below.heap_setCell _ _ _ _ (by simp)]
            exact HR9.out
          have Kn : Hid (Kept (fun _ => True) w ((w9.setCell ⟨w.heap.size, 0, none⟩ (.int .i64 r2)).setCell ⟨w.heap.size, 1, none⟩ (.slice a8 r3.length c8))) := (K9.out.setFresh (Nat.le_refl _) _).setFresh (Nat.le_refl _) _
          clear HR9 HBm K9 HB9
          go_wp2_with fail
          go_roundw
          case rel => exact ⟨i + 1, r2, r3, a8, c8, by omega, by go_num, HGN.out, HBn.out, HRn.out, Kn.out⟩
          case measure => simp [intOf]; omega
        · have hr2 : (r1 == 0) = false := by simpa using hr1
          go_wp2_with fail
          go_roundw
          case rel => exact ⟨i + 1, ep', ps', a, c, by omega, by go_num, HG.out, HBm.out, HR9.out, K9.out⟩
          case measure => simp [intOf]; omega
    · have hex : ¬ (i : Int) < (ms.length : Int) ∨ ((i : Int) < (ms.length : Int) ∧ ¬ (i : Int) < 8) := by omega
      obtain ⟨x0, x1⟩ := hB.cells
      obtain ⟨y0, y1⟩ := mtwo_cell hR
      have f0 : wr.frozen? ⟨w.heap.size + 1, 0, none⟩ = false := by simp [World.frozen?, hR]
      have f1 : wr.frozen? ⟨w.heap.size + 1, 1, none⟩ = false := by simp [World.frozen?, hR]
      have HR0 : Hid (Bx wr (w.heap.size + 1) none 0 0 []) := ⟨hR, Pv.nil _ _⟩
      have HBn : Hid (Bx _ (w.heap.size + 1) a c ep' ps') := HR0.out.put (cap' := c) (ep' := ep') HB.out.view (HB.out.view.off HR0.out)
      clear hB hR hk hr hlt HM
      rcases hex with hex | hex
      · go_wp2_with fail
        exact bodyPost_ret (results_bx rfl _ _ rfl HBn.out.self) rfl ⟨ep', ps', a, c, rfl, HG.out, HBn.out.view, (HK.out.setFresh (Nat.le_succ _) _).setFresh (Nat.le_succ _) _⟩
      · obtain ⟨he1, he2⟩ := hex
        go_wp2_with fail
        exact bodyPost_ret (results_bx rfl _ _ rfl HBn.out.self) rfl ⟨ep', ps', a, c, rfl, HG.out, HBn.out.view, (HK.out.setFresh (Nat.le_succ _) _).setFresh (Nat.le_succ _) _⟩

end Go.Proofs.Ytclgdgdponoomaa
