/-
  readParts: stage.
-/
import Derived.Test.YtahbfffhkpojmaaDoorT3
namespace Go.Proofs.YtahbfffhkpojmaaDoor
open Go.RowKit

set_option maxRecDepth 100000 in
set_option maxHeartbeats 8000000 in
theorem sp3 {w w1 : World} {s : List UInt8} (hs : s.length ≤ 281474976710656) {k : Nat} {p left r : List UInt8} {more : Bool} {t : Ty} {va vs vm : Value} {a : Act} (hF : Fp s w.heap.size k p left more r a) (hM : Mt w w1 t va vs vm) (hL : Lie s k p left more) (hr : r.length ≤ s.length) (hR : rd s = nxt ((rdR r).map fun x => { t with stages := t.stages ++ [x] }) k (k + p.length + 1) (rem more left)) : Sw w s (2 * mu more left + 3) 3 a w1 := by
  obtain ⟨u, rfl⟩ := hF
  have c1 := fun W => readRule_any (w := W) r (by omega)
  have HM : Hid (Mt w w1 t va vs vm) := hM
  have HL : Hid (Lie s k p left more) := hL
  have HR : Hid _ := hR
  have Hr : Hid (r.length ≤ s.length) := hr
  clear hM hL hR hr
  generalize rdR r = R at *
  refine ⟨_, rfl, ?_⟩
  go_wp2_with fail
  refine Calls.mono (c1 _) ?_
  rintro e w2 ⟨rfl, k2⟩
  have HM2 : Hid (Mt w w2 t va vs vm) := HM.out.all k2
  clear c1 HM k2
  obtain ⟨x0, x1, hA2⟩ := HM2.out.rul
  obtain ⟨⟨c0, c1⟩, f0, f1⟩ := pair_cell hA2
  have HA2 : Hid _ := hA2
  clear hA2
  cases R with
  | none =>
    have HQ : Hid (rd s = .inl k) := HR.out
    simp only [Option.getD, Option.isSome, Ru.none, rlay]
    clear HR
    go_wp2_with fail
    go_step3
    exact ⟨_, by omega, k, p, left, more, r, t, va, vs, vm, Fp.mk' rfl rfl rfl rfl rfl rfl rfl rfl rfl rfl rfl, ((HM2.out.setR 0 _).setR 1 _), HL.out, Hr.out, .inl ⟨rfl, rfl, HQ.out⟩⟩
  | some x =>
    have HQ : Hid (rd s = rdp { t with stages := t.stages ++ [x] } (k + p.length + 1) (rem more left)) := HR.out
    have hM3 : Mt w ((w2.setCell ⟨w.heap.size + 3, 0, none⟩ (Value.string ⟨x.name.toArray⟩)).setCell ⟨w.heap.size + 3, 1, none⟩ (Value.string ⟨x.guard.toArray⟩)) t va vs vm := ((HM2.out.setR 0 _).setR 1 _)
    have hA3 : ((w2.setCell ⟨w.heap.size + 3, 0, none⟩ (Value.string ⟨x.name.toArray⟩)).setCell ⟨w.heap.size + 3, 1, none⟩ (Value.string ⟨x.guard.toArray⟩)).heap[w.heap.size + 3]? = some (.cells (rlay x).toArray 44 (0, 0)) := (set_cell (set_cell HA2.out 0 _) 1 _)
    obtain ⟨⟨g0, g1⟩, _⟩ := pair_cell hA3
    obtain ⟨⟨d0, d1, d2, d3⟩, e0, e1, e2, e3⟩ := four_cell hM3.self
    have ck := keepR_any hM3.stages hM3.room (by rw [List.length_take]; omega) x
    have HM3 : Hid _ := hM3
    obtain ⟨vo, vn, vc, rfl⟩ := own_parts hM3.stages
    simp only [Option.getD, Option.isSome, rlay] at ck ⊢
    clear HR hA3 hM3
    go_wp2_with fail
    refine Calls.mono ck ?_
    rintro e w3 ⟨v', rfl, hA, hP⟩
    have HM4 : Hid _ := HM3.out.putS hA hP
    obtain ⟨vo', vn', vc', rfl⟩ := own_parts hA
    have hself := (hP.kept.block _ (lt_of_block HM3.out.self) (fun e => by have := (HM3.out.rows (.inr (.inl rfl)) _ e).1; omega)).trans HM3.out.self
    obtain ⟨_, e0', e1', e2', e3'⟩ := four_cell hself
    clear ck hA hP hself HM3
    go_wp2_with fail
    go_step3
    exact ⟨_, by omega, k, p, left, more, r, _, _, _, _, Fp.mk' rfl rfl rfl rfl rfl rfl rfl rfl rfl rfl rfl, HM4.out, HL.out, Hr.out, .inr (.inl ⟨rfl, rfl, HQ.out⟩)⟩

end Go.Proofs.YtahbfffhkpojmaaDoor
