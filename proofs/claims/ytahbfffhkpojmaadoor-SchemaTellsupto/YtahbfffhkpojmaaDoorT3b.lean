/-
  readParts: attr.
-/
import Derived.Test.YtahbfffhkpojmaaDoorT3
namespace Go.Proofs.YtahbfffhkpojmaaDoor
open Go.RowKit

set_option maxRecDepth 100000 in
set_option maxHeartbeats 8000000 in
theorem sp2 {w w1 : World} {s : List UInt8} (hs : s.length ≤ 281474976710656) {k : Nat} {p left r : List UInt8} {more : Bool} {t : Ty} {va vs vm : Value} {a : Act} (hF : Fp s w.heap.size k p left more r a) (hM : Mt w w1 t va vs vm) (hL : Lie s k p left more) (hr : r.length ≤ s.length) (hR : rd s = nxt ((rdA r).map fun x => { t with attrs := t.attrs ++ [x] }) k (k + p.length + 1) (rem more left)) : Sw w s (2 * mu more left + 3) 2 a w1 := by
  obtain ⟨u, rfl⟩ := hF
  have c1 := fun W => readAttr_any (w := W) r (by omega)
  have HM : Hid (Mt w w1 t va vs vm) := hM
  have HL : Hid (Lie s k p left more) := hL
  have HR : Hid _ := hR
  have Hr : Hid (r.length ≤ s.length) := hr
  clear hM hL hR hr
  generalize rdA r = R at *
  refine ⟨_, rfl, ?_⟩
  go_wp2_with fail
  refine Calls.mono (c1 _) ?_
  rintro e w2 ⟨rfl, k2⟩
  have HM2 : Hid (Mt w w2 t va vs vm) := HM.out.all k2
  clear c1 HM k2
  obtain ⟨x0, x1, x2, x3, hA2⟩ := HM2.out.att
  obtain ⟨⟨c0, c1, c2, c3⟩, f0, f1, f2, f3⟩ := four_cell hA2
  have HA2 : Hid _ := hA2
  clear hA2
  cases R with
  | none =>
    have HQ : Hid (rd s = .inl k) := HR.out
    simp only [Option.getD, Option.isSome, At.none, alay]
    clear HR
    go_wp2_with fail
    go_step3
    exact ⟨_, by omega, k, p, left, more, r, t, va, vs, vm, Fp.mk' rfl rfl rfl rfl rfl rfl rfl rfl rfl rfl rfl, ((((HM2.out.setA 0 _).setA 1 _).setA 2 _).setA 3 _), HL.out, Hr.out, .inl ⟨rfl, rfl, HQ.out⟩⟩
  | some x =>
    have HQ : Hid (rd s = rdp { t with attrs := t.attrs ++ [x] } (k + p.length + 1) (rem more left)) := HR.out
    have hM3 : Mt w ((((w2.setCell ⟨w.heap.size + 2, 0, none⟩ (Value.string ⟨x.name.toArray⟩)).setCell ⟨w.heap.size + 2, 1, none⟩ (Value.int .i64 x.start)).setCell ⟨w.heap.size + 2, 2, none⟩ (Value.int .i64 x.lo)).setCell ⟨w.heap.size + 2, 3, none⟩ (Value.int .i64 x.hi)) t va vs vm := ((((HM2.out.setA 0 _).setA 1 _).setA 2 _).setA 3 _)
    have hA3 : ((((w2.setCell ⟨w.heap.size + 2, 0, none⟩ (Value.string ⟨x.name.toArray⟩)).setCell ⟨w.heap.size + 2, 1, none⟩ (Value.int .i64 x.start)).setCell ⟨w.heap.size + 2, 2, none⟩ (Value.int .i64 x.lo)).setCell ⟨w.heap.size + 2, 3, none⟩ (Value.int .i64 x.hi)).heap[w.heap.size + 2]? = some (.cells (alay x).toArray 50 (0, 0)) := (set_cell (set_cell (set_cell (set_cell HA2.out 0 _) 1 _) 2 _) 3 _)
    obtain ⟨⟨g0, g1, g2, g3⟩, _⟩ := four_cell hA3
    obtain ⟨⟨d0, d1, d2, d3⟩, e0, e1, e2, e3⟩ := four_cell hM3.self
    have ck := keepA_any hM3.attrs hM3.room (by rw [List.length_take]; omega) x
    have HM3 : Hid _ := hM3
    obtain ⟨vo, vn, vc, rfl⟩ := own_parts hM3.attrs
    simp only [Option.getD, Option.isSome, alay] at ck ⊢
    clear HR hA3 hM3
    go_wp2_with fail
    refine Calls.mono ck ?_
    rintro e w3 ⟨v', rfl, hA, hP⟩
    have HM4 : Hid _ := HM3.out.putA hA hP
    obtain ⟨vo', vn', vc', rfl⟩ := own_parts hA
    have hself := (hP.kept.block _ (lt_of_block HM3.out.self) (fun e => by have := (HM3.out.rows (.inl rfl) _ e).1; omega)).trans HM3.out.self
    obtain ⟨_, e0', e1', e2', e3'⟩ := four_cell hself
    clear ck hA hP hself HM3
    go_wp2_with fail
    go_step3
    exact ⟨_, by omega, k, p, left, more, r, _, _, _, _, Fp.mk' rfl rfl rfl rfl rfl rfl rfl rfl rfl rfl rfl, HM4.out, HL.out, Hr.out, .inr (.inl ⟨rfl, rfl, HQ.out⟩)⟩

end Go.Proofs.YtahbfffhkpojmaaDoor
