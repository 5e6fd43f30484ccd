/-
  Texts of the proofs, 51 of 52.
-/
import Derived.Test.YtmcaoimgmgjjiaaWAX
import Derived.Test.YtmcaoimgmgjjiaaWB
import Derived.SizedLaws
import Derived.ProofKit
import Derived.OpenShut
import Derived.ChangeMaps5
import Derived.Below
import Derived.Test.YtmcaoimgmgjjiaaWAH
import Derived.Deep.Slices
import Derived.Lib.SmallJoins
namespace Go.Proofs.Ytmcaoimgmgjjiaa
open Go.RowKit Go.Maps Go.Sort

structure Clq (w : World) (c : Uc) : Prop where
  has : Has w c.a c.bs
  fit : Fits c.g
  cap : c.a = none → c.c = 0
  le : c.bs.length ≤ c.c
  few : c.bs.length ≤ 2000000
theorem Clq.all {w w' : World} {c : Uc} (h : Clq w c) (k : Kept (fun _ => True) w w') : Clq w' c := ⟨h.has.kept k (fun _ _ => trivial), h.fit, h.cap, h.le, h.few⟩
structure Lst (w : World) (a : Option Addr) (cs : List Uc) : Prop where
  vw : Vw claimS w a cs
  cl : ∀ c ∈ cs, Clq w c
  few : cs.length ≤ 200
section
variable {w w' : World} {a : Option Addr} {cs cl : List Uc}
theorem Lst.all (h : Lst w a cs) (k : Kept (fun _ => True) w w') : Lst w' a cs := ⟨h.vw.all k, fun c hc => (h.cl c hc).all k, h.few⟩
theorem Lst.cv (h : Lst w a cs) : Cv w a cs := ⟨h.vw, fun c hc => (h.cl c hc).has, fun c hc => by have := (h.cl c hc).few; omega, fun c hc => (h.cl c hc).fit⟩
theorem EVer.form {pq : List (Up × Ua)} {e : Ending} (h : EVer pq e) : ∃ (r i z : Int) (ok : Bool), e = .returned (.tuple #[.agg #[.int .i64 r, .int .i64 i, .int .i64 z], .bool ok]) := by
  rcases h with ⟨_, rfl⟩ | ⟨j, i, z, _, _, _, _, _, _, rfl⟩
  · exact ⟨0, 0, 0, true, rfl⟩
  · exact ⟨_, _, _, _, rfl⟩
theorem verify_lst {n c : Nat} (h : Lst w a cs) (hn : cs.length = n) : Calls Try.prog 10 #[.slice a n c] w fun e w' => (∃ (r i z : Int) (ok : Bool) (pq : List (Up × Ua)), e = .returned (.tuple #[.agg #[.int .i64 r, .int .i64 i, .int .i64 z], .bool ok]) ∧ Pgs cs (pq.map (·.1)) ∧ EVer pq (.returned (.tuple #[.agg #[.int .i64 r, .int .i64 i, .int .i64 z], .bool ok]))) ∧ Kept (fun _ => True) w w' := by
  subst hn
  refine (verify_any h.cv h.few).mono ?_
  rintro e w' ⟨pq, hp, he, k⟩
  obtain ⟨r, i, z, ok, rfl⟩ := he.form
  exact ⟨⟨r, i, z, ok, pq, rfl, hp, he⟩, k⟩
structure Ldc (w : World) (a : Option Addr) (cs cl : List Uc) : Prop where
  cv : Cv w a cl
  gb : cl.map gb = cs.map gb
  cap : ∀ c ∈ cl, (c.a = none → c.c = 0) ∧ c.bs.length ≤ c.c
theorem Ldc.len (h : Ldc w a cs cl) : cl.length = cs.length := by have := congrArg List.length h.gb; rwa [List.length_map, List.length_map] at this
theorem in_lst {n c : Nat} (h : Lst w a cs) (hn : cs.length = n) : Calls Try.prog 12 #[.slice a n c] w fun e w' => (∃ a' c' cl, e = .returned (.slice a' n c') ∧ Ldc w' a' cs cl) ∧ Kept (fun _ => True) w w' := by
  subst hn
  refine (in_any h.cv h.few (fun c hc => (h.cl c hc).cap)).mono ?_
  rintro e w' ⟨a', c', cl, rfl, _, hg, hv, hc, k⟩
  exact ⟨⟨a', c', cl, rfl, hv, hg, hc⟩, k⟩
theorem ldc_few {cs cl : List Uc} (hg : cl.map gb = cs.map gb) (h : ∀ c ∈ cs, c.bs.length ≤ 2000000) : ∀ c ∈ cl, c.bs.length ≤ 2000000 := fun c hc => by
  have h1 : Go.Proofs.Ytmcaoimgmgjjiaa.gb c ∈ cs.map Go.Proofs.Ytmcaoimgmgjjiaa.gb := by rw [← hg]; exact List.mem_map_of_mem hc
  obtain ⟨d, hd, e⟩ := List.mem_map.1 h1
  have e2 : d.bs = c.bs := congrArg Prod.snd e
  rw [← e2]
  exact h d hd
theorem rverify_lst {n c : Nat} {w0 : World} {a0 : Option Addr} (h0 : Lst w0 a0 cs) (h : Ldc w a cs cl) (hn : cs.length = n) {pq : List (Up × Ua)} {E : Ending} (hp : Pgs cs (pq.map (·.1))) (he : EVer pq E) : Calls Try.prog 11 #[.slice a n c] w fun e w' => e = E ∧ Kept (fun _ => True) w w' := by
  have hl := h.len
  have hf := ldc_few h.gb (fun c hc => (h0.cl c hc).few)
  have := rverify_any (cap := c) h.cv (by have := h0.few; omega) (fun c hc => ⟨(h.cap c hc).1, (h.cap c hc).2, hf c hc⟩)
  rw [hl, hn] at this
  exact this.mono fun e w' ⟨hr, k⟩ => ⟨(ver_same hp h.gb hr).one he, k⟩
theorem Dcs.gb {cs cl : List Uc} {l : List (List Li)} (hg : cl.map gb = cs.map gb) (h : Dcs cl l) : Dcs cs l := by
  have hl : cl.length = cs.length := by have := congrArg List.length hg; rwa [List.length_map, List.length_map] at this
  refine ⟨h.len.trans hl, fun i h1 h2 => ?_⟩
  have h3 : i < cl.length := by omega
  obtain ⟨y, z, hd⟩ := h.dec i h1 h3
  have e : Go.Proofs.Ytmcaoimgmgjjiaa.gb cl[i] = Go.Proofs.Ytmcaoimgmgjjiaa.gb cs[i] := by
    have := congrArg (fun l => l[i]?) hg
    simpa [List.getElem?_eq_getElem h2, List.getElem?_eq_getElem h3] using this
  have e2 : cl[i].bs = cs[i].bs := congrArg Prod.snd e
  rw [e2] at hd
  exact ⟨y, z, hd⟩
theorem outcomes_lst {n c : Nat} (h : Lst w a cs) (hn : cs.length = n) (tx : List UInt8) : Calls Try.prog 14 #[.slice a n c, .string ⟨tx.toArray⟩] w fun e w' => (∃ v lss, e = .returned v ∧ Dcs cs lss ∧ Its w' w.heap.size v (outO (kol (outR lss) tx))) ∧ Kept (fun _ => True) w w' := by
  subst hn
  exact (outcomes_any h.cv h.few tx).mono fun e w' ⟨v, lss, he, hd, hi, k⟩ => ⟨⟨v, lss, he, hd, hi⟩, k⟩
theorem routcomes_lst {n c : Nat} {w0 : World} {a0 : Option Addr} (h0 : Lst w0 a0 cs) (h : Ldc w a cs cl) (hn : cs.length = n) (tx : List UInt8) {lss : List (List Li)} (hd : Dcs cs lss) : Calls Try.prog 15 #[.slice a n c, .string ⟨tx.toArray⟩] w fun e w' => (∃ v, e = .returned v ∧ Its w' w.heap.size v (outO (kol (outR lss) tx))) ∧ Kept (fun _ => True) w w' := by
  have hl := h.len
  have hf := ldc_few h.gb (fun c hc => (h0.cl c hc).few)
  have := routcomes_any (cap := c) h.cv (by have := h0.few; omega) (fun c hc => ⟨(h.cap c hc).1, (h.cap c hc).2, hf c hc⟩) tx
  rw [hl, hn] at this
  refine this.mono ?_
  rintro e w' ⟨v, lss', rfl, hd', hi, k⟩
  obtain rfl := hd.one (hd'.gb h.gb)
  exact ⟨⟨v, rfl, hi⟩, k⟩
end

end Go.Proofs.Ytmcaoimgmgjjiaa

namespace Go.Proofs.Ytmcaoimgmgjjiaa
open Go.ChangeShapes Go.WideShapes Go.ChangeAt Go.RowKit

theorem own : ownKnob Try.prog.godebug = none := by kernel_rfl
theorem laidOut : laidOutB Try.prog = true := by kernel_rfl
end Go.Proofs.Ytmcaoimgmgjjiaa

namespace Go.Proofs.Ytmcaoimgmgjjiaa
open Go.RowKit Go.Deep Go.Joins Go.WideShapes Go.ChangeShapes Go.ChangeAt

theorem Try.cellsIntu : Try.prog.cellsOf 3 = 1 := by kernel_rfl
theorem Try.cellsRec : Try.prog.cellsOf 24 = 4 := by kernel_rfl
def Cp (x : Rr) : Prop := x.1.gs.length ≤ x.2.2 ∧ (x.2.1 = none → x.2.2 = 0)
theorem open_gi {H : Type} {enc : TypeId × Value → H} {W : World} {v : Value} {fuel : Nat} {z : DataW H × List MemPlace} (h : DataW.trod enc Try.prog W 0 (fun _ => true) true fuel 22 [v] = some z) : ∃ (gs : List Int) (a : Option Addr) (c : Nat), v = .slice a gs.length c ∧ Gi W a gs ∧ gs.length ≤ c ∧ (a = none → c = 0) := by
  rcases open_ints Try.underlying22 Try.underlying3 Try.cellsIntu h with ⟨hcs, hx⟩ | ⟨x, l, c, zs, hcs, _, hl, hm, hz, hx, hcell, hwz⟩
  · simp only [List.cons.injEq, and_true] at hcs
    exact ⟨[], none, 0, hcs, fun h => by simp at h, Nat.le_refl _, fun _ => rfl⟩
  · simp only [List.cons.injEq, and_true] at hcs
    simp only [if_true] at hz
    refine ⟨zs.take l, some x, c, by rw [hcs, List.length_take]; congr 1; omega, fun h0 => ?_, by rw [List.length_take]; omega, fun e => by cases e⟩
    rw [List.length_take] at h0
    obtain ⟨b, off, spot⟩ := x
    have hspot : spot = none := by simpa [Addr.add] using World.cell?_spot (hcell 0 (by omega))
    subst hspot
    have c0 := hcell 0 (by omega)
    rw [add_plain] at c0
    refine ⟨b, off, rfl, World.block_lt_of_cell? W _ c0, fun i hi => ?_⟩
    rw [List.length_take] at hi
    have ci := hcell i (by omega)
    rw [add_plain] at ci
    rw [ci, List.getElem_take]
    simp [List.getD, show i < zs.length by omega]
theorem four_ofu {α : Type} {l : List α} (h : l.length = 4) : ∃ a b c d, l = [a, b, c, d] := by
  match l, h with
  | [a, b, c, d], _ => exact ⟨a, b, c, d, rfl⟩
end Go.Proofs.Ytmcaoimgmgjjiaa

namespace Go.Proofs.Ytmcaoimgmgjjiaa
open Go.RowKit Go.Deep Go.Joins Go.WideShapes Go.ChangeShapes Go.ChangeAt

theorem bulk_mem {H : Type} {l : List (DataW H)} (hk : Rows.uptoSmall H l = true) : Rows.uptoBulkAll l ≤ 1048576 := of_decide_eq_true hk
theorem trod_rec4b {H : Type} {enc : TypeId × Value → H} {W : World} {t : TypeId} {f0 f1 f2 f3 : Field} {fuel : Nat} {cs : List Value} {x : DataW H × List MemPlace} (ht : Try.prog.underlying t = some (.struct #[f0, f1, f2, f3])) (h : DataW.trod enc Try.prog W 0 (fun _ => true) true fuel t cs = some x) :
    ∃ y0 y1 y2 y3 n, x.1 = .agg [y0.1, y1.1, y2.1, y3.1] ∧ DataW.trod enc Try.prog W 0 (fun _ => true) true n f0.type ((cs.drop f0.offset).take (Try.prog.cellsOf f0.type)) = some y0 ∧
      DataW.trod enc Try.prog W 0 (fun _ => true) true n f1.type ((cs.drop f1.offset).take (Try.prog.cellsOf f1.type)) = some y1 ∧ DataW.trod enc Try.prog W 0 (fun _ => true) true n f2.type ((cs.drop f2.offset).take (Try.prog.cellsOf f2.type)) = some y2 ∧
      DataW.trod enc Try.prog W 0 (fun _ => true) true n f3.type ((cs.drop f3.offset).take (Try.prog.cellsOf f3.type)) = some y3 := by
  obtain ⟨xs, n, _, rfl, hl, hlen, hf⟩ := DataW.trod_struct ht h
  match xs, hlen with
  | [y0, y1, y2, y3], _ => exact ⟨y0, y1, y2, y3, n, by simp, by simpa using hf 0 f0 rfl, by simpa using hf 1 f1 rfl, by simpa using hf 2 f2 rfl, by simpa using hf 3 f3 rfl⟩
set_option maxRecDepth 100000 in
theorem open_fourb {H : Type} {enc : TypeId × Value → H} {W : World} {fuel : Nat} {vs : List Value} {z : DataW H × List MemPlace} (hl : vs.length = 4) (h : DataW.trod enc Try.prog W 0 (fun _ => true) true fuel 24 vs = some z) : ∃ x : Rr, vs = rcell x ∧ Gi W x.2.1 x.1.gs ∧ Cp x ∧ x.1.tx.length + x.1.bd.length ≤ Rows.uptoBulk z.1 := by
  obtain ⟨v0, v1, v2, v3, rfl⟩ := four_ofu hl
  obtain ⟨y0, y1, y2, y3, k, hz, g0, g1, g2, g3⟩ := trod_rec4b Try.underlying24 h
  have e0 : DataW.trod enc Try.prog W 0 (fun _ => true) true k 3 [v0] = some y0 := g0
  have e1 : DataW.trod enc Try.prog W 0 (fun _ => true) true k 9 [v1] = some y1 := g1
  have e2 : DataW.trod enc Try.prog W 0 (fun _ => true) true k 22 [v2] = some y2 := g2
  have e3 : DataW.trod enc Try.prog W 0 (fun _ => true) true k 9 [v3] = some y3 := g3
  obtain ⟨z0, q0, rfl, _⟩ := DataW.trod_int Try.underlying3 e0
  obtain ⟨⟨⟨s1⟩⟩, q1, rfl, hs1⟩ := DataW.trod_string Try.underlying9 e1
  obtain ⟨gs, a, c, rfl, hg, hc1, hc2⟩ := open_gi e2
  obtain ⟨⟨⟨s3⟩⟩, q3, rfl, hs3⟩ := DataW.trod_string Try.underlying9 e3
  simp only [List.cons.injEq, and_true] at q0 q1 q3
  subst q0 q1 q3
  refine ⟨(⟨z0, s1, gs, s3⟩, (a, c)), rfl, hg, ⟨hc1, hc2⟩, ?_⟩
  rw [hz]
  simp only [Rows.uptoBulk, Rows.uptoBulkAll]
  omega
theorem open_gis {H : Type} {enc : TypeId × Value → H} {W : World} {a : Option Addr} {len cap : Nat} {d : DataW H} {p : List MemPlace} (h : DataW.Trod enc Try.prog W 0 (fun _ => true) true 22 (.slice a len cap) d p) : ∃ gs : List Int, gs.length = len ∧ Gi W a gs := by
  obtain ⟨fuel, hf⟩ := h
  have hf' : DataW.trod enc Try.prog W 0 (fun _ => true) true fuel 22 [.slice a len cap] = some (d, p) := by simpa [Value.cells] using hf
  obtain ⟨gs, a', c, e, hg, _⟩ := open_gi hf'
  injection e with e1 e2 e3
  subst e1 e2
  exact ⟨gs, rfl, hg⟩

end Go.Proofs.Ytmcaoimgmgjjiaa

namespace Go.Proofs.Ytmcaoimgmgjjiaa
open Go.RowKit Go.Deep Go.Joins Go.WideShapes Go.ChangeShapes Go.ChangeAt

def ltr (r : Rr) : Nat := r.1.tx.length + r.1.bd.length
def sumL : List Rr → Nat
  | [] => 0
  | r :: rs => ltr r + sumL rs
theorem sum_le {H : Type} (f : Nat → Rr) (D : Nat → DataW H) : ∀ {L : List Nat}, (∀ i ∈ L, ltr (f i) ≤ Rows.uptoBulk (D i)) → sumL (L.map f) ≤ Rows.uptoBulkAll (L.map D)
  | [], _ => Nat.zero_le _
  | i :: L, h => by
    have h1 := sum_le f D (fun j hj => h j (List.mem_cons_of_mem _ hj)) (L := L)
    have h2 := h i (by simp)
    simp only [List.map_cons, sumL, Rows.uptoBulkAll]
    omega
set_option maxRecDepth 100000 in
theorem open_recsb {H : Type} {enc : TypeId × Value → H} {W : World} {a : Option Addr} {len cap : Nat} {d : DataW H} {p : List MemPlace} (h : DataW.Trod enc Try.prog W 0 (fun _ => true) true 29 (.slice a len cap) d p) : ∃ rs : List Rr, rs.length = len ∧ Rrv W a rs ∧ (∀ r ∈ rs, Cp r) ∧ sumL rs ≤ Rows.uptoBulk d := by
  obtain ⟨fuel, hf⟩ := h
  rcases open_slice Try.underlying29 hf with ⟨hcs, hx⟩ | ⟨x, l, c, m, n, D, Pl, hcs, _, hl, hm, hmm, hx, hel⟩
  · simp [Value.cells] at hcs
    obtain ⟨rfl, rfl, rfl⟩ := hcs
    exact ⟨[], rfl, Rrv.nil _ _, (fun _ h => by cases h), Nat.zero_le _⟩
  · simp [Value.cells] at hcs
    obtain ⟨rfl, rfl, rfl⟩ := hcs
    simp only [if_true] at hmm
    subst hmm
    rw [Try.cellsRec] at hel
    have key : ∀ i, i < len → ∃ r : Rr, (W.cell? (x.add (i * 4 + 0)) = some (.int .i64 r.1.k) ∧ W.cell? (x.add (i * 4 + 1)) = some (.string ⟨r.1.tx.toArray⟩) ∧ W.cell? (x.add (i * 4 + 2)) = some (.slice r.2.1 r.1.gs.length r.2.2) ∧ W.cell? (x.add (i * 4 + 3)) = some (.string ⟨r.1.bd.toArray⟩)) ∧ Gi W r.2.1 r.1.gs ∧ Cp r ∧ ltr r ≤ Rows.uptoBulk (D i) := by
      intro i hi
      obtain ⟨cs', h1, h2⟩ := hel i (by omega)
      obtain ⟨_, hl5, hc5⟩ := World.cells?_some h1
      obtain ⟨r, rfl, hg, hc, hb⟩ := open_fourb hl5 h2
      have q0 := hc5 0 (by omega)
      have q1 := hc5 1 (by omega)
      have q2 := hc5 2 (by omega)
      have q3 := hc5 3 (by omega)
      simp only [add_add] at q0 q1 q2 q3
      exact ⟨r, ⟨q0, q1, q2, q3⟩, hg, hc, hb⟩
    obtain ⟨f, hf2⟩ : ∃ f : Nat → Rr, ∀ i, i < len → (W.cell? (x.add (i * 4 + 0)) = some (.int .i64 (f i).1.k) ∧ W.cell? (x.add (i * 4 + 1)) = some (.string ⟨(f i).1.tx.toArray⟩) ∧ W.cell? (x.add (i * 4 + 2)) = some (.slice (f i).2.1 (f i).1.gs.length (f i).2.2) ∧ W.cell? (x.add (i * 4 + 3)) = some (.string ⟨(f i).1.bd.toArray⟩)) ∧ Gi W (f i).2.1 (f i).1.gs ∧ Cp (f i) ∧ ltr (f i) ≤ Rows.uptoBulk (D i) := by
      classical
      refine ⟨fun i => if hi : i < len then Classical.choose (key i hi) else (⟨0, [], [], []⟩, (none, 0)), fun i hi => ?_⟩
      simp only [dif_pos hi]
      exact Classical.choose_spec (key i hi)
    refine ⟨(List.range len).map f, by rw [List.length_map, List.length_range], ⟨⟨fun h0 => ?_⟩, fun r hr => ?_⟩, fun r hr => ?_, ?_⟩
    · rw [List.length_map, List.length_range] at h0
      obtain ⟨b, off, spot⟩ := x
      have w0 := (hf2 0 h0).1.1
      have hspot : spot = none := by simpa [Addr.add] using World.cell?_spot w0
      subst hspot
      rw [add_plain] at w0
      refine ⟨b, off, rfl, World.block_lt_of_cell? W _ w0, fun i hi => ?_⟩
      have hi' : i < len := by simpa using hi
      obtain ⟨⟨a0, a1, a2, a3⟩, _⟩ := hf2 i hi'
      simp only [add_plain] at a0 a1 a2 a3
      simp only [List.getElem_map, List.getElem_range]
      intro j u hu
      show W.cell? ⟨b, off + i * 4 + j, none⟩ = some u
      match j, hu with
      | 0, hu => cases hu; rw [show off + i * 4 + 0 = off + (i * 4 + 0) by omega]; exact a0
      | 1, hu => cases hu; rw [show off + i * 4 + 1 = off + (i * 4 + 1) by omega]; exact a1
      | 2, hu => cases hu; rw [show off + i * 4 + 2 = off + (i * 4 + 2) by omega]; exact a2
      | 3, hu => cases hu; rw [show off + i * 4 + 3 = off + (i * 4 + 3) by omega]; exact a3
      | j + 4, hu => cases hu
    · obtain ⟨i, hi, rfl⟩ := List.mem_map.1 hr
      exact (hf2 i (List.mem_range.1 hi)).2.1
    · obtain ⟨i, hi, rfl⟩ := List.mem_map.1 hr
      exact (hf2 i (List.mem_range.1 hi)).2.2.1
    · have hd : d = .slice ((List.range len).map D) ((List.range (m - len)).map fun j => D (len + j)) := congrArg Prod.fst hx
      have h1 := sum_le (L := List.range len) f D (fun i hi => (hf2 i (List.mem_range.1 hi)).2.2.2)
      rw [hd]
      simp only [Rows.uptoBulk]
      omega

end Go.Proofs.Ytmcaoimgmgjjiaa

namespace Go.Proofs.Ytmcaoimgmgjjiaa
open Go.RowKit Go.Maps Go.Sort

def Gq (w : World) (lim : Nat) (r : Rr) : Prop := 0 < r.1.gs.length → ∃ b off, r.2.1 = some ⟨b, off, none⟩ ∧ b < w.heap.size ∧ (∀ i (h : i < r.1.gs.length), w.cell? ⟨b, off + i, none⟩ = some (.int .i64 r.1.gs[i])) ∧ (b < lim ∨ ∃ cs fr, w.heap[b]? = some (.cells cs 3 fr))
structure Rwq (w : World) (base : Nat) (v : Value) (xs : List Rr) : Prop where
  ow : Ow recS 24 w base v xs
  gs : ∀ r ∈ xs, Gq w base r
section
variable {w w' : World} {base lim : Nat} {v : Value} {xs : List Rr} {r : Rr}
theorem Gq.gi (h : Gq w lim r) : Gi w r.2.1 r.1.gs := fun h0 => by
  obtain ⟨b, off, e, hb, hc, _⟩ := h h0
  exact ⟨b, off, e, hb, hc⟩
theorem Gq.of {lim : Nat} (h : Gi w r.2.1 r.1.gs) (hl : w.heap.size ≤ lim) : Gq w lim r := fun h0 => by
  obtain ⟨b, off, e, hb, hc⟩ := h h0
  exact ⟨b, off, e, hb, hc, .inl (Nat.lt_of_lt_of_le hb hl)⟩
theorem Gq.kept {p : Nat → Prop} (h : Gq w lim r) (k : Kept p w w') (hp : ∀ b, b < w.heap.size → (b < lim ∨ ∃ cs fr, w.heap[b]? = some (.cells cs 3 fr)) → p b) : Gq w' lim r := fun h0 => by
  obtain ⟨b, off, e, hb, hc, hq⟩ := h h0
  refine ⟨b, off, e, Nat.lt_of_lt_of_le hb k.size, fun i hi => (kept_cell k hb (hp b hb hq)).trans (hc i hi), ?_⟩
  rcases hq with q | ⟨cs, fr, q⟩
  · exact .inl q
  · exact .inr ⟨cs, fr, (k.block b hb (hp b hb (.inr ⟨cs, fr, q⟩))).trans q⟩
theorem Gq.all (h : Gq w lim r) (k : Kept (fun _ => True) w w') : Gq w' lim r := h.kept k (fun _ _ _ => trivial)
theorem Rwq.nil (w : World) (base : Nat) : Rwq w base (.slice none 0 0) [] := ⟨Ow.nil _ _ _, fun _ h => by cases h⟩
theorem Rwq.all (h : Rwq w base v xs) (k : Kept (fun _ => True) w w') : Rwq w' base v xs := ⟨h.ow.all k, fun r hr => (h.gs r hr).all k⟩
theorem Rwq.kept {p : Nat → Prop} (h : Rwq w base v xs) (k : Kept p w w') (ho : ∀ b, v.ownBlock = some b → p b) (hp : ∀ b, b < w.heap.size → (b < base ∨ ∃ cs fr, w.heap[b]? = some (.cells cs 3 fr)) → p b) : Rwq w' base v xs := ⟨h.ow.kept k ho, fun r hr => (h.gs r hr).kept k hp⟩
theorem Gq.take {n : Nat} {k : Int} {tx bd : List UInt8} {gs : List Int} {a : Option Addr} {c : Nat} (h : Gq w lim (⟨k, tx, gs, bd⟩, (a, c))) : Gq w lim (⟨k, tx, gs.take n, bd⟩, (a, c)) := fun h0 => by
  have h1 : 0 < gs.length := by simp only [List.length_take] at h0; omega
  obtain ⟨b, off, e, hb, hc, hq⟩ := h h1
  refine ⟨b, off, e, hb, fun i hi => ?_, hq⟩
  have hi' : i < gs.length := by simp only [List.length_take] at hi; omega
  show _ = some (Value.int .i64 (gs.take n)[i])
  rw [List.getElem_take]
  exact hc i hi'
theorem Rwq.rrv {a : Option Addr} {n c : Nat} (h : Rwq w base (.slice a n c) xs) : Rrv w a xs := ⟨h.ow.view, fun r hr => (h.gs r hr).gi⟩
theorem Rwq.step {n c M : Nat} {ao a' : Option Addr} {c' : Nat} {o : Obj} (h : Rwq w base (.slice ao n c) xs) (hx : Gq w base r) (ho : Ow recS 24 w' base (.slice a' M c') (xs ++ [r])) (hg : (w.alloc o).grownBy w' (Value.slice ao n c).ownBlock) : Rwq w' base (.slice a' M c') (xs ++ [r]) := by
  have k : Kept (fun x => (Value.slice ao n c).ownBlock ≠ some x) w w' := ((Kept.refl _ _).alloc _).grown hg (fun x _ e h => h e)
  have far : ∀ q : Rr, Gq w base q → Gq w' base q := fun q hq => hq.kept k (fun b _ hb e => by
    rcases hb with hb | ⟨cs, fr, hb⟩
    · have := h.ow.ge e
      omega
    · exact h.ow.ne hb (by decide) e)
  refine ⟨ho, fun q hq => ?_⟩
  rcases List.mem_append.1 hq with q1 | q1
  · exact far q (h.gs q q1)
  · rw [List.mem_singleton.1 q1]; exact far r hx
end
theorem sumL_append : ∀ (xs ys : List Rr), sumL (xs ++ ys) = sumL xs + sumL ys
  | [], ys => by simp [sumL]
  | x :: xs, ys => by
    simp only [List.cons_append, sumL, sumL_append xs ys]
    omega
theorem sumL_mem {r : Rr} : ∀ {xs : List Rr}, r ∈ xs → ltr r ≤ sumL xs
  | x :: xs, h => by
    rcases List.mem_cons.1 h with rfl | h
    · simp only [sumL]; omega
    · have := sumL_mem h
      simp only [sumL]
      omega
theorem sumL_take (xs : List Rr) (k : Nat) : sumL (xs.take k) ≤ sumL xs := by
  have := sumL_append (xs.take k) (xs.drop k)
  rw [List.take_append_drop] at this
  omega
theorem encGi_len' (gs : List Int) : (encGi gs).length = gs.length := by
  induction gs with
  | nil => rfl
  | cons g gs ih =>
    show (enc (u64 g) 1 ++ encGi gs).length = _
    rw [List.length_append, enc_length, ih, List.length_cons]
    omega
theorem encU_le (r : Rr) : (encU r.1).length ≤ ltr r + r.1.gs.length + 16 := by
  unfold encU ltr
  simp only [List.length_append, enc_length, encGi_len']
  omega
theorem wgt_txs (xs : List Li) : wgt xs = ((txs xs).map fun t => t.length + 36).sum := by
  unfold wgt txs
  rw [List.map_map]
  rfl
theorem sum_enc : ∀ (rs : List Rr), (∀ r ∈ rs, r.1.gs.length ≤ 6) → ((rs.map fun r => encU r.1).map fun t => t.length + 36).sum ≤ sumL rs + rs.length * 58
  | [], _ => by simp [sumL]
  | r :: rs, h => by
    have h1 := sum_enc rs (fun q hq => h q (List.mem_cons_of_mem _ hq))
    have h2 := encU_le r
    have h3 := h r (by simp)
    simp only [List.map_cons, List.sum_cons, sumL, List.length_cons]
    omega
theorem clq_big {w : World} {a : Option Addr} {n c : Nat} {rs : List Rr} (g : Int) (hg : Fits g) (h : Rrv w a rs) (hn : rs.length = n) (h8 : n ≤ 8) (h6 : ∀ r ∈ rs, r.1.gs.length ≤ 6) (hs : sumL rs ≤ 1048600) :
    Calls Try.prog 9 #[.int .i64 g, .slice a n c] w fun e w' => ∃ (a : Option Addr) (c : Nat) (bs : List UInt8), e = .returned (.agg #[.int .i64 g, .slice a bs.length c]) ∧ Clq w' ⟨g, bs, a, c⟩ ∧ Ob w' w.heap.size (.slice a bs.length c) bs ∧ 0 < bs.length ∧ Kept (fun _ => True) w w' := by
  subst hn
  refine (claim_any (cap := c) g h (by omega) (fun r hr => by have := sumL_mem hr; unfold ltr at this; omega) (fun r hr => by have := h6 r hr; omega)).mono ?_
  rintro e w' ⟨a', c', rfl, ho, k⟩
  obtain ⟨s1, s2⟩ := ob_shape ho
  have h1 : wgt (mkC (rs.map fun r => encU r.1)) ≤ sumL rs + rs.length * 58 := by
    rw [wgt_txs, txs_mkC]
    exact sum_enc rs h6
  have hl : (encL (mkC (rs.map fun r => encU r.1))).length = wgt (mkC (rs.map fun r => encU r.1)) + 4 := encL_len _
  exact ⟨a', c', _, rfl, ⟨own_has ho, hg, s1, s2, by show (encL _).length ≤ 2000000; rw [hl]; omega⟩, ho, by show 0 < (encL _).length; rw [hl]; omega, k⟩

end Go.Proofs.Ytmcaoimgmgjjiaa
