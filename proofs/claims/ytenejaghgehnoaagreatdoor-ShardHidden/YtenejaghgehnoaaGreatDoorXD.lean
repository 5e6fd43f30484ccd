/-
  Texts of the proofs, 4 of 6.
-/
import Derived.Test.YtenejaghgehnoaaGreatDoorXC
import Derived.Test.YtenejaghgehnoaaGreatDoorXB
import Derived.Laws.Cover1
import Derived.Test.YtenejaghgehnoaaGreatDoorXA
import Derived.Deep.CutRange
namespace Go.Proofs.YtenejaghgehnoaaGreatDoor
open Go.RowKit Go.Maps Go.Sort Go.Shelf Go.Proofs

theorem scell_turn {tv : Value} {hs : Nat → Nat} {a : Ft} {j k : Nat} (hj : j < 256) (i : Nat) : (if i = 1 + j then (.int .i64 (k : Nat)) else scell tv hs a i) = scell tv (fun q => if q = j then k else hs q) a i := by
  unfold scell
  by_cases e : i = 1 + j
  · subst e
    rw [if_pos rfl, if_neg (by omega), if_pos (by omega)]
    dsimp only
    rw [if_pos (by omega)]
  · rw [if_neg e]
    by_cases h0 : i = 0
    · rw [if_pos h0, if_pos h0]
    · rw [if_neg h0, if_neg h0]
      by_cases h1 : i < 257
      · rw [if_pos h1, if_pos h1]
        dsimp only
        rw [if_neg (by omega)]
      · rw [if_neg h1, if_neg h1]
theorem turn_next {hs : Nat → Nat} {lo : Int} {i k : Nat} (hi : lo ≤ (i : Int)) : (fun q => if q = i then k else turnP hs lo (i : Int) k q) = turnP hs lo ((i : Int) + 1) k := by
  funext q
  unfold turnP
  by_cases e : q = i
  · subst e
    rw [if_pos rfl, if_pos ⟨hi, by omega⟩]
  · rw [if_neg e]
    by_cases h : lo ≤ (q : Int) ∧ (q : Int) < (i : Int)
    · rw [if_pos h, if_pos ⟨h.1, by omega⟩]
    · rw [if_neg h, if_neg (fun h' => h ⟨h'.1, by omega⟩)]
theorem turn_none {hs : Nat → Nat} {lo : Int} {k : Nat} : turnP hs lo lo k = hs := by
  funext q
  unfold turnP
  rw [if_neg (by omega)]

set_option maxRecDepth 100000 in
set_option maxHeartbeats 4000000 in
theorem turn_any {w : World} {a : Ft} {n : Nat} {tv : Value} {h : Lk} {s : Sh} (m : Sm w a n tv h s) {lo hi : Int} (h0 : 0 ≤ lo) (h1 : lo ≤ hi) (h2 : hi ≤ 256) (k : Nat) :
    Calls Tryz.prog 65 #[.pointer (some ⟨a.S, 0, none⟩), .int .i64 lo, .int .i64 hi, .int .i64 (k : Nat)] w fun e w' => e = .returned (.tuple #[]) ∧ Sm w' a n tv h { s with hs := turnP s.hs lo hi k } ∧ Fstep a w w' a := by
  have HM : Hid (Sm w a n tv h s) := m
  clear m
  go_enter Tryz.func65, Tryz.ntmps65
  go_wp2_with fail
  go_loopw [8] (fun ti wr => ∃ i : Nat, lo ≤ (i : Int) ∧ (i : Int) ≤ hi ∧ ti = .int .i64 (i : Int) ∧ Af wr a.S 117 261 (scell tv (turnP s.hs lo (i : Int) k) a) ∧ Kept (· ≠ a.S) w wr) (fun ti _ => (hi - intOf ti).toNat)
  case atStart =>
    refine ⟨lo.toNat, by omega, by omega, by rw [Int.toNat_of_nonneg h0], ?_, Kept.refl _ _⟩
    rw [Int.toNat_of_nonneg h0, turn_none]
    exact HM.out.self
  case round =>
    obtain ⟨i, hi1, hi2, rfl, haf, hk⟩ := hrel
    have HAf : Hid _ := haf
    have HK : Hid (Kept (· ≠ a.S) w wr) := hk
    by_cases hlt : (i : Int) < hi
    · have hi8 : i < 256 := by omega
      have c1 := haf.cell (i := 1 + i) (by omega)
      have fr := haf.free (1 + i)
      have hset := haf.set (1 + i) (.int .i64 (k : Nat))
      have HS : Hid (Af _ a.S 117 261 (scell tv (turnP s.hs lo ((i : Int) + 1) k) a)) := hset.congr (fun q _ => by rw [scell_turn hi8 q, turn_next hi1])
      have HK2 : Hid (Kept (· ≠ a.S) w (wr.setCell ⟨a.S, 1 + i, none⟩ (.int .i64 (k : Nat)))) := hk.setCell (by simp) _
      have g0 : (0 : Int) ≤ (i : Int) := by omega
      have g1 : (i : Int) < 256 := by omega
      have hw : IntKind.i64.wrap ((i : Int) + 1) = (i : Int) + 1 := by simp [IntKind.wrap, IntKind.bits, IntKind.signed]; omega
      clear haf hk hset
      go_wp2_with fail
      go_roundw
      case rel => exact ⟨i + 1, by omega, by omega, by go_num, by rw [show ((i + 1 : Nat) : Int) = (i : Int) + 1 by omega]; exact HS.out, HK2.out⟩
      case measure => simp [intOf]; omega
    · have e : (i : Int) = hi := by omega
      have HE : Hid _ := e
      clear haf hk e
      go_wp2_with fail
      go_end0
      have hs := HAf.out
      rw [HE.out] at hs
      have m := HM.out
      have hp : Plainly (· ≠ a.S) w := by
        have := m.plainly
        obtain ⟨ao, c, e, _⟩ := m.types.form
        have hno := fun i => scell_no (hs := s.hs) (a := a) ⟨ao, _, c, e⟩ i
        have hself := m.self
        unfold Af at hself
        exact plainly_ne hself (by decide) (by decide) (fun j v q => by
          have hv : v = scell tv s.hs a j := by
            simp only [List.getElem?_toArray, List.getElem?_map] at q
            rcases Nat.lt_or_ge j 261 with hj | hj
            · simp [hj] at q
              exact q.symm
            · simp [hj] at q
          rw [hv]
          exact ⟨(hno j).1, (hno j).2.2⟩)
      have hmap : ∀ {X : Nat}, (∃ es clock, w.heap[X]? = some (.map es clock)) → X ≠ a.S := fun hX e => (m.notS hX).1 e.symm
      have hT : a.T ≠ a.S := fun e => by
        obtain ⟨cs, fr, q⟩ := m.tself
        have := m.self
        unfold Af at this
        rw [e, this] at q
        simp only [Option.some.injEq, Obj.cells.injEq] at q
        exact absurd q.2.1 (by decide)
      exact ⟨rfl, ⟨hs, m.types.plain HK.out hp, m.cases.plain HK.out (hmap m.cases.isMap) hp, m.preps.plain HK.out (hmap m.preps.isMap) hp, m.outs.kept HK.out (hmap m.outs.isMap), Tw.kept m.tb HK.out hT (fun x b e => hmap (Tw.isMap m.tb e)), m.alone, m.rep, m.cp, m.co, m.po, m.bs⟩, HK.out.mono (fun i _ h e => h (.inl e)), fun _ h => .inl h⟩

set_option maxHeartbeats 400000 in
theorem prepared_any {w : World} {a : Ft} {n : Nat} {tv : Value} {h : Lk} {s : Sh} (m : Sm w a n tv h s) (hn : n ≤ 1000000) :
    Calls Tryz.prog 37 #[.pointer (some ⟨a.S, 0, none⟩)] w fun e w' => ∃ v us, e = .returned v ∧ Rises us ∧ (∀ x, x ∈ us ↔ look s.ps x ≠ none) ∧ us.length ≤ n ∧ Txs w' w.heap.size v us ∧ Kept (fun _ => True) w w' := by
  obtain ⟨fv, mp, h1, _⟩ := m.preps
  have ck : Calls Tryz.prog 95 #[.map (some a.P)] w fun e w' => e = .returned (.func (.func 150) #[] #[.pointer (some ⟨w.heap.size, 0, none⟩)]) ∧ w' = w.alloc (.cells #[.map (some a.P)] 111) := callsIn_wide.1 (AnyZ.keys_in keysP Fence.wide 5 trivial rfl (some a.P) w)
  have cs : Calls Tryz.prog 80 #[.func (.func 150) #[] #[.pointer (some ⟨w.heap.size, 0, none⟩)]] (w.alloc (.cells #[.map (some a.P)] 111)) _ := sorted_keys keysP rfl (enters_of Tryz.func150 (by kernel_rfl) rfl) (.inr ⟨a.P, rfl, mp⟩) hn
  have c1 := m.cellP
  have H1 : Hid _ := h1
  clear m mp h1
  go_enter Tryz.func37, Tryz.ntmps37
  go_wp2_with fail
  refine Calls.mono ck ?_
  rintro e _ ⟨rfl, rfl⟩
  clear ck
  go_wp2_with fail
  refine Calls.mono cs ?_
  rintro e w2 ⟨v, us, rfl, q1, q2, q3, q4, q5⟩
  clear cs
  go_wp2_with fail
  go_ret
  exact ⟨_, us, rfl, q1, fun x => by rw [q2 x]; exact not_congr (H1.out x), q3, q4, q5⟩

set_option maxHeartbeats 400000 in
theorem names_of {w : World} {a : Ft} {n : Nat} {tv : Value} {h : Lk} {s : Sh} (m : Sm w a n tv h s) (hn : n ≤ 1000000) :
    Calls Tryz.prog 56 #[.pointer (some ⟨a.S, 0, none⟩)] w fun e w' => ∃ v us, e = .returned v ∧ Rises us ∧ (∀ x, x ∈ us ↔ look s.cs x ≠ none) ∧ us.length ≤ n ∧ Txs w' w.heap.size v us ∧ Kept (fun _ => True) w w' := by
  obtain ⟨fv, mp, h1, _⟩ := m.cases
  have ck : Calls Tryz.prog 118 #[.map (some a.C)] w fun e w' => e = .returned (.func (.func 158) #[] #[.pointer (some ⟨w.heap.size, 0, none⟩)]) ∧ w' = w.alloc (.cells #[.map (some a.C)] 110) := callsIn_wide.1 (AnyZ.keys_in keysS Fence.wide 5 trivial rfl (some a.C) w)
  have cs : Calls Tryz.prog 80 #[.func (.func 158) #[] #[.pointer (some ⟨w.heap.size, 0, none⟩)]] (w.alloc (.cells #[.map (some a.C)] 110)) _ := sorted_keys keysS rfl (enters_of Tryz.func158 (by kernel_rfl) rfl) (.inr ⟨a.C, rfl, mp⟩) hn
  have c1 := m.cellC
  have H1 : Hid _ := h1
  clear m mp h1
  go_enter Tryz.func56, Tryz.ntmps56
  go_wp2_with fail
  refine Calls.mono ck ?_
  rintro e _ ⟨rfl, rfl⟩
  clear ck
  go_wp2_with fail
  refine Calls.mono cs ?_
  rintro e w2 ⟨v, us, rfl, q1, q2, q3, q4, q5⟩
  clear cs
  go_wp2_with fail
  go_ret
  exact ⟨_, us, rfl, q1, fun x => by rw [q2 x]; exact not_congr (H1.out x), q3, q4, q5⟩

end Go.Proofs.YtenejaghgehnoaaGreatDoor

namespace Go.Proofs.YtenejaghgehnoaaGreatDoor
open Go.RowKit

/-- The cells of a variable of four: a text, three slices. -/
theorem box_cells {w : World} {D : Nat} {s : ByteArray} {a1 a2 a3 : Option Addr} {n1 n2 n3 c1 c2 c3 : Nat} {T : TypeId} {fr : Nat × Nat} (h : w.heap[D]? = some (.cells #[.string s, .slice a1 n1 c1, .slice a2 n2 c2, .slice a3 n3 c3] T fr)) {o : Nat} {u : Value} (hu : w.cell? ⟨D, o, none⟩ = some u) : (o = 0 ∧ u = .string s) ∨ (o ≠ 0 ∧ ∃ a n c, u = .slice a n c) := by
  rw [cell_of_row w D _ _ _ _ h] at hu
  rcases o with _ | _ | _ | _ | o
  · simp at hu
    exact .inl ⟨rfl, hu.symm⟩
  · simp at hu
    exact .inr ⟨by omega, _, _, _, hu.symm⟩
  · simp at hu
    exact .inr ⟨by omega, _, _, _, hu.symm⟩
  · simp at hu
    exact .inr ⟨by omega, _, _, _, hu.symm⟩
  · simp at hu
section
variable {w w' : World} {D : Nat} {s : ByteArray} {a1 a2 a3 : Option Addr} {n1 n2 n3 c1 c2 c3 : Nat} {T : TypeId} {fr : Nat × Nat}
theorem TyV.store {v : Value} {t : Ty} (h : TyV w v t) (hD : w.heap[D]? = some (.cells #[.string s, .slice a1 n1 c1, .slice a2 n2 c2, .slice a3 n3 c3] T fr)) (k : Kept (· ≠ D) w w') : TyV w' v t := by
  obtain ⟨va, vs, vm, e, ⟨x1, x2, x3, x4, x5, x6⟩, ⟨y1, y2, y3, y4, y5, y6⟩, ⟨z1, z2, z3, z4, z5, z6⟩⟩ := h
  refine ⟨va, vs, vm, e, ⟨x1, x2, x3, x4, x5, fun h0 => ?_⟩, ⟨y1, y2, y3, y4, y5, fun h0 => ?_⟩, ⟨z1, z2, z3, z4, z5, fun h0 => ?_⟩⟩
  · obtain ⟨b, off, e, hb, hc⟩ := x6 h0
    have hne : b ≠ D := fun q => by
      subst q
      rcases box_cells hD (hc 0 h0).2.1 with ⟨q, _⟩ | ⟨_, _, _, _, q⟩
      · omega
      · cases q
    refine ⟨b, off, e, Nat.lt_of_lt_of_le hb k.size, fun i hi => ?_⟩
    simp only [kept_cell k hb hne]
    exact hc i hi
  · obtain ⟨b, off, e, hb, hc⟩ := y6 h0
    have hne : b ≠ D := fun q => by
      subst q
      rcases box_cells hD (hc 0 h0).2 with ⟨q, _⟩ | ⟨_, _, _, _, q⟩
      · omega
      · cases q
    refine ⟨b, off, e, Nat.lt_of_lt_of_le hb k.size, fun i hi => ?_⟩
    simp only [kept_cell k hb hne]
    exact hc i hi
  · obtain ⟨b, off, e, hb, hc⟩ := z6 h0
    have hne : b ≠ D := fun q => by
      subst q
      rcases box_cells hD (hc 0 h0).2 with ⟨q, _⟩ | ⟨_, _, _, _, q⟩
      · omega
      · cases q
    refine ⟨b, off, e, Nat.lt_of_lt_of_le hb k.size, fun i hi => ?_⟩
    simp only [kept_cell k hb hne]
    exact hc i hi
theorem Cv.store {v : Value} {xs : List Value} (h : Cv w v xs) (hx : ∀ x ∈ xs, (∃ n, x = .int .i64 n) ∨ ∃ b, x = .bool b) (hD : w.heap[D]? = some (.cells #[.string s, .slice a1 n1 c1, .slice a2 n2 c2, .slice a3 n3 c3] T fr)) (k : Kept (· ≠ D) w w') : Cv w' v xs := by
  obtain ⟨ao, cap, e, hl, hn, h⟩ := h
  refine ⟨ao, cap, e, hl, hn, fun h0 => ?_⟩
  obtain ⟨b, off, e, hb, hc⟩ := h h0
  have hne : b ≠ D := fun q => by
    subst q
    have hm := hx _ (List.getElem_mem h0)
    rcases box_cells hD (hc 0 h0) with ⟨_, q⟩ | ⟨_, _, _, _, q⟩
    · rw [q] at hm
      rcases hm with ⟨_, q⟩ | ⟨_, q⟩ <;> cases q
    · rw [q] at hm
      rcases hm with ⟨_, q⟩ | ⟨_, q⟩ <;> cases q
  exact ⟨b, off, e, Nat.lt_of_lt_of_le hb k.size, fun i hi => (kept_cell k hb hne).trans (hc i hi)⟩
theorem StV.store {v : Value} {x : Sa} (h : StV w v x) (hD : w.heap[D]? = some (.cells #[.string s, .slice a1 n1 c1, .slice a2 n2 c2, .slice a3 n3 c3] T fr)) (k : Kept (· ≠ D) w w') : StV w' v x := by
  obtain ⟨va, vd, vg, e, h1, h2, h3⟩ := h
  have p1 : ∀ y ∈ iv x.vals, (∃ n, y = .int .i64 n) ∨ ∃ b, y = .bool b := fun y hy => by obtain ⟨n, _, rfl⟩ := List.mem_map.1 hy; exact .inl ⟨n, rfl⟩
  have p2 : ∀ l, ∀ y ∈ bv l, (∃ n, y = .int .i64 n) ∨ ∃ b, y = .bool b := fun l y hy => by obtain ⟨n, _, rfl⟩ := List.mem_map.1 hy; exact .inr ⟨n, rfl⟩
  exact ⟨va, vd, vg, e, h1.store p1 hD k, h2.store (p2 _) hD k, h3.store (p2 _) hD k⟩
end
theorem StV.parts {w : World} {v : Value} {s : Sa} (h : StV w v s) : ∃ a1 c1 a2 c2 a3 c3, v = .agg #[.string ⟨s.type.toArray⟩, .slice a1 s.vals.length c1, .slice a2 s.done.length c2, .slice a3 s.got.length c3] := by
  obtain ⟨va, vd, vg, rfl, h1, h2, h3⟩ := h
  obtain ⟨p1, p2, rfl, -, -⟩ := h1.ints
  obtain ⟨p3, p4, rfl, -, -⟩ := h2.bools
  obtain ⟨p5, p6, rfl, -, -⟩ := h3.bools
  exact ⟨_, _, _, _, _, _, rfl⟩

end Go.Proofs.YtenejaghgehnoaaGreatDoor

namespace Go.Proofs.YtenejaghgehnoaaGreatDoor
open Go.RowKit Go.Maps

/-- What 't, ok := typeOf(..)' leaves. -/
def TyR (w wx : World) (ts : List Ty) (x : List UInt8) (t7 t8 : Value) : Prop := ∃ G a1 n1 c1 a2 n2 c2 a3 n3 c3, t7 = .pointer (some ⟨G, 0, none⟩) ∧ t8 = .bool (typ ts x).isSome ∧
  wx.heap[G]? = some (.cells #[.string ⟨((typ ts x).getD Ty.none).name.toArray⟩, .slice a1 n1 c1, .slice a2 n2 c2, .slice a3 n3 c3] 54 (0, 0)) ∧ TyV wx (.agg #[.string ⟨((typ ts x).getD Ty.none).name.toArray⟩, .slice a1 n1 c1, .slice a2 n2 c2, .slice a3 n3 c3]) ((typ ts x).getD Ty.none) ∧ Kept (fun _ => True) w wx
section
variable {w v : World} {ts : List Ty} {x : List UInt8} {a1 a2 a3 : Option Addr} {n1 n2 n3 c1 c2 c3 G : Nat}
theorem TyR.late (p : Kept (fun _ => True) w v) (h : TyV v (.agg #[.string ⟨((typ ts x).getD Ty.none).name.toArray⟩, .slice a1 n1 c1, .slice a2 n2 c2, .slice a3 n3 c3]) ((typ ts x).getD Ty.none)) :
    TyR w (v.alloc (.cells #[.string ⟨((typ ts x).getD Ty.none).name.toArray⟩, .slice a1 n1 c1, .slice a2 n2 c2, .slice a3 n3 c3] 54)) ts x (.pointer (some ⟨v.heap.size, 0, none⟩)) (.bool (typ ts x).isSome) :=
  ⟨_, _, _, _, _, _, _, _, _, _, rfl, rfl, heap_alloc_new v _, h.all ((Kept.refl _ _).alloc _), p.alloc _⟩
theorem TyR.early (p : Kept (fun _ => True) w v) (h : TyV v (.agg #[.string ⟨((typ ts x).getD Ty.none).name.toArray⟩, .slice a1 n1 c1, .slice a2 n2 c2, .slice a3 n3 c3]) ((typ ts x).getD Ty.none))
    (hG : v.heap[G]? = some (.cells #[.string ⟨#[]⟩, .slice none 0 0, .slice none 0 0, .slice none 0 0] 54 (0, 0))) (hl : w.heap.size ≤ G) :
    TyR w (put4 v G (.string ⟨((typ ts x).getD Ty.none).name.toArray⟩) (.slice a1 n1 c1) (.slice a2 n2 c2) (.slice a3 n3 c3)) ts x (.pointer (some ⟨G, 0, none⟩)) (.bool (typ ts x).isSome) :=
  ⟨_, _, _, _, _, _, _, _, _, _, rfl, rfl, put4_at hG _ _ _ _, h.store hG (put4_kept (p := (· ≠ G)) (by simp) _ _ _ _), put4_new p hl _ _ _ _⟩
end

/-- A draft, and the cases that it stands for: k of them were there. -/
structure Dl (f g : List UInt8 → Option Sa) (l : Css) (k made : Nat) : Prop where
  same : ∀ x, look l x = orF f g x
  size : l.length = k + made
  cnt : Count f k
theorem Count.same {α : Type} {f : List UInt8 → Option α} {a b : Nat} (h : Count f a) (k : Count f b) : a = b := by
  obtain ⟨u, h1, h2, h3⟩ := h
  obtain ⟨v, k1, k2, k3⟩ := k
  have hp : u.Perm v := (List.perm_ext_iff_of_nodup h1 k1).2 (fun x => by rw [h3, k3])
  rw [← h2, ← k2]
  exact hp.length_eq
/-- What an operation leaves of a draft. -/
structure Stq (w w' : World) (D C L n m : Nat) (tv : Value) (most : Nat) (ts : List Ty) (f g : List UInt8 → Option Sa) (l : Css) (k : Nat) (o : Oq) : Prop where
  kept : Kept (fun i => i ≠ L ∧ i ≠ D) w w'
  goes : (stepP ts most l o).2.2 = 0 → ∃ g' made', Df w' D C L n (m + 1) tv made' most ts f g' ∧ Dl f g' (stepP ts most l o).1 k made' ∧ (∀ x, g' x ≠ none ↔ g x ≠ none ∨ x = o.cas) ∧ made' ≤ m + 1
section
variable {ts : List Ty} {most : Nat} {l : Css} {o : Oq}
theorem step_there (hk : o.kind = 1) {s : Sa} (hl : look l o.cas = some s) : stepP ts most l o = ([], [], 33) := by
  unfold stepP
  rw [if_pos hk, hl]
theorem step_unknown (hk : o.kind = 1) (hl : look l o.cas = none) (ht : typ ts o.name = none) : stepP ts most l o = ([], [], 38) := by
  unfold stepP
  rw [if_pos hk, hl, ht]
  rfl
theorem step_full (hk : o.kind = 1) (hl : look l o.cas = none) {t : Ty} (ht : typ ts o.name = some t) (hm : most ≤ l.length) : stepP ts most l o = ([], [], 34) := by
  unfold stepP
  rw [if_pos hk, hl, ht]
  simp [madeP, hm]
theorem step_noName (hk : o.kind = 1) (hl : look l o.cas = none) {t : Ty} (ht : typ ts o.name = some t) (hm : ¬ most ≤ l.length) (hn : isName o.cas = false) : stepP ts most l o = ([], [], 31) := by
  unfold stepP
  rw [if_pos hk, hl, ht]
  simp [madeP, hm, hn]
theorem step_made (hk : o.kind = 1) (hl : look l o.cas = none) {t : Ty} (ht : typ ts o.name = some t) (hm : ¬ most ≤ l.length) (hn : isName o.cas = true) : stepP ts most l o = (l ++ [(o.cas, newP t)], [], 0) := by
  unfold stepP
  rw [if_pos hk, hl, ht]
  simp [madeP, hm, hn]
theorem step_missing (hk : o.kind ≠ 1) (hl : look l o.cas = none) : stepP ts most l o = ([], [], 30) := by
  unfold stepP
  rw [if_neg hk, hl]
theorem step_goes (hk : o.kind ≠ 1) {s : Sa} (hl : look l o.cas = some s) {t : Ty} (ht : typ ts s.type = some t) : stepP ts most l o = doneP l o (applyP t s o) := by
  unfold stepP
  rw [if_neg hk, hl]
  simp [goesP, ht]
end
/-- A case that is new. -/
theorem Dl.made {f g : List UInt8 → Option Sa} {l : Css} {k made : Nat} (h : Dl f g l k made) {x : List UInt8} (hx : look l x = none) (s : Sa) : Dl f (putM g x s) (l ++ [(x, s)]) k (made + 1) := by
  refine ⟨fun y => ?_, by rw [List.length_append, h.size]; simp; omega, h.cnt⟩
  rw [← put_new hx, look_put]
  unfold orF putM
  split
  · rfl
  · exact h.same y
/-- A case that was turned. -/
theorem Dl.turned {f g : List UInt8 → Option Sa} {l : Css} {k made : Nat} (h : Dl f g l k made) {x : List UInt8} (hx : look l x ≠ none) (s : Sa) : Dl f (putM g x s) (putL l x s) k made := by
  refine ⟨fun y => ?_, by rw [put_length hx, h.size], h.cnt⟩
  rw [look_put]
  unfold orF putM
  split
  · rfl
  · exact h.same y
theorem putM_dom {α : Type} (g : List UInt8 → Option α) (x : List UInt8) (s : α) (y : List UInt8) : putM g x s y ≠ none ↔ g y ≠ none ∨ y = x := by
  unfold putM
  split
  · rename_i e
    simp [e]
  · rename_i e
    simp [e]

set_option maxRecDepth 100000 in
set_option maxHeartbeats 8000000 in
theorem create_any {w : World} {D C L n m made most : Nat} {tv : Value} {ts : List Ty} {f g : List UInt8 → Option Sa} {l : Css} {k : Nat} (h : Df w D C L n m tv made most ts f g) (d : Dl f g l k made) (ht : Tok ts) (hm : m ≤ 1000000) (hn : n ≤ 1000000) (_ : most ≤ 9223372036854775807) (hmade : made ≤ m) {o : Oq} (hk : o.kind = 1) (ho : o.cas.length ≤ 281474976710656) :
    Calls Tryz.prog 179 #[.pointer (some ⟨D, 0, none⟩), opV o, .bool (look l o.cas).isSome] w fun e w' => e = .returned (.int .i64 ((stepP ts most l o).2.2 : Nat)) ∧ Stq w w' D C L n m tv most ts f g l k o := by
  have HKD : Hid (o.kind = 1) := hk
  obtain ⟨q, hq⟩ : ∃ q, (look l o.cas).isSome = q := ⟨_, rfl⟩
  rw [hq]
  have HQ : Hid _ := hq
  clear hk hq
  obtain ⟨x0, x1, x2, x3, x4⟩ := five_cell h.self
  have hX := heap_alloc_new w (.cells #[.int .i64 o.kind, .string ⟨o.cas.toArray⟩, .string ⟨o.name.toArray⟩, .int .i64 o.n] 61)
  have k0 := (Kept.refl (fun _ => True) w).alloc (.cells #[.int .i64 o.kind, .string ⟨o.cas.toArray⟩, .string ⟨o.name.toArray⟩, .int .i64 o.n] 61)
  have HK0 : Hid _ := k0
  have HX : Hid _ := hX
  have HD : Hid (Df w D C L n m tv made most ts f g) := h
  have HL : Hid (Dl f g l k made) := d
  have HT : Hid (Tok ts) := ht
  obtain ⟨ao, cap, rfl, _⟩ := h.types.form
  clear hX k0 h d ht
  unfold opV
  go_enter Tryz.func179, Tryz.ntmps179
  go_upto_region 1 with fail
  generalize w.alloc (.cells #[.int .i64 o.kind, .string ⟨o.cas.toArray⟩, .string ⟨o.name.toArray⟩, .int .i64 o.n] 61) = w1 at *
  have HXl : Hid (D < w.heap.size) := lt_of_block HD.out.self
  generalize w.heap.size = X at *
  have HD1 : Hid (Df w1 D C L n m (.slice ao ts.length cap) made most ts f g) := HD.out.all HK0.out
  obtain ⟨⟨q0, q1, q2, q3⟩, _⟩ := four_cell HX.out
  obtain ⟨y0, y1, y2, y3, y4⟩ := five_cell HD1.out.self
  have C0 := fun W (q : Kept (fun _ => True) w1 W) => (kept_cell q (lt_of_block HD1.out.self) trivial).trans y0
  have C2 := fun W (q : Kept (fun _ => True) w1 W) => (kept_cell q (lt_of_block HX.out) trivial).trans q2
  have HC : Hid (∀ W, Kept (fun _ => True) w1 W → Calls Tryz.prog 120 #[.slice ao ts.length cap, .string ⟨o.name.toArray⟩] W _) := fun W q => typeOf_any (HD1.out.types.all q) o.name
  clear x0 x1 x2 x3 x4 y0 y1 y2 y3 y4 q0 q1 q2 q3
  go_cut [7, 8] from 9 to 18 (fun tA tB wx => TyR w1 wx ts o.name tA tB)
  case first =>
    go_region_held3 (fun W => Kept (fun _ => True) w1 W) (first | assumption | (repeat (first | exact Kept.refl _ _ | assumption | refine Kept.drew ?_ | refine Kept.alloc ?_ _ | refine Kept.setNew ?_ (by first | exact Nat.le_refl _ | omega) _))) (first
      | (go_at_call 120; refine Calls.mono (HC.out _ (by first | assumption | (repeat (first | exact Kept.refl _ _ | assumption | refine Kept.drew ?_ | refine Kept.alloc ?_ _ | refine Kept.setNew ?_ (by first | exact Nat.le_refl _ | omega) _)))) ?_; rintro e v5 ⟨a1, n1, c1, a2, n2, c2, a3, n3, c3, rfl, hty, m5⟩; have HY5 : Hid (TyV v5 (.agg #[.string ⟨((typ ts o.name).getD Ty.none).name.toArray⟩, .slice a1 n1 c1, .slice a2 n2 c2, .slice a3 n3 c3]) ((typ ts o.name).getD Ty.none)) := hty; have p5 : Kept (fun _ => True) w1 v5 := Kept.trans (by first | assumption | (repeat (first | exact Kept.refl _ _ | assumption | refine Kept.drew ?_ | refine Kept.alloc ?_ _ | refine Kept.setNew ?_ (by first | exact Nat.le_refl _ | omega) _))) m5; first | (have hz5 := (m5.block w1.heap.size (by simp) trivial).trans (heap_alloc_new w1.drew _); obtain ⟨⟨r0, r1, r2, r3⟩, e0, e1, e2, e3⟩ := four_cell hz5) | skip; clear m5 hty))
    all_goals
      go_wp2_with fail
      go_meet
      first
        | (with_reducible exact TyR.late p5 HY5.out)
        | exact TyR.early p5 HY5.out hz5 (Nat.le_refl _)
  case rest =>
    obtain ⟨G, a1, n1, c1, a2, n2, c2, a3, n3, c3, rfl, rfl, hG, hty, kx⟩ := hcut
    have HG : Hid _ := hG
    have HTY : Hid _ := hty
    have HKx : Hid (Kept (fun _ => True) w1 wc) := kx
    have HKw : Hid (Kept (fun _ => True) w wc) := HK0.out.trans kx
    have HX2 : Hid _ := (kx.block _ (lt_of_block HX.out) trivial).trans HX.out
    have HD2 : Hid (Df wc D C L n m (.slice ao ts.length cap) made most ts f g) := HD1.out.all kx
    clear hG hty kx
    cases q with
    | true =>
      obtain ⟨s, hs⟩ := Option.isSome_iff_exists.1 HQ.out
      have HE : Hid _ := step_there (ts := ts) (most := most) HKD.out hs
      clear hs C0 C2
      go_wp2_with fail
      go_ret
      rw [HE.out]
      exact ⟨rfl, HKw.out.mono (fun _ _ _ => trivial), fun h0 => (by rw [HE.out] at h0; cases h0)⟩
    | false =>
      have hln : look l o.cas = none := by simpa using HQ.out
      have HLN : Hid _ := hln
      cases hy : typ ts o.name with
      | none =>
        have HE : Hid _ := step_unknown (most := most) HKD.out hln hy
        simp only [Option.isSome_none]
        clear hln hy C0 C2
        go_wp2_with fail
        go_ret
        rw [HE.out]
        exact ⟨rfl, HKw.out.mono (fun _ _ _ => trivial), fun h0 => (by rw [HE.out] at h0; cases h0)⟩
      | some t =>
        have HY : Hid (typ ts o.name = some t) := hy
        rw [hy] at HG HTY
        simp only [Option.isSome_some, Option.getD_some] at HG HTY ⊢
        obtain ⟨y0, y1, y2, y3, y4⟩ := five_cell HD2.out.self
        have hlen : ∀ W, Kept (fun _ => True) wc W → ∀ ty, (Builtin.len_ #[110] ty #[.map (some C)]).run Tryz.prog W = .ok (.int .i64 (k : Nat)) W := fun W q ty => by
          obtain ⟨k', hk', _, hlen⟩ := (HD2.out.cases.all q).len
          rw [← Count.same hk' HL.out.cnt]
          exact hlen ty
        obtain ⟨k', hk', hkn, _⟩ := HD2.out.cases.len
        obtain rfl := Count.same hk' HL.out.cnt
        have Y1 := fun W (q : Kept (fun _ => True) wc W) => (kept_cell q (lt_of_block HD2.out.self) trivial).trans y1
        have Y3 := fun W (q : Kept (fun _ => True) wc W) => (kept_cell q (lt_of_block HD2.out.self) trivial).trans y3
        have Y4 := fun W (q : Kept (fun _ => True) wc W) => (kept_cell q (lt_of_block HD2.out.self) trivial).trans y4
        have hsz := HL.out.size
        clear hk' hy C0 C2
        have cn := name_any (w := wc.drew) (s := o.cas) ho
        have hw : IntKind.i64.wrap ((k' : Int) + (made : Int)) = (k' : Int) + (made : Int) := by simp [IntKind.wrap, IntKind.bits, IntKind.signed]; omega
        have HY2 : Hid _ := y2
        clear y0 y1 y2 y3 y4
        by_cases hf : most ≤ l.length
        · have HE : Hid _ := step_full HKD.out hln HY.out hf
          have g1 : (most : Int) ≤ (k' : Int) + (made : Int) := by omega
          clear hln hf hsz cn
          go_upto_region 6 with fail
          go_region_held3 (fun W => Kept (fun _ => True) wc W) (first | assumption | (repeat (first | exact Kept.refl _ _ | assumption | refine Kept.drew ?_ | refine Kept.alloc ?_ _))) (fail)
          go_wp2_with fail
          go_ret
          rw [HE.out]
          exact ⟨rfl, (HKw.out.drew).mono (fun _ _ _ => trivial), fun h0 => (by rw [HE.out] at h0; cases h0)⟩
        · have g1 : ¬ ((most : Int) ≤ (k' : Int) + (made : Int)) := by omega
          have HF : Hid _ := hf
          clear hf hsz
          go_upto_region 6 with fail
          go_region_held3 (fun W => Kept (fun _ => True) wc W) (first | assumption | (repeat (first | exact Kept.refl _ _ | assumption | refine Kept.drew ?_ | refine Kept.alloc ?_ _))) (fail)
          have kd := (Kept.refl (fun _ => True) wc).drew
          have HKd : Hid (Kept (fun _ => True) w wc.drew) := HKw.out.trans kd
          have HG3 : Hid _ := (kd.block _ (lt_of_block HG.out) trivial).trans HG.out
          have HTY3 : Hid (TyV wc.drew (.agg #[.string ⟨t.name.toArray⟩, .slice a1 n1 c1, .slice a2 n2 c2, .slice a3 n3 c3]) t) := TyV.all HTY.out kd
          have HX3 : Hid _ := (kd.block _ (lt_of_block HX2.out) trivial).trans HX2.out
          have HD3 : Hid (Df wc.drew D C L n m (.slice ao ts.length cap) made most ts f g) := HD2.out.all kd
          clear Y1 Y3 Y4 hlen kd HG HTY HX2 HD2 HKx HKw HY2
          generalize wc.drew = w3 at *
          obtain ⟨⟨q0, q1, q2, q3⟩, _⟩ := four_cell HX3.out
          go_wp2_with fail
          refine Calls.mono cn ?_
          rintro e w4 ⟨rfl, k4⟩
          clear cn q0 q1 q2 q3
          have HK4 : Hid (Kept (fun _ => True) w w4) := HKd.out.trans k4
          have HG4 : Hid _ := (k4.block _ (lt_of_block HG3.out) trivial).trans HG3.out
          have HTY4 : Hid (TyV w4 (.agg #[.string ⟨t.name.toArray⟩, .slice a1 n1 c1, .slice a2 n2 c2, .slice a3 n3 c3]) t) := HTY3.out.all k4
          have HX4 : Hid _ := (k4.block _ (lt_of_block HX3.out) trivial).trans HX3.out
          have HD4 : Hid (Df w4 D C L n m (.slice ao ts.length cap) made most ts f g) := HD3.out.all k4
          clear HG3 HTY3 HX3 HD3 HKd k4
          cases hnm : isName o.cas with
          | false =>
            have HE : Hid _ := step_noName HKD.out hln HY.out HF.out hnm
            clear hln hnm
            go_wp2_with fail
            go_ret
            rw [HE.out]
            exact ⟨rfl, HK4.out.mono (fun _ _ _ => trivial), fun h0 => (by rw [HE.out] at h0; cases h0)⟩
          | true =>
            have HE : Hid _ := step_made HKD.out hln HY.out HF.out hnm
            have hg : Good t := HT.out.good HY.out
            obtain ⟨es, clock, hLm⟩ := HD4.out.left.isMap
            have hne : ∀ {b : Nat} {cs : Array Value} {ty : TypeId} {fr : Nat × Nat}, w4.heap[b]? = some (.cells cs ty fr) → b ≠ L := fun hb e => by
              rw [e, hLm] at hb
              cases hb
            obtain ⟨⟨q0, q1, q2, q3⟩, _⟩ := four_cell HX4.out
            obtain ⟨⟨p0, p1, p2, p3⟩, _⟩ := four_cell HG4.out
            obtain ⟨y0, y1, y2, y3, y4⟩ := five_cell HD4.out.self
            have CX := fun W (q : Kept (· ≠ L) w4 W) => (kept_cell q (lt_of_block HX4.out) (hne HX4.out)).trans q1
            have CG0 := fun W (q : Kept (· ≠ L) w4 W) => (kept_cell q (lt_of_block HG4.out) (hne HG4.out)).trans p0
            have CG1 := fun W (q : Kept (· ≠ L) w4 W) => (kept_cell q (lt_of_block HG4.out) (hne HG4.out)).trans p1
            have CG2 := fun W (q : Kept (· ≠ L) w4 W) => (kept_cell q (lt_of_block HG4.out) (hne HG4.out)).trans p2
            have CG3 := fun W (q : Kept (· ≠ L) w4 W) => (kept_cell q (lt_of_block HG4.out) (hne HG4.out)).trans p3
            have CD := fun W (q : Kept (· ≠ L) w4 W) => (kept_cell q (lt_of_block HD4.out.self) (hne HD4.out.self)).trans y2
            have HDL : Hid (D ≠ L) := hne HD4.out.self
            have HNw : Hid (∀ W, Kept (fun _ => True) w4 W → Calls Tryz.prog 208 #[.agg #[.string ⟨t.name.toArray⟩, .slice a1 n1 c1, .slice a2 n2 c2, .slice a3 n3 c3]] W (fun e w' => ∃ v, e = .returned v ∧ StO w' W.heap.size v (newP t) ∧ Kept (fun _ => True) W w')) := fun W q => new_any (HTY4.out.all q) hg
            have HFew : Hid (Few (newP t)) := (Fit.new hg).few hg
            clear q0 q1 q2 q3 p0 p1 p2 p3 y0 y1 y2 y3 y4 hLm hne hln hnm hg
            go_upto_region 10 with fail
            go_region_held3 (fun W => Kept (· ≠ L) w4 W) (first | assumption | (repeat (first | exact Kept.refl _ _ | assumption | refine Kept.drew ?_ | refine Kept.alloc ?_ _))) (first
              | (go_at_call 208; refine Calls.mono (HNw.out _ (by first | assumption | (repeat (first | exact Kept.refl _ _ | assumption | refine Kept.drew ?_ | refine Kept.alloc ?_ _)))) ?_; rintro e v5 ⟨v, rfl, hso, m5⟩; obtain ⟨r, rfl, hr⟩ := hso.typed HFew.out; have p5 : Kept (fun _ => True) w4 v5 := Kept.trans (by first | assumption | (repeat (first | exact Kept.refl _ _ | assumption | refine Kept.drew ?_ | refine Kept.alloc ?_ _))) m5; have s5 : Kept (· ≠ L) w4 v5 := p5.mono (fun _ _ _ => trivial); obtain ⟨w7, hst, hm7, k7, z7⟩ := (HD4.out.left.all p5).store (x := o.cas) (by omega) hm hr; have HM7 : Hid (Cmap w7 L (m + 1) (putM g o.cas (newP t))) := hm7; have HK7 : Hid (Kept (· ≠ L) w4 w7) := Kept.trans s5 k7; have s7 : Kept (· ≠ L) w4 w7 := HK7.out; clear hso m5 hr hm7 k7 z7))
            have hD7 := HD4.out.more HK7.out HM7.out
            have HD7 : Hid (Df w7 D C L n (m + 1) (.slice ao ts.length cap) made most ts f (putM g o.cas (newP t))) := hD7
            obtain ⟨y0, y1, y2, y3, y4⟩ := five_cell hD7.self
            have f3 : w7.frozen? ⟨D, 3, none⟩ = false := by simp [World.frozen?, hD7.self]
            have hw2 : IntKind.i64.wrap ((made : Int) + 1) = (made : Int) + 1 := by simp [IntKind.wrap, IntKind.bits, IntKind.signed]; omega
            clear hD7 y0 y1 y2 y4 CX CG0 CG1 CG2 CG3 CD hst s5 s7 p5
            go_wp2_with fail
            go_ret
            rw [HE.out]
            refine ⟨rfl, ⟨?_, fun _ => ?_⟩⟩
            · exact (((HK4.out.mono (fun _ _ _ => trivial)).trans (HK7.out.mono (fun _ _ q => q.1))).setCell (by simp) _)
            · rw [HE.out]
              exact ⟨_, made + 1, HD7.out.inc, HL.out.made HLN.out _, fun x => putM_dom g o.cas _ x, by omega⟩

end Go.Proofs.YtenejaghgehnoaaGreatDoor

namespace Go.Proofs.YtenejaghgehnoaaGreatDoor
open Go.RowKit

theorem max_three (a b c : Nat) : ∃ M : Int, (∀ W, (Builtin.max_ #[3, 3, 3] 3 #[.int .i64 (a : Nat), .int .i64 (b : Nat), .int .i64 (c : Nat)]).run Tryz.prog W = .ok (.int .i64 M) W) ∧ (6 < M ↔ (6 < a ∨ 6 < b ∨ 6 < c)) := by
  refine ⟨_, fun W => run_max_int3 _ _ _ _ _ _ _ _ _, ?_⟩
  repeat' split
  all_goals omega

set_option maxRecDepth 100000 in
set_option maxHeartbeats 8000000 in
theorem right_any {w : World} {v : Value} {t : Ty} (h : TyV w v t) (hz : Tsz t) :
    Calls Tryz.prog 121 #[v] w fun e w' => e = .returned (.int .i64 (right t : Nat)) ∧ Kept (fun _ => True) w w' := by
  obtain ⟨C, hC⟩ : ∃ C, C = right t := ⟨_, rfl⟩
  rw [← hC]
  unfold right at hC
  have HC : Hid _ := hC
  clear hC
  obtain ⟨va, vs, vm, rfl, ha, hs, hk⟩ := h
  obtain ⟨ao, ac, rfl, la⟩ := ha.form
  obtain ⟨so, sc, rfl, ls⟩ := hs.form
  obtain ⟨mo, mc, rfl, lm⟩ := hk.form
  have cn := fun W => name_any (w := W) (s := t.name) hz.name
  have HZ : Hid (Tsz t) := hz
  have k0 : Kept (fun _ => True) w (w.alloc (.cells #[.string ⟨t.name.toArray⟩, .slice ao t.attrs.length ac, .slice so t.stages.length sc, .slice mo t.marks.length mc] 54)) := (Kept.refl _ _).alloc _
  have hX := heap_alloc_new w (.cells #[.string ⟨t.name.toArray⟩, .slice ao t.attrs.length ac, .slice so t.stages.length sc, .slice mo t.marks.length mc] 54)
  replace ha := ha.all k0
  replace hs := hs.all k0
  replace hk := hk.all k0
  obtain ⟨⟨z0, z1, z2, z3⟩, _⟩ := four_cell hX
  clear hz
  go_enter Tryz.func121, Tryz.ntmps121
  go_wp2_with fail
  generalize w.alloc (.cells #[.string ⟨t.name.toArray⟩, .slice ao t.attrs.length ac, .slice so t.stages.length sc, .slice mo t.marks.length mc] 54) = w1 at *
  obtain ⟨B, hB⟩ : ∃ B, B = w.heap.size := ⟨_, rfl⟩
  rw [← hB] at hX z0 z1 z2 z3 ⊢
  have K0 : Hid (Kept (fun _ => True) w w1) := k0
  have HA : Hid (Av w1 (.slice ao t.attrs.length ac) t.attrs) := ha
  have HS : Hid (Rv w1 (.slice so t.stages.length sc) t.stages) := hs
  have HM : Hid (Rv w1 (.slice mo t.marks.length mc) t.marks) := hk
  have HX : Hid (w1.heap[B]? = some (.cells #[.string ⟨t.name.toArray⟩, .slice ao t.attrs.length ac, .slice so t.stages.length sc, .slice mo t.marks.length mc] 54 (0, 0))) := hX
  clear hB ha hs hk hX k0
  refine Calls.mono (cn _) ?_
  rintro e w2 ⟨rfl, k2⟩
  have HK2 : Hid (Kept (fun _ => True) w1 w2) := k2
  obtain ⟨⟨y0, y1, y2, y3⟩, _⟩ := four_cell ((k2.block B (lt_of_block HX.out) trivial).trans HX.out)
  clear k2 cn z0 z1 z2 z3
  cases hN : isName t.name with
  | false =>
    have HE : Hid (C = 20) := by show _ = _; rw [HC.out, if_pos hN]
    clear HC hN
    go_wp2_with fail
    go_ret
    exact ⟨by rw [HE.out]; rfl, K0.out.trans HK2.out⟩
  | true =>
  have HC2 : Hid (C = if 6 < t.attrs.length ∨ 6 < t.stages.length ∨ 6 < t.marks.length then 4 else if rns t.attrs [] (nms t) ≠ 0 then rns t.attrs [] (nms t) else rgs (nms t) (t.stages ++ t.marks)) := by
    show _ = _
    rw [HC.out, if_neg (by rw [hN]; simp)]
  clear HC hN
  obtain ⟨M, hM, hM6⟩ := max_three t.attrs.length t.stages.length t.marks.length
  by_cases h6 : 6 < t.attrs.length ∨ 6 < t.stages.length ∨ 6 < t.marks.length
  · have HE : Hid (C = 4) := by show _ = _; rw [HC2.out, if_pos h6]
    have h6' : (6 : Int) < M := hM6.2 h6
    clear HC2 h6 hM6
    go_wp2_with fail
    go_ret
    exact ⟨by rw [HE.out]; rfl, K0.out.trans HK2.out⟩
  have h6' : ¬ (6 : Int) < M := fun h => h6 (hM6.1 h)
  have HC3 : Hid (C = if rns t.attrs [] (nms t) ≠ 0 then rns t.attrs [] (nms t) else rgs (nms t) (t.stages ++ t.marks)) := by
    show _ = _
    rw [HC2.out, if_neg h6]
  have l1 : t.attrs.length ≤ 6 := by omega
  have l2 : t.stages.length ≤ 6 := by omega
  have l3 : t.marks.length ≤ 6 := by omega
  have hnl : (nms t).length = t.attrs.length + t.stages.length + t.marks.length := by simp [nms]; omega
  have cnm := names_any (w := w2) (v := .agg #[.string ⟨t.name.toArray⟩, .slice ao t.attrs.length ac, .slice so t.stages.length sc, .slice mo t.marks.length mc]) (t := t) ⟨_, _, _, rfl, HA.out.all HK2.out, HS.out.all HK2.out, HM.out.all HK2.out⟩ (by omega)
  have HNL : Hid ((nms t).length ≤ 18) := by show _ ≤ _; omega
  have HNZ : Hid _ := HZ.out.names
  have HGZ : Hid _ := HZ.out.guards
  clear h6 hM6 HC2 hnl HZ
  generalize hns : nms t = ns at *
  clear hns
  go_wp2_with fail
  refine Calls.mono cnm ?_
  rintro e w3 ⟨nv, rfl, hT, k3⟩
  obtain ⟨no, nc, rfl, hnc, hng⟩ := hT.shape
  have HT : Hid (Txs w3 w2.heap.size (.slice no ns.length nc) ns) := hT
  have HK3 : Hid (Kept (fun _ => True) w1 w3) := HK2.out.trans k3
  have HNG : Hid _ := hng
  clear cnm hT k3 HK2 y0 y1 y2 y3 hng
  go_wp2_with fail
  go_loopw [4, 5, 29] (fun _ _ t29 wr => ∃ i : Nat, i ≤ ns.length ∧ t29 = .int .i64 i ∧ rns t.attrs [] ns = rns (t.attrs.drop i) (ns.take i) (ns.drop i) ∧ Kept (fun _ => True) w3 wr) (fun _ _ t29 _ => ns.length - (intOf t29).toNat)
  case atStart => exact ⟨0, Nat.zero_le _, rfl, rfl, Kept.refl _ _⟩
  case round =>
  obtain ⟨i, hi, rfl, hE, hk⟩ := hrel
  have HE : Hid (rns t.attrs [] ns = rns (t.attrs.drop i) (ns.take i) (ns.drop i)) := hE
  have HKr : Hid (Kept (fun _ => True) w3 wr) := hk
  have h18 : ns.length ≤ 18 := HNL.out
  clear hE hk
  by_cases hlt : i < ns.length
  · obtain ⟨g, rfl⟩ := HNG.out (by omega)
    have hTr := HT.out.kept (p := fun _ => True) HKr.out (fun _ _ => trivial)
    have q1 := hTr.cell i hlt
    have HS1 : Hid _ := rns_step (ats := t.attrs) hlt
    have c1 := fun W => name_any (w := W) (s := ns[i]) (HNZ.out _ (List.getElem_mem hlt))
    have c2 := fun W (k : Kept (fun _ => True) wr W) => contains_text (((hTr.kept (p := fun _ => True) k (fun _ _ => trivial)).few i (by omega) (by have := HNL.out; omega))) ns[i]
    have C2 : Hid _ := c2
    have q2 := cut_texts (g := g) (n := ns.length) (cap := nc) i (by omega)
    have i1 : (i : Int) < (ns.length : Int) := by omega
    have i0 : (0 : Int) ≤ (i : Int) := by omega
    have HTr : Hid _ := hTr
    clear hTr c2
    obtain ⟨bc, hbc⟩ : ∃ bc, bc = decide (ns[i] ∈ ns.take i) := ⟨_, rfl⟩
    rw [← hbc] at C2
    have HBC : Hid _ := hbc
    clear hbc
    generalize ns[i] = x at *
    have HBN : Hid (∃ bn, bn = isName x) := ⟨_, rfl⟩
    obtain ⟨bn, hbn⟩ := HBN.out
    rw [← hbn] at c1
    have HBN2 : Hid (bn = isName x) := hbn
    clear hbn HBN
    go_wp2_with fail
    refine Calls.mono (c1 _) ?_
    rintro e w4 ⟨rfl, k4⟩
    have HK4 : Hid (Kept (fun _ => True) wr w4) := k4
    have HKA : Hid (Kept (fun _ => True) w w4) := K0.out.trans (HK3.out.trans (HKr.out.trans k4))
    have HK14 : Hid (Kept (fun _ => True) w1 w4) := HK3.out.trans (HKr.out.trans k4)
    obtain ⟨⟨y0, y1, y2, y3⟩, _⟩ := four_cell ((HK14.out.block B (lt_of_block HX.out) trivial).trans HX.out)
    clear c1 k4
    cases bn with
    | false =>
      have HF : Hid (C = 20) := by
        show _ = _
        have h1 := HS1.out
        rw [if_pos HBN2.out.symm, ← HE.out] at h1
        rw [HC3.out, h1]
        rfl
      clear HS1 HBN2 HBC C2
      go_wp2_with fail
      go_ret
      exact ⟨by rw [HF.out]; rfl, HKA.out⟩
    | true =>
    have HS2 : Hid _ := HS1.out
    go_wp2_with fail
    refine Calls.mono (C2.out _ HK4.out) ?_
    rintro e w4 ⟨rfl, rfl⟩
    cases bc with
    | true =>
      have HF : Hid (C = 21) := by
        show _ = _
        have h1 := HS1.out
        rw [if_neg (by rw [← HBN2.out]; simp), if_pos (of_decide_eq_true HBC.out.symm), ← HE.out] at h1
        rw [HC3.out, h1]
        rfl
      clear HS1 HS2 HBN2 HBC C2
      go_wp2_with fail
      go_ret
      exact ⟨by rw [HF.out]; rfl, HKA.out⟩
    | false =>
    have HS3 : Hid (rns (t.attrs.drop i) (ns.take i) (ns.drop i) = if (∃ h : i < t.attrs.length, ranged t.attrs[i] = false) then 23 else rns (t.attrs.drop (i + 1)) (ns.take (i + 1)) (ns.drop (i + 1))) := by
      show _ = _
      have h1 := HS1.out
      rwa [if_neg (by rw [← HBN2.out]; simp), if_neg (of_decide_eq_false HBC.out.symm)] at h1
    clear HS1 HS2 HBN2 HBC C2
    by_cases hat : i < t.attrs.length
    · obtain ⟨b, off, rfl, hb, r0, r1, r2, r3⟩ := (HA.out.all HK14.out).at i hat
      have ha' : (i : Int) < (t.attrs.length : Int) := by omega
      have cr := fun W => ranged_any (w := W) t.attrs[i]
      have HR1 : Hid (ranged t.attrs[i] = false → C = 23) := by
        intro h
        have e := HS3.out
        rw [if_pos ⟨hat, h⟩] at e
        rw [HC3.out, HE.out, e]
        rfl
      have HR2 : Hid (ranged t.attrs[i] = true → rns t.attrs [] ns = rns (t.attrs.drop (i + 1)) (ns.take (i + 1)) (ns.drop (i + 1))) := by
        intro h
        rw [HE.out, HS3.out, if_neg (fun h' => by obtain ⟨_, h'⟩ := h'; rw [h] at h'; cases h')]
      clear hb HS3
      generalize ranged t.attrs[i] = br at *
      simp only [alay] at cr
      generalize t.attrs[i] = y at *
      go_wp2_with fail
      refine Calls.mono (cr _) ?_
      rintro e w6 ⟨rfl, k6⟩
      have HK6 : Hid (Kept (fun _ => True) w4 w6) := k6
      clear cr k6
      cases br with
      | false =>
        have HF : Hid (C = 23) := HR1.out rfl
        clear HR1 HR2
        go_wp2_with fail
        go_ret
        exact ⟨by rw [HF.out]; rfl, HKA.out.trans HK6.out⟩
      | true =>
        have HF : Hid _ := HR2.out (by simp)
        clear HR1 HR2
        go_wp2_with fail
        go_roundw
        case rel => exact ⟨i + 1, by omega, by go_num, HF.out, HKr.out.trans (HK4.out.trans HK6.out)⟩
        case measure => simp [intOf]; omega
    · have ha' : ¬ (i : Int) < (t.attrs.length : Int) := by omega
      have HF : Hid (rns t.attrs [] ns = rns (t.attrs.drop (i + 1)) (ns.take (i + 1)) (ns.drop (i + 1))) := by
        show _ = _
        rw [HE.out, HS3.out, if_neg (fun h => hat h.1)]
      have HI : Hid (i < ns.length) := hlt
      clear HS3 hat
      go_wp2_with fail
      go_roundw
      case rel => exact ⟨i + 1, HI.out, by go_num, HF.out, HKr.out.trans HK4.out⟩
      case measure =>
        have := HI.out
        simp [intOf]
        omega
  · have i1 : ¬ (i : Int) < (ns.length : Int) := by omega
    have HC4 : Hid (C = rgs ns (t.stages ++ t.marks)) := by
      show _ = _
      have h1 := HE.out
      rw [List.drop_eq_nil_of_le (by omega : ns.length ≤ i)] at h1
      have h2 : rns (t.attrs.drop i) (ns.take i) [] = 0 := by simp [rns]
      rw [HC3.out, h1, h2]
      rfl
    have HK13 : Hid (Kept (fun _ => True) w1 wr) := HK3.out.trans HKr.out
    obtain ⟨⟨y0, y1, y2, y3⟩, _⟩ := four_cell ((HK13.out.block B (lt_of_block HX.out) trivial).trans HX.out)
    have kc : Kept (fun _ => True) wr (wr.alloc (.cells #[.slice so t.stages.length sc, .slice mo t.marks.length mc] 52)) := (Kept.refl _ _).alloc _
    have cc := concat_any (heap_alloc_new wr (.cells #[.slice so t.stages.length sc, .slice mo t.marks.length mc] 52)) ((HS.out.all HK13.out).all kc) ((HM.out.all HK13.out).all kc) l2 l3
    have HKC : Hid _ := kc
    have hrl : (t.stages ++ t.marks).length ≤ 12 := by rw [List.length_append]; omega
    have HRL : Hid _ := hrl
    clear hlt HE HC3 kc
    generalize t.stages ++ t.marks = rs at *
    go_wp2_with fail
    refine Calls.mono cc ?_
    rintro e w5 ⟨rv, rfl, hR, k5⟩
    have hv := hR.view (by omega)
    obtain ⟨ro, rc, rfl, _⟩ := hv.form
    have HV : Hid (Rv w5 (.slice ro rs.length rc) rs) := hv
    have HK5 : Hid (Kept (fun _ => True) w3 w5) := HKr.out.trans (HKC.out.trans k5)
    have HNS : Hid (Ns w3 (.slice no ns.length nc) ns) := HT.out.ns (by have := HNL.out; omega)
    clear cc hR k5 hv HKC
    go_wp2_with fail
    go_loopw [7, 8, 9, 67] (fun _ _ _ t67 wq => ∃ j : Nat, j ≤ rs.length ∧ t67 = .int .i64 j ∧ C = rgs ns (rs.drop j) ∧ Kept (fun _ => True) w5 wq) (fun _ _ _ t67 _ => rs.length - (intOf t67).toNat)
    case atStart => exact ⟨0, Nat.zero_le _, rfl, HC4.out, Kept.refl _ _⟩
    case round =>
    obtain ⟨j, hj, rfl, hE, hk⟩ := hrel
    have HE : Hid (C = rgs ns (rs.drop j)) := hE
    have HKq : Hid (Kept (fun _ => True) w5 wr) := hk
    clear hE hk
    by_cases hlt : j < rs.length
    · obtain ⟨b, off, rfl, hb, r0, r1⟩ := (HV.out.all HKq.out).at j hlt
      have j1 : (j : Int) < (rs.length : Int) := by omega
      have j0 : (0 : Int) ≤ (j : Int) := by omega
      have cg := fun W (k : Kept (fun _ => True) w5 W) => check_any ((HNS.out.all HK5.out).all k) (s := (rs[j]).guard) (HGZ.out _ (List.getElem_mem hlt))
      have HSt : Hid _ := rgs_step (ns := ns) hlt
      have CG : Hid _ := cg
      clear hb cg
      generalize (chk ns (rs[j]).guard).2 = p2 at *
      generalize (chk ns (rs[j]).guard).1 = p1 at *
      generalize rs[j] = y at *
      go_wp2_with fail
      refine Calls.mono (CG.out _ (HKq.out.alloc _)) ?_
      rintro e w6 ⟨rfl, k6⟩
      have HK6 : Hid (Kept (fun _ => True) w5 w6) := (HKq.out.alloc _).trans k6
      clear k6 CG
      by_cases hp : p1 = 0
      · subst hp
        have HF : Hid (C = rgs ns (rs.drop (j + 1))) := by
          show _ = _
          rw [HE.out, HSt.out, if_neg (by simp)]
        clear HSt
        go_wp2_with fail
        go_roundw
        case rel => exact ⟨j + 1, by omega, by go_num, HF.out, HK6.out⟩
        case measure => simp [intOf]; omega
      · have hp' : ((p1 : Int) == 0) = false := by simp; omega
        have HF : Hid (C = p1) := by
          show _ = _
          rw [HE.out, HSt.out, if_pos hp]
        clear HSt hp
        go_wp2_with fail
        go_ret
        exact ⟨by rw [HF.out]; rfl, K0.out.trans (HK3.out.trans (HK5.out.trans HK6.out))⟩
    · have j1 : ¬ (j : Int) < (rs.length : Int) := by omega
      have HF : Hid (C = 0) := by
        show _ = _
        rw [HE.out, List.drop_eq_nil_of_le (by omega)]
        rfl
      go_wp2_with fail
      go_ret
      exact ⟨by rw [HF.out]; rfl, K0.out.trans (HK3.out.trans (HK5.out.trans HKq.out))⟩

end Go.Proofs.YtenejaghgehnoaaGreatDoor

namespace Go.Proofs.YtenejaghgehnoaaGreatDoor
open Go.RowKit Go.Maps

theorem size_tys (w0 : World) : (sizeOf (Tryz.prog.elem 26)).run Tryz.prog w0 = .ok 4 w0 := by
  have e : Tryz.prog.elem 26 = 54 := by kernel_rfl
  rw [e]
  exact Tryz.sizeOf54 w0
set_option maxRecDepth 100000 in
theorem cut_types {b off n cap : Nat} (m : Nat) (h : m ≤ cap) (w0 : World) : (Instr.slice 26 (.slice (some ⟨b, off, none⟩) n cap) none (some (.int .i64 (m : Int))) none).run Tryz.prog w0 = .ok (.slice (some ⟨b, off, none⟩) m cap) w0 := by
  have := run_slice_h (P := Tryz.prog) w0 26 (some ⟨b, off, none⟩) n cap Tryz.underlying26 .i64 m (by omega) (by omega)
  rw [this, size_tys]
  simp [Result.andThen, sliced, Addr.add]
/-- So far all is right. -/
def Rgt (ts : List Ty) (i : Nat) : Prop := ∀ k (h : k < ts.length), k < i → typ (ts.take k) (ts[k]).name = none ∧ right ts[k] = 0
theorem Rgt.tok {ts : List Ty} (h : Rgt ts ts.length) (hl : ts.length ≤ 4) : Tok ts := by
  refine ⟨hl, fun t ht => ?_, ?_⟩
  · obtain ⟨k, hk, rfl⟩ := List.getElem_of_mem ht
    exact (h k hk hk).2
  · rw [List.nodup_iff_pairwise_ne, List.pairwise_map, List.pairwise_iff_getElem]
    intro i j hi hj hij e
    refine typ_none.1 (h j hj hj).1 ts[i] ?_ e
    rw [List.mem_take_iff_getElem]
    exact ⟨i, by omega, rfl⟩
theorem tok_rgt {ts : List Ty} (h : Tok ts) {k : Nat} (hk : k < ts.length) : typ (ts.take k) (ts[k]).name = none ∧ right ts[k] = 0 := by
  refine ⟨typ_none.2 (fun t ht e => ?_), h.right _ (List.getElem_mem hk)⟩
  obtain ⟨i, hi, rfl⟩ := List.mem_take_iff_getElem.1 ht
  have := h.alone
  rw [List.nodup_iff_pairwise_ne, List.pairwise_map, List.pairwise_iff_getElem] at this
  exact this i k (by omega) hk (by omega) e

set_option maxRecDepth 100000 in
set_option maxHeartbeats 8000000 in
theorem rightTs_any {w : World} {tv : Value} {ts : List Ty} (ht : TysV w tv ts) (hcap : ∀ ao n cap, tv = .slice ao n cap → n ≤ cap) (hz : ∀ t ∈ ts, Tsz t) :
    Calls Tryz.prog 61 #[tv] w fun e w' => Tells e (Tok ts) ∧ Kept (fun _ => True) w w' := by
  obtain ⟨ao, cap, rfl, hl, -⟩ := ht.form
  have hc := hcap _ _ _ rfl
  have HT : Hid (TysV w (.slice ao ts.length cap) ts) := ht
  have HZ : Hid (∀ t ∈ ts, Tsz t) := hz
  clear ht hcap hz
  go_enter Tryz.func61, Tryz.ntmps61
  by_cases h4 : ts.length ≤ 4
  · have g4 : ¬ ((4 : Int) < (ts.length : Int)) := by omega
    go_wp2_with fail
    go_loopw [3, 4, 5, 6, 12] (fun _ _ _ _ ti wr => ∃ i : Nat, i ≤ ts.length ∧ ti = .int .i64 i ∧ Rgt ts i ∧ Kept (fun _ => True) w wr) (fun _ _ _ _ ti _ => ts.length - (intOf ti).toNat)
    case atStart => exact ⟨0, Nat.zero_le _, rfl, fun k _ hk => (by omega), Kept.refl _ _⟩
    case round =>
      obtain ⟨i, hi, rfl, hr, hk⟩ := hrel
      have HR : Hid (Rgt ts i) := hr
      have HK : Hid (Kept (fun _ => True) w wr) := hk
      clear hr
      by_cases hlt : i < ts.length
      · obtain ⟨b, off, rfl, hb, a1, n1, c1, a2, n2, c2, a3, n3, c3, q0, q1, q2, q3, hty⟩ := HT.out.at i hlt
        rw [← kept_cell hk hb trivial] at q0 q1 q2 q3
        have HZi : Hid (Tsz ts[i]) := HZ.out _ (List.getElem_mem hlt)
        have HTok : Hid (Tok ts → typ (ts.take i) (ts[i]).name = none ∧ right ts[i] = 0) := fun h => tok_rgt h hlt
        have HNx : Hid ((typ (ts.take i) (ts[i]).name = none ∧ right ts[i] = 0) → Rgt ts (i + 1)) := fun h k hk hki => by
          by_cases e : k = i
          · subst e; exact h
          · exact HR.out k hk (by omega)
        have HTy : Hid (TyV w (.agg #[.string ⟨(ts[i]).name.toArray⟩, .slice a1 n1 c1, .slice a2 n2 c2, .slice a3 n3 c3]) ts[i]) := hty
        have HTk : Hid (TysV w (.slice (some ⟨b, off, none⟩) i cap) (ts.take i)) := HT.out.take i (by omega)
        have i1 : (i : Int) < (ts.length : Int) := by omega
        have i0 : (0 : Int) ≤ (i : Int) := by omega
        have hcut := fun W => cut_types (b := b) (off := off) (n := ts.length) (cap := cap) i (by omega) W
        clear hty hb hk
        generalize ts[i] = t at *
        have ka := (Kept.refl (fun _ => True) wr).alloc (.cells #[.string ⟨t.name.toArray⟩, .slice a1 n1 c1, .slice a2 n2 c2, .slice a3 n3 c3] 54)
        have HB : Hid _ := heap_alloc_new wr (.cells #[.string ⟨t.name.toArray⟩, .slice a1 n1 c1, .slice a2 n2 c2, .slice a3 n3 c3] 54)
        have HKa : Hid (Kept (fun _ => True) w _) := HK.out.trans ka
        clear ka
        go_upto_region 6 with fail
        clear q0 q1 q2 q3
        generalize wr.alloc (.cells #[.string ⟨t.name.toArray⟩, .slice a1 n1 c1, .slice a2 n2 c2, .slice a3 n3 c3] 54) = w2 at *
        generalize wr.heap.size = Y at *
        have CN := fun W (q : Kept (fun _ => True) w2 W) => (kept_cell q (lt_of_block HB.out) trivial).trans (four_cell HB.out).1.1
        have HC : Hid (∀ W, Kept (fun _ => True) w2 W → Calls Tryz.prog 120 #[.slice (some ⟨b, off, none⟩) i cap, .string ⟨t.name.toArray⟩] W _) := fun W q => typeOf_any (HTk.out.all (HKa.out.trans q)) t.name
        go_cut [5, 6] from 17 to 25 (fun tA tB wx => TyR w2 wx (ts.take i) t.name tA tB)
        case first =>
          clear HT HZ HR HK HZi HTok HNx HTy HTk HB HKa
          go_region_held3 (fun W => Kept (fun _ => True) w2 W) (first | assumption | (repeat (first | exact Kept.refl _ _ | assumption | refine Kept.drew ?_ | refine Kept.alloc ?_ _ | refine Kept.setNew ?_ (by first | exact Nat.le_refl _ | omega) _))) (first
            | (go_at_call 120; refine Calls.mono (HC.out _ (by first | assumption | (repeat (first | exact Kept.refl _ _ | assumption | refine Kept.drew ?_ | refine Kept.alloc ?_ _ | refine Kept.setNew ?_ (by first | exact Nat.le_refl _ | omega) _)))) ?_; rintro e v5 ⟨b1, m1, d1, b2, m2, d2, b3, m3, d3, rfl, hty, m5⟩; have HY5 : Hid (TyV v5 (.agg #[.string ⟨((typ (ts.take i) t.name).getD Ty.none).name.toArray⟩, .slice b1 m1 d1, .slice b2 m2 d2, .slice b3 m3 d3]) ((typ (ts.take i) t.name).getD Ty.none)) := hty; have p5 : Kept (fun _ => True) w2 v5 := Kept.trans (by first | assumption | (repeat (first | exact Kept.refl _ _ | assumption | refine Kept.drew ?_ | refine Kept.alloc ?_ _ | refine Kept.setNew ?_ (by first | exact Nat.le_refl _ | omega) _))) m5; first | (have hz5 := (m5.block w2.heap.size (by simp) trivial).trans (heap_alloc_new w2.drew _); obtain ⟨⟨r0, r1, r2, r3⟩, e0, e1, e2, e3⟩ := four_cell hz5) | skip; clear m5 hty))
          all_goals
            go_wp2_with fail
            go_meet
            first
              | (with_reducible exact TyR.late p5 HY5.out)
              | exact TyR.early p5 HY5.out hz5 (Nat.le_refl _)
        case rest =>
          obtain ⟨G, b1, m1, d1, b2, m2, d2, b3, m3, d3, rfl, rfl, hG, hty, kx⟩ := hcut
          have HKw : Hid (Kept (fun _ => True) w wc) := HKa.out.trans kx
          have hB3 := (kx.block _ (lt_of_block HB.out) trivial).trans HB.out
          clear hG hty CN
          cases hy : typ (ts.take i) t.name with
          | some u =>
            have HN : Hid (¬ Tok ts) := fun h => by
              have := (HTok.out h).1
              rw [hy] at this
              cases this
            simp only [Option.isSome_some]
            clear hy kx hB3
            go_wp2_with fail
            go_ret
            exact ⟨⟨false, rfl, fun h => (by cases h), fun h => absurd h HN.out⟩, HKw.out⟩
          | none =>
            simp only [Option.isSome_none]
            obtain ⟨⟨p0, p1, p2, p3⟩, _⟩ := four_cell hB3
            have HY : Hid _ := hy
            have cr := right_any (HTy.out.all HKw.out) HZi.out
            obtain ⟨R, hR⟩ : ∃ R, right t = R := ⟨_, rfl⟩
            rw [hR] at cr HTok HNx
            clear hy kx hB3 hR
            by_cases h0 : R = 0
            · subst h0
              have HN2 : Hid (Rgt ts (i + 1)) := HNx.out ⟨HY.out, rfl⟩
              go_wp2_with (go_at_call 121; refine Calls.mono cr ?_; rintro e w5 ⟨rfl, k5⟩; have HK5 : Hid (Kept (fun _ => True) wc w5) := k5; clear cr k5)
              go_roundw
              case rel => exact ⟨i + 1, by omega, by go_num, HN2.out, HKw.out.trans HK5.out⟩
              case measure => simp [intOf]; omega
            · have h0' : (((R : Nat) : Int) != 0) = true := by simpa using h0
              have HN : Hid (¬ Tok ts) := fun h => h0 (HTok.out h).2
              clear h0
              go_wp2_with (go_at_call 121; refine Calls.mono cr ?_; rintro e w5 ⟨rfl, k5⟩; have HK5 : Hid (Kept (fun _ => True) wc w5) := k5; clear cr k5)
              go_ret
              exact ⟨⟨false, rfl, fun h => (by cases h), fun h => absurd h HN.out⟩, HKw.out.trans HK5.out⟩
      · obtain rfl : i = ts.length := by omega
        have i1 : ¬ ((ts.length : Int) < (ts.length : Int)) := by omega
        have HH : Hid (Tok ts) := HR.out.tok h4
        clear hk
        go_wp2_with fail
        go_ret
        exact ⟨⟨true, rfl, fun _ => HH.out, fun _ => rfl⟩, HK.out⟩
  · have g4 : (4 : Int) < (ts.length : Int) := by omega
    have HN : Hid (¬ Tok ts) := fun h => h4 h.few
    clear h4
    go_wp2_with fail
    go_ret
    exact ⟨⟨false, rfl, fun h => (by cases h), fun h => absurd h HN.out⟩, Kept.refl _ _⟩

end Go.Proofs.YtenejaghgehnoaaGreatDoor

namespace Go.Proofs.YtenejaghgehnoaaGreatDoor
open Go.RowKit

/-- The cells of a row that is looked at. -/
def Fl (w : World) (v : Value) (n sz : Nat) (cs : List Value) : Prop :=
  ∃ ao cap, v = .slice ao n cap ∧ cs.length = n * sz ∧ n ≤ 281474976710656 ∧ (ao = none → cap = 0) ∧ (0 < n → ∃ b off, ao = some ⟨b, off, none⟩ ∧ b < w.heap.size ∧ ∀ j u, cs[j]? = some u → w.cell? ⟨b, off + j, none⟩ = some u)
theorem Fl.all {w w' : World} {v : Value} {n sz : Nat} {cs : List Value} (h : Fl w v n sz cs) (k : Kept (fun _ => True) w w') : Fl w' v n sz cs := by
  obtain ⟨ao, cap, e, hc, hl, hn, h⟩ := h
  refine ⟨ao, cap, e, hc, hl, hn, fun h0 => ?_⟩
  obtain ⟨b, off, e, hb, h⟩ := h h0
  exact ⟨b, off, e, Nat.lt_of_lt_of_le hb k.size, fun j u hu => (kept_cell k hb trivial).trans (h j u hu)⟩
theorem append_flat {T e sz by' : Nat} {z : Value} (hT : Tryz.prog.underlying T = some (.slice e)) (hI : (Tryz.prog.info? e).map (fun i => (i.zero, i.size, i.bytes)) = some (some z, sz, by')) (hz : z.cells.size = sz) (hsz : 0 < sz) (hby : by' ≤ 128)
    (w : World) (ty : TypeId) (base : Nat) (v : Value) (h : w.ownsRow base e sz v 0 []) (hb : base ≤ w.heap.size) (y : Value) {n : Nat} {cs : List Value} (hy : Fl w y n sz cs) (h1 : ∀ u ∈ cs, u.oneCell' = true) (hm : n ≤ 1000000) :
    ∃ ao' cap' w', (Builtin.append_ #[T, T] ty #[v, y]).run Tryz.prog w = .ok (.slice ao' n cap') w' ∧ w'.ownsRow base e sz (.slice ao' n cap') n cs ∧ w.grownBy w' v.ownBlock := by
  obtain ⟨i, hi, hz0, hz1, hz2⟩ := info_parts hI
  obtain ⟨ao, cap, rfl, hcl, _, hn, hc⟩ := hy
  cases ao with
  | none =>
    have h0 : n = 0 := by
      rcases Nat.eq_zero_or_pos n with h | h
      · exact h
      · obtain ⟨_, _, e, _⟩ := hc h; cases e
    subst h0
    obtain rfl : cs = [] := List.eq_nil_of_length_eq_zero (by omega)
    have hc0 := hn rfl
    subst hc0
    have hrun := run_append_owned_none (P := Tryz.prog) (w := w) base T ty e i sz hT hi v 0 [] h
    obtain ⟨ao', cap', rfl, _⟩ := own_form h
    exact ⟨ao', cap', w, hrun, h, ⟨rfl, rfl, rfl, Nat.le_refl _, fun _ _ _ => rfl⟩⟩
  | some ad =>
    have hsrc : ∀ j u, cs[j]? = some u → w.cell? (ad.add j) = some u := by
      rcases Nat.eq_zero_or_pos n with h0 | h0
      · obtain rfl : cs = [] := List.eq_nil_of_length_eq_zero (by rw [hcl, h0]; simp)
        intro j u hu
        simp at hu
      · obtain ⟨b, off, e, _, hc'⟩ := hc h0
        cases e
        intro j u hu
        rw [WideShapes.add_plain]
        exact hc' j u hu
    have hbb : (0 + n) * by' ≤ 140737488355328 := by
      rw [Nat.zero_add]
      exact Nat.le_trans (Nat.mul_le_mul hm hby) (by decide)
    obtain ⟨v', w', hr, h2, h3, _, h5⟩ := run_append_own_at (P := Tryz.prog) w base T ty e i z sz by' hT hi hz0 hz1 hz2 hz hsz v 0 [] h ad n cap cs hcl hsrc h1 (by unfold maxLen; omega) hbb hb
    rw [Nat.zero_add, List.nil_append] at h2
    obtain ⟨ao', cap', rfl, _⟩ := own_form h2
    exact ⟨ao', cap', w', hr, h2, h3⟩

theorem wpList_append_flat {T e sz by' : Nat} {z : Value} {w : World} {ops : Array Oper} {rest : List Oper} {o : Oper} {a : Act} {Q : Exit → Act → World → Prop} (hT : Tryz.prog.underlying T = some (.slice e)) (hI : (Tryz.prog.info? e).map (fun i => (i.zero, i.size, i.bytes)) = some (some z, sz, by')) (hz : z.cells.size = sz) (hsz : 0 < sz) (hby : by' ≤ 128)
    (hgd : o.guard = none) (sl y : Operand) (ho : o.op = .call { callee := .builtin .append, args := #[sl, y], argTypes := #[T, T] })
    (base : Nat) (v : Value) (hs : a.eval sl = v) (h : w.ownsRow base e sz v 0 []) (hb : base ≤ w.heap.size) (yv : Value) (hy : a.eval y = yv) {n : Nat} {cs : List Value} (hF : Fl w yv n sz cs) (h1 : ∀ u ∈ cs, u.oneCell' = true) (hm : n ≤ 1000000)
    (hC : ∀ ao' cap' w', w'.ownsRow base e sz (.slice ao' n cap') n cs → w.grownBy w' v.ownBlock → wpList Tryz.prog ops Q rest (a.put o.dst (.slice ao' n cap')) w') : wpList Tryz.prog ops Q (o :: rest) a w := by
  refine wpList_plain hgd fun K hK => ?_
  obtain ⟨ao', cap', w', hr, h2, h3⟩ := append_flat hT hI hz hsz hby w o.type base v h hb yv hF h1 hm
  unfold Oper.wp execOp
  simp only [ho, resolve, invoke, builtin, Sem.run_bind, Sem.run_pure, Result.andThen_ok, List.map_toArray, List.map_cons, List.map_nil, hs, hy, hr]
  exact hK _ _ (hC ao' cap' w' h2 h3)
theorem Tryz.infoOp : (Tryz.prog.info? 61).map (fun i => (i.zero, i.size, i.bytes)) = some (some (.agg #[.int .i64 0, .string .empty, .string .empty, .int .i64 0]), 4, 48) := by kernel_rfl
theorem cells_op : (Value.agg #[.int .i64 0, .string .empty, .string .empty, .int .i64 0]).cells.size = 4 := by simp [Value.cells]
theorem Tryz.infoType : (Tryz.prog.info? 54).map (fun i => (i.zero, i.size, i.bytes)) = some (some (.agg #[.string .empty, .slice none 0 0, .slice none 0 0, .slice none 0 0]), 4, 88) := by kernel_rfl
theorem cells_type : (Value.agg #[.string .empty, .slice none 0 0, .slice none 0 0, .slice none 0 0]).cells.size = 4 := by simp [Value.cells]

set_option maxRecDepth 100000 in
set_option maxHeartbeats 4000000 in
theorem clone_ops {w : World} {v : Value} {n : Nat} {cs : List Value} (h : Fl w v n 4 cs) (h1 : ∀ u ∈ cs, u.oneCell' = true) (hl : n ≤ 1000000) :
    Calls Tryz.prog 104 #[v] w fun e w' => ∃ v', e = .returned v' ∧ w'.ownsRow w.heap.size 61 4 v' n cs ∧ Kept (fun _ => True) w w' := by
  have HC : Hid (Fl w v n 4 cs) := h
  obtain ⟨ao, cap, rfl, hcl, _, hn, hx⟩ := h
  cases ao with
  | none =>
    have h0 : n = 0 := by
      rcases Nat.eq_zero_or_pos n with h | h
      · exact h
      · obtain ⟨_, _, e, _⟩ := hx h; cases e
    subst h0
    have hcs : cs = [] := List.eq_nil_of_length_eq_zero (by omega)
    have hc := hn rfl
    subst hcs hc
    clear hn hx HC h1 hl hcl
    have qT : ∀ W : World, (binOp .eql 37 (.slice none 0 0) (.slice none 0 0)).run Tryz.prog W = .ok (.bool true) W := fun W => run_eql_nil_slice W 37 61 none 0 0 0 0 Tryz.underlying37
    go_enter Tryz.func104, Tryz.ntmps104
    go_wp2_with fail
    go_ret
    exact ⟨_, rfl, World.ownsRow_nil _ _ _ _, Kept.refl _ _⟩
  | some ad =>
    have qT : ∀ W : World, (binOp .eql 37 (.slice (some ad) n cap) (.slice none 0 0)).run Tryz.prog W = .ok (.bool false) W := fun W => Lib.run_eql_slice_nil W 37 61 (some ad) n cap 0 0 Tryz.underlying37
    have ka := (Kept.refl (fun _ => True) w).alloc (.cells #[] 61)
    have HKa : Hid _ := ka
    have HO0 : Hid _ := World.ownsRow_lit (base := w.heap.size) (e := 61) (size := 4) w #[] 0 (Nat.le_refl _) (by unfold maxLen; omega) (by simp)
    have HF : Hid (Fl _ (.slice (some ad) n cap) n 4 cs) := HC.out.all ka
    have H1 : Hid _ := h1
    clear hn hx h1 hcl HC ka
    go_enter Tryz.func104, Tryz.ntmps104
    go_wp2_with (at_builtin; refine wpList_append_flat Tryz.underlying37 Tryz.infoOp cells_op (by decide) (by decide) rfl (.tmp 5) (.tmp 6) rfl w.heap.size (.slice (some ⟨w.heap.size, 0, none⟩) 0 0) rfl HO0.out (by simp) (.slice (some ad) n cap) rfl HF.out H1.out hl ?_; intro ao' cap' w' hW hG; have HW : Hid (w'.ownsRow w.heap.size 61 4 (.slice ao' n cap') n cs) := hW; have HK : Hid (Kept (fun _ => True) w w') := HKa.out.grown hG (fun i hi e => by simp [Value.ownBlock] at e; omega); clear hW hG)
    go_ret
    exact ⟨_, rfl, HW.out, HK.out⟩

set_option maxRecDepth 100000 in
set_option maxHeartbeats 4000000 in
theorem clone_types {w : World} {v : Value} {n : Nat} {cs : List Value} (h : Fl w v n 4 cs) (h1 : ∀ u ∈ cs, u.oneCell' = true) (hl : n ≤ 1000000) :
    Calls Tryz.prog 122 #[v] w fun e w' => ∃ v', e = .returned v' ∧ w'.ownsRow w.heap.size 54 4 v' n cs ∧ Kept (fun _ => True) w w' := by
  have HC : Hid (Fl w v n 4 cs) := h
  obtain ⟨ao, cap, rfl, hcl, _, hn, hx⟩ := h
  cases ao with
  | none =>
    have h0 : n = 0 := by
      rcases Nat.eq_zero_or_pos n with h | h
      · exact h
      · obtain ⟨_, _, e, _⟩ := hx h; cases e
    subst h0
    have hcs : cs = [] := List.eq_nil_of_length_eq_zero (by omega)
    have hc := hn rfl
    subst hcs hc
    clear hn hx HC h1 hl hcl
    have qT : ∀ W : World, (binOp .eql 26 (.slice none 0 0) (.slice none 0 0)).run Tryz.prog W = .ok (.bool true) W := fun W => run_eql_nil_slice W 26 54 none 0 0 0 0 Tryz.underlying26
    go_enter Tryz.func122, Tryz.ntmps122
    go_wp2_with fail
    go_ret
    exact ⟨_, rfl, World.ownsRow_nil _ _ _ _, Kept.refl _ _⟩
  | some ad =>
    have qT : ∀ W : World, (binOp .eql 26 (.slice (some ad) n cap) (.slice none 0 0)).run Tryz.prog W = .ok (.bool false) W := fun W => Lib.run_eql_slice_nil W 26 54 (some ad) n cap 0 0 Tryz.underlying26
    have ka := (Kept.refl (fun _ => True) w).alloc (.cells #[] 54)
    have HKa : Hid _ := ka
    have HO0 : Hid _ := World.ownsRow_lit (base := w.heap.size) (e := 54) (size := 4) w #[] 0 (Nat.le_refl _) (by unfold maxLen; omega) (by simp)
    have HF : Hid (Fl _ (.slice (some ad) n cap) n 4 cs) := HC.out.all ka
    have H1 : Hid _ := h1
    clear hn hx h1 hcl HC ka
    go_enter Tryz.func122, Tryz.ntmps122
    go_wp2_with (at_builtin; refine wpList_append_flat Tryz.underlying26 Tryz.infoType cells_type (by decide) (by decide) rfl (.tmp 5) (.tmp 6) rfl w.heap.size (.slice (some ⟨w.heap.size, 0, none⟩) 0 0) rfl HO0.out (by simp) (.slice (some ad) n cap) rfl HF.out H1.out hl ?_; intro ao' cap' w' hW hG; have HW : Hid (w'.ownsRow w.heap.size 54 4 (.slice ao' n cap') n cs) := hW; have HK : Hid (Kept (fun _ => True) w w') := HKa.out.grown hG (fun i hi e => by simp [Value.ownBlock] at e; omega); clear hW hG)
    go_ret
    exact ⟨_, rfl, HW.out, HK.out⟩

set_option maxRecDepth 100000 in
set_option maxHeartbeats 4000000 in
theorem clone_attrs {w : World} {v : Value} {n : Nat} {cs : List Value} (h : Fl w v n 4 cs) (h1 : ∀ u ∈ cs, u.oneCell' = true) (hl : n ≤ 1000000) :
    Calls Tryz.prog 123 #[v] w fun e w' => ∃ v', e = .returned v' ∧ w'.ownsRow w.heap.size 88 4 v' n cs ∧ Kept (fun _ => True) w w' := by
  have HC : Hid (Fl w v n 4 cs) := h
  obtain ⟨ao, cap, rfl, hcl, _, hn, hx⟩ := h
  cases ao with
  | none =>
    have h0 : n = 0 := by
      rcases Nat.eq_zero_or_pos n with h | h
      · exact h
      · obtain ⟨_, _, e, _⟩ := hx h; cases e
    subst h0
    have hcs : cs = [] := List.eq_nil_of_length_eq_zero (by omega)
    have hc := hn rfl
    subst hcs hc
    clear hn hx HC h1 hl hcl
    have qT : ∀ W : World, (binOp .eql 51 (.slice none 0 0) (.slice none 0 0)).run Tryz.prog W = .ok (.bool true) W := fun W => run_eql_nil_slice W 51 88 none 0 0 0 0 Tryz.underlying51
    go_enter Tryz.func123, Tryz.ntmps123
    go_wp2_with fail
    go_ret
    exact ⟨_, rfl, World.ownsRow_nil _ _ _ _, Kept.refl _ _⟩
  | some ad =>
    have qT : ∀ W : World, (binOp .eql 51 (.slice (some ad) n cap) (.slice none 0 0)).run Tryz.prog W = .ok (.bool false) W := fun W => Lib.run_eql_slice_nil W 51 88 (some ad) n cap 0 0 Tryz.underlying51
    have ka := (Kept.refl (fun _ => True) w).alloc (.cells #[] 88)
    have HKa : Hid _ := ka
    have HO0 : Hid _ := World.ownsRow_lit (base := w.heap.size) (e := 88) (size := 4) w #[] 0 (Nat.le_refl _) (by unfold maxLen; omega) (by simp)
    have HF : Hid (Fl _ (.slice (some ad) n cap) n 4 cs) := HC.out.all ka
    have H1 : Hid _ := h1
    clear hn hx h1 hcl HC ka
    go_enter Tryz.func123, Tryz.ntmps123
    go_wp2_with (at_builtin; refine wpList_append_flat Tryz.underlying51 Tryz.infoAttr cells_attr (by decide) (by decide) rfl (.tmp 5) (.tmp 6) rfl w.heap.size (.slice (some ⟨w.heap.size, 0, none⟩) 0 0) rfl HO0.out (by simp) (.slice (some ad) n cap) rfl HF.out H1.out hl ?_; intro ao' cap' w' hW hG; have HW : Hid (w'.ownsRow w.heap.size 88 4 (.slice ao' n cap') n cs) := hW; have HK : Hid (Kept (fun _ => True) w w') := HKa.out.grown hG (fun i hi e => by simp [Value.ownBlock] at e; omega); clear hW hG)
    go_ret
    exact ⟨_, rfl, HW.out, HK.out⟩

set_option maxRecDepth 100000 in
set_option maxHeartbeats 4000000 in
theorem clone_rules {w : World} {v : Value} {n : Nat} {cs : List Value} (h : Fl w v n 2 cs) (h1 : ∀ u ∈ cs, u.oneCell' = true) (hl : n ≤ 1000000) :
    Calls Tryz.prog 124 #[v] w fun e w' => ∃ v', e = .returned v' ∧ w'.ownsRow w.heap.size 90 2 v' n cs ∧ Kept (fun _ => True) w w' := by
  have HC : Hid (Fl w v n 2 cs) := h
  obtain ⟨ao, cap, rfl, hcl, _, hn, hx⟩ := h
  cases ao with
  | none =>
    have h0 : n = 0 := by
      rcases Nat.eq_zero_or_pos n with h | h
      · exact h
      · obtain ⟨_, _, e, _⟩ := hx h; cases e
    subst h0
    have hcs : cs = [] := List.eq_nil_of_length_eq_zero (by omega)
    have hc := hn rfl
    subst hcs hc
    clear hn hx HC h1 hl hcl
    have qT : ∀ W : World, (binOp .eql 52 (.slice none 0 0) (.slice none 0 0)).run Tryz.prog W = .ok (.bool true) W := fun W => run_eql_nil_slice W 52 90 none 0 0 0 0 Tryz.underlying52
    go_enter Tryz.func124, Tryz.ntmps124
    go_wp2_with fail
    go_ret
    exact ⟨_, rfl, World.ownsRow_nil _ _ _ _, Kept.refl _ _⟩
  | some ad =>
    have qT : ∀ W : World, (binOp .eql 52 (.slice (some ad) n cap) (.slice none 0 0)).run Tryz.prog W = .ok (.bool false) W := fun W => Lib.run_eql_slice_nil W 52 90 (some ad) n cap 0 0 Tryz.underlying52
    have ka := (Kept.refl (fun _ => True) w).alloc (.cells #[] 90)
    have HKa : Hid _ := ka
    have HO0 : Hid _ := World.ownsRow_lit (base := w.heap.size) (e := 90) (size := 2) w #[] 0 (Nat.le_refl _) (by unfold maxLen; omega) (by simp)
    have HF : Hid (Fl _ (.slice (some ad) n cap) n 2 cs) := HC.out.all ka
    have H1 : Hid _ := h1
    clear hn hx h1 hcl HC ka
    go_enter Tryz.func124, Tryz.ntmps124
    go_wp2_with (at_builtin; refine wpList_append_flat Tryz.underlying52 Tryz.infoRule cells_rule (by decide) (by decide) rfl (.tmp 5) (.tmp 6) rfl w.heap.size (.slice (some ⟨w.heap.size, 0, none⟩) 0 0) rfl HO0.out (by simp) (.slice (some ad) n cap) rfl HF.out H1.out hl ?_; intro ao' cap' w' hW hG; have HW : Hid (w'.ownsRow w.heap.size 90 2 (.slice ao' n cap') n cs) := hW; have HK : Hid (Kept (fun _ => True) w w') := HKa.out.grown hG (fun i hi e => by simp [Value.ownBlock] at e; omega); clear hW hG)
    go_ret
    exact ⟨_, rfl, HW.out, HK.out⟩

end Go.Proofs.YtenejaghgehnoaaGreatDoor

namespace Go.Proofs.YtenejaghgehnoaaGreatDoor
open Go.RowKit

/-- A type's value. -/
structure Tq where
  name : List UInt8
  at' : Sv
  st : Sv
  ma : Sv
def tlay (q : Tq) : List Value := [.string ⟨q.name.toArray⟩, q.at'.val, q.st.val, q.ma.val]
def trow (l : List Tq) : List Value := l.flatMap tlay
theorem tlay_len (q : Tq) : (tlay q).length = 4 := rfl
theorem trow_one (l : List Tq) : ∀ u ∈ trow l, u.oneCell' = true := by
  intro u hu
  obtain ⟨o, _, h⟩ := List.mem_flatMap.1 hu
  simp only [tlay, List.mem_cons, List.not_mem_nil, or_false] at h
  rcases h with rfl | rfl | rfl | rfl <;> rfl
def Tq.val (q : Tq) : Value := .agg #[.string ⟨q.name.toArray⟩, q.at'.val, q.st.val, q.ma.val]
theorem TysV.cells {w : World} {ao : Option Addr} {n cap : Nat} {ts : List Ty} (h : TysV w (.slice ao n cap) ts) : ∃ qs : List Tq, qs.length = ts.length ∧ Fl w (.slice ao n cap) ts.length 4 (trow qs) ∧ ∀ i (h : i < ts.length) (h' : i < qs.length), TyV w qs[i].val ts[i] ∧ qs[i].name = (ts[i]).name := by
  obtain ⟨ao', cap', e, hl, hn, h⟩ := h
  cases e
  rcases Nat.eq_zero_or_pos ts.length with h0 | h0
  · obtain rfl := List.eq_nil_of_length_eq_zero h0
    exact ⟨[], rfl, ⟨_, _, rfl, rfl, by simp, hn, fun h => by simp at h⟩, fun i hi => by simp at hi⟩
  · obtain ⟨b, off, e, hb, hc⟩ := h h0
    have key : ∀ i, ∃ q : Tq, ∀ hi : i < ts.length, (w.cell? ⟨b, off + i * 4, none⟩ = some (.string ⟨q.name.toArray⟩) ∧ w.cell? ⟨b, off + i * 4 + 1, none⟩ = some q.at'.val ∧ w.cell? ⟨b, off + i * 4 + 2, none⟩ = some q.st.val ∧ w.cell? ⟨b, off + i * 4 + 3, none⟩ = some q.ma.val) ∧ TyV w q.val ts[i] ∧ q.name = (ts[i]).name := fun i => by
      by_cases hi : i < ts.length
      · obtain ⟨a1, n1, c1, a2, n2, c2, a3, n3, c3, h1, h2, h3, h4, h5⟩ := hc i hi
        exact ⟨⟨(ts[i]).name, ⟨a1, n1, c1⟩, ⟨a2, n2, c2⟩, ⟨a3, n3, c3⟩⟩, fun _ => ⟨⟨h1, h2, h3, h4⟩, h5, rfl⟩⟩
      · exact ⟨⟨[], ⟨none, 0, 0⟩, ⟨none, 0, 0⟩, ⟨none, 0, 0⟩⟩, fun h => absurd h hi⟩
    obtain ⟨f, hf⟩ := Classical.axiomOfChoice key
    refine ⟨(List.range ts.length).map f, by simp, ⟨_, _, rfl, by rw [trow, flat_length tlay_len]; simp, hl, hn, fun _ => ⟨b, off, e, hb, fun j u hu => ?_⟩⟩, fun i hi hi' => ?_⟩
    · have hj : j < (trow ((List.range ts.length).map f)).length := by
        rcases Nat.lt_or_ge j (trow ((List.range ts.length).map f)).length with q | q
        · exact q
        · rw [List.getElem?_eq_none q] at hu; cases hu
      rw [trow, flat_length tlay_len, List.length_map, List.length_range] at hj
      have hi : j / 4 < ts.length := by omega
      have := flat_get tlay_len ((List.range ts.length).map f) (j / 4) (by simpa using hi) (j % 4) (Nat.mod_lt _ (by decide))
      rw [show j / 4 * 4 + j % 4 = j by omega] at this
      have hu' : (trow ((List.range ts.length).map f))[j]? = (tlay (f (j / 4)))[j % 4]? := by
        rw [show trow ((List.range ts.length).map f) = ((List.range ts.length).map f).flatMap tlay from rfl, this]
        simp
      rw [hu'] at hu
      obtain ⟨⟨c0, c1, c2, c3⟩, _⟩ := hf (j / 4) hi
      have hm : j % 4 = 0 ∨ j % 4 = 1 ∨ j % 4 = 2 ∨ j % 4 = 3 := by omega
      rcases hm with e | e | e | e <;> rw [e] at hu <;> simp [tlay] at hu <;> subst hu
      · rw [show off + j = off + j / 4 * 4 by omega]; exact c0
      · rw [show off + j = off + j / 4 * 4 + 1 by omega]; exact c1
      · rw [show off + j = off + j / 4 * 4 + 2 by omega]; exact c2
      · rw [show off + j = off + j / 4 * 4 + 3 by omega]; exact c3
    · simp only [List.getElem_map, List.getElem_range]
      exact (hf i hi).2

/-- A copied type: its rows lie in blocks of their types. -/
structure TyW (w : World) (q : Tq) (t : Ty) : Prop where
  view : TyV w q.val t
  t1 : Typed w 88 q.at'
  t2 : Typed w 90 q.st
  t3 : Typed w 90 q.ma
theorem Tq.parts {q : Tq} {x : ByteArray} {va vs vm : Value} (e : q.val = .agg #[.string x, va, vs, vm]) : q.at'.val = va ∧ q.st.val = vs ∧ q.ma.val = vm := by
  have := congrArg (fun z => match z with | Value.agg a => a.toList | _ => []) e
  simp only [Tq.val, List.cons.injEq, and_true] at this
  exact this.2
theorem TyW.keep {w w' : World} {q : Tq} {t : Ty} {G : Nat} (h : TyW w q t) (k : Kept (· ≠ G) w w') (hG : ∃ cs fr, w.heap[G]? = some (.cells cs 54 fr)) : TyW w' q t := by
  obtain ⟨cs, fr, hG⟩ := hG
  have ha : ∀ b cs fr, w.heap[b]? = some (.cells cs 88 fr) → b ≠ G := fun b cs' fr' hb e => by
    rw [e, hG] at hb
    simp only [Option.some.injEq, Obj.cells.injEq] at hb
    exact absurd hb.2.1 (by decide)
  have hr : ∀ b cs fr, w.heap[b]? = some (.cells cs 90 fr) → b ≠ G := fun b cs' fr' hb e => by
    rw [e, hG] at hb
    simp only [Option.some.injEq, Obj.cells.injEq] at hb
    exact absurd hb.2.1 (by decide)
  obtain ⟨⟨va, vs, vm, e, h1, h2, h3⟩, t1, t2, t3⟩ := h
  obtain ⟨rfl, rfl, rfl⟩ := Tq.parts e
  refine ⟨⟨_, _, _, e, ?_, ?_, ?_⟩, t1.calm k ha, t2.calm k hr, t3.calm k hr⟩
  · obtain ⟨ao, cap, e', hl, hn, h⟩ := h1
    refine ⟨ao, cap, e', hl, hn, fun h0 => ?_⟩
    obtain ⟨b, off, e2, hb, hc⟩ := h h0
    have hq : q.at'.a = some ⟨b, off, none⟩ ∧ 0 < q.at'.n := by
      subst e2
      unfold Sv.val at e'
      simp only [Value.slice.injEq] at e'
      exact ⟨e'.1, by omega⟩
    obtain ⟨cs', fr', hcs⟩ := t1 _ hq.1 hq.2
    refine ⟨b, off, e2, Nat.lt_of_lt_of_le hb k.size, fun i hi => ?_⟩
    simp only [kept_cell k hb (ha b cs' fr' hcs)]
    exact hc i hi
  · obtain ⟨ao, cap, e', hl, hn, h⟩ := h2
    refine ⟨ao, cap, e', hl, hn, fun h0 => ?_⟩
    obtain ⟨b, off, e2, hb, hc⟩ := h h0
    have hq : q.st.a = some ⟨b, off, none⟩ ∧ 0 < q.st.n := by
      subst e2
      unfold Sv.val at e'
      simp only [Value.slice.injEq] at e'
      exact ⟨e'.1, by omega⟩
    obtain ⟨cs', fr', hcs⟩ := t2 _ hq.1 hq.2
    refine ⟨b, off, e2, Nat.lt_of_lt_of_le hb k.size, fun i hi => ?_⟩
    simp only [kept_cell k hb (hr b cs' fr' hcs)]
    exact hc i hi
  · obtain ⟨ao, cap, e', hl, hn, h⟩ := h3
    refine ⟨ao, cap, e', hl, hn, fun h0 => ?_⟩
    obtain ⟨b, off, e2, hb, hc⟩ := h h0
    have hq : q.ma.a = some ⟨b, off, none⟩ ∧ 0 < q.ma.n := by
      subst e2
      unfold Sv.val at e'
      simp only [Value.slice.injEq] at e'
      exact ⟨e'.1, by omega⟩
    obtain ⟨cs', fr', hcs⟩ := t3 _ hq.1 hq.2
    refine ⟨b, off, e2, Nat.lt_of_lt_of_le hb k.size, fun i hi => ?_⟩
    simp only [kept_cell k hb (hr b cs' fr' hcs)]
    exact hc i hi

end Go.Proofs.YtenejaghgehnoaaGreatDoor

namespace Go.Proofs.YtenejaghgehnoaaGreatDoor
open Go.RowKit

theorem Av.flat {w : World} {v : Value} {l : List At} (h : Av w v l) : Fl w v l.length 4 (arow l) := by
  obtain ⟨ao, cap, rfl, hl, hn, h⟩ := h
  refine ⟨ao, cap, rfl, by rw [arow, flat_length alay_len], hl, hn, fun h0 => ?_⟩
  obtain ⟨b, off, e, hb, hc⟩ := h h0
  refine ⟨b, off, e, hb, fun j u hu => ?_⟩
  have hj : j < (arow l).length := by
    rcases Nat.lt_or_ge j (arow l).length with q | q
    · exact q
    · rw [List.getElem?_eq_none q] at hu; cases hu
  rw [arow, flat_length alay_len] at hj
  have hi : j / 4 < l.length := by omega
  have := flat_get alay_len l (j / 4) hi (j % 4) (Nat.mod_lt _ (by decide))
  rw [show j / 4 * 4 + j % 4 = j by omega] at this
  have hu' : (arow l)[j]? = (alay l[j / 4])[j % 4]? := this
  rw [hu'] at hu
  obtain ⟨c0, c1, c2, c3⟩ := hc (j / 4) hi
  have hm : j % 4 = 0 ∨ j % 4 = 1 ∨ j % 4 = 2 ∨ j % 4 = 3 := by omega
  rcases hm with e | e | e | e <;> rw [e] at hu <;> simp [alay] at hu <;> subst hu
  · rw [show off + j = off + j / 4 * 4 by omega]; exact c0
  · rw [show off + j = off + j / 4 * 4 + 1 by omega]; exact c1
  · rw [show off + j = off + j / 4 * 4 + 2 by omega]; exact c2
  · rw [show off + j = off + j / 4 * 4 + 3 by omega]; exact c3
theorem Rv.flat {w : World} {v : Value} {l : List Ru} (h : Rv w v l) : Fl w v l.length 2 (rrow l) := by
  obtain ⟨ao, cap, rfl, hl, hn, h⟩ := h
  refine ⟨ao, cap, rfl, by rw [rrow, flat_length rlay_len], hl, hn, fun h0 => ?_⟩
  obtain ⟨b, off, e, hb, hc⟩ := h h0
  refine ⟨b, off, e, hb, fun j u hu => ?_⟩
  have hj : j < (rrow l).length := by
    rcases Nat.lt_or_ge j (rrow l).length with q | q
    · exact q
    · rw [List.getElem?_eq_none q] at hu; cases hu
  rw [rrow, flat_length rlay_len] at hj
  have hi : j / 2 < l.length := by omega
  have := flat_get rlay_len l (j / 2) hi (j % 2) (Nat.mod_lt _ (by decide))
  rw [show j / 2 * 2 + j % 2 = j by omega] at this
  have hu' : (rrow l)[j]? = (rlay l[j / 2])[j % 2]? := this
  rw [hu'] at hu
  obtain ⟨c0, c1⟩ := hc (j / 2) hi
  have hm : j % 2 = 0 ∨ j % 2 = 1 := by omega
  rcases hm with e | e <;> rw [e] at hu <;> simp [rlay] at hu <;> subst hu
  · rw [show off + j = off + j / 2 * 2 by omega]; exact c0
  · rw [show off + j = off + j / 2 * 2 + 1 by omega]; exact c1
theorem own_av {w : World} {base : Nat} {v : Value} {l : List At} (h : w.ownsRow base 88 4 v l.length (arow l)) (hl : l.length ≤ 281474976710656) : Av w v l ∧ ∀ ao n c, v = .slice ao n c → Typed w 88 ⟨ao, n, c⟩ := by
  rcases h.2 with ⟨rfl, h0⟩ | ⟨g, cap, cur, rfl, _, hg, _⟩
  · obtain rfl := List.eq_nil_of_length_eq_zero h0
    exact ⟨Av.nil w, fun ao n c e a ha => by cases e; cases ha⟩
  · have hc : ∀ i (_ : i < l.length) (j : Nat), j < 4 → w.cell? ⟨g, 0 + i * 4 + j, none⟩ = (alay l[i])[j]? := fun i hi j hj => by
      have := (h.cellAt (i * 4 + j) (by omega)).trans (flat_get alay_len l i hi j hj)
      rw [Nat.zero_add]
      exact this
    refine ⟨⟨_, _, rfl, hl, by simp, fun _ => ⟨g, 0, rfl, lt_of_block hg, fun i hi => ⟨hc i hi 0 (by omega), hc i hi 1 (by omega), hc i hi 2 (by omega), hc i hi 3 (by omega)⟩⟩⟩, fun ao n c e a ha _ => ?_⟩
    cases e
    cases ha
    exact ⟨_, _, hg⟩
theorem own_rv {w : World} {base : Nat} {v : Value} {l : List Ru} (h : w.ownsRow base 90 2 v l.length (rrow l)) (hl : l.length ≤ 281474976710656) : Rv w v l ∧ ∀ ao n c, v = .slice ao n c → Typed w 90 ⟨ao, n, c⟩ := by
  rcases h.2 with ⟨rfl, h0⟩ | ⟨g, cap, cur, rfl, _, hg, _⟩
  · obtain rfl := List.eq_nil_of_length_eq_zero h0
    exact ⟨Rv.nil w, fun ao n c e a ha => by cases e; cases ha⟩
  · have hc : ∀ i (_ : i < l.length) (j : Nat), j < 2 → w.cell? ⟨g, 0 + i * 2 + j, none⟩ = (rlay l[i])[j]? := fun i hi j hj => by
      have := (h.cellAt (i * 2 + j) (by omega)).trans (flat_get rlay_len l i hi j hj)
      rw [Nat.zero_add]
      exact this
    refine ⟨⟨_, _, rfl, hl, by simp, fun _ => ⟨g, 0, rfl, lt_of_block hg, fun i hi => ⟨hc i hi 0 (by omega), hc i hi 1 (by omega)⟩⟩⟩, fun ao n c e a ha _ => ?_⟩
    cases e
    cases ha
    exact ⟨_, _, hg⟩
/-- While types are copied. -/
structure Cpy (w wr : World) (g cap : Nat) (ts : List Ty) (qs : List Tq) (i : Nat) : Prop where
  own : wr.ownsRow w.heap.size 54 4 (.slice (some ⟨g, 0, none⟩) ts.length cap) ts.length (trow qs)
  len : qs.length = ts.length
  old : ∀ j (h : j < ts.length) (h' : j < qs.length), i ≤ j → TyV w qs[j].val ts[j]
  new : ∀ j (h : j < ts.length) (h' : j < qs.length), j < i → TyW wr qs[j] ts[j]
  name : ∀ j (h : j < ts.length) (h' : j < qs.length), qs[j].name = (ts[j]).name
  kept : Kept (fun _ => True) w wr
theorem trow_at (qs : List Tq) (i : Nat) (h : i < qs.length) (j : Nat) (hj : j < 4) : (trow qs)[i * 4 + j]? = (tlay qs[i])[j]? := flat_get tlay_len qs i h j hj
theorem trow_set : ∀ (qs : List Tq) (i : Nat) (h : i < qs.length) (x y z : Sv), (((trow qs).set (i * 4 + 1) x.val).set (i * 4 + 2) y.val).set (i * 4 + 3) z.val = trow (qs.set i ⟨qs[i].name, x, y, z⟩)
  | [], _, h, _, _, _ => by simp at h
  | q :: qs, 0, _, x, y, z => by simp [trow, tlay]
  | q :: qs, i + 1, h, x, y, z => by
    have := trow_set qs i (by simpa using h) x y z
    have e : ∀ k, (i + 1) * 4 + k = (tlay q).length + (i * 4 + k) := fun k => by rw [tlay_len]; omega
    simp only [trow, List.flatMap_cons, List.set_cons_succ, List.getElem_cons_succ] at this ⊢
    rw [e 1, e 2, e 3, List.set_append_right _ _ (by omega), List.set_append_right _ _ (by omega), List.set_append_right _ _ (by omega)]
    simp only [Nat.add_sub_cancel_left]
    rw [this]
/-- Cpy's end. -/
theorem Cpy.tys {w wr : World} {g cap : Nat} {ts : List Ty} {qs : List Tq} (h : Cpy w wr g cap ts qs ts.length) (hl : ts.length ≤ 4) : TysV wr (.slice (some ⟨g, 0, none⟩) ts.length cap) ts := by
  refine ⟨_, _, rfl, by omega, by simp, fun h0 => ?_⟩
  rcases h.own.2 with ⟨e, _⟩ | ⟨g', cap', cur, e, _, hg, _⟩
  · cases e
  · cases e
    refine ⟨g, 0, rfl, lt_of_block hg, fun i hi => ?_⟩
    have hi' : i < qs.length := by rw [h.len]; exact hi
    have hc : ∀ j, j < 4 → wr.cell? ⟨g, 0 + i * 4 + j, none⟩ = (tlay qs[i])[j]? := fun j hj => by
      have := (h.own.cellAt (i * 4 + j) (by omega)).trans (trow_at qs i hi' j hj)
      rw [Nat.zero_add]
      exact this
    have hn := h.name i hi hi'
    have hv := (h.new i hi hi' hi).view
    unfold Tq.val at hv
    rw [hn] at hv
    refine ⟨_, _, _, _, _, _, _, _, _, ?_, hc 1 (by omega), hc 2 (by omega), hc 3 (by omega), hv⟩
    have := hc 0 (by omega)
    rw [← hn]
    exact this

end Go.Proofs.YtenejaghgehnoaaGreatDoor

namespace Go.Proofs.YtenejaghgehnoaaGreatDoor
open Go.RowKit

/-- What one round leaves. -/
theorem Cpy.next {w wr w3 : World} {g cap : Nat} {ts : List Ty} {qs : List Tq} {i : Nat} (h : Cpy w wr g cap ts qs i) (hi : i < ts.length) (hi' : i < qs.length) (k3 : Kept (fun _ => True) wr w3) (x y z : Sv) (hx : Av w3 x.val (ts[i]).attrs) (hy : Rv w3 y.val (ts[i]).stages) (hz : Rv w3 z.val (ts[i]).marks) (tx : Typed w3 88 x) (ty : Typed w3 90 y) (tz : Typed w3 90 z) :
    Cpy w (((w3.setCell ⟨g, i * 4 + 1, none⟩ x.val).setCell ⟨g, i * 4 + 2, none⟩ y.val).setCell ⟨g, i * 4 + 3, none⟩ z.val) g cap ts (qs.set i ⟨qs[i].name, x, y, z⟩) (i + 1) := by
  have ho := own_keep h.own k3 (fun _ _ => trivial)
  have hG : ∃ cs fr, w3.heap[g]? = some (.cells cs 54 fr) := by
    rcases ho.2 with ⟨e, _⟩ | ⟨g', cap', cur, e, _, hg, _⟩
    · cases e
    · cases e; exact ⟨_, _, hg⟩
  have hgw : w.heap.size ≤ g := (h.own.lt g rfl).1
  have ks : Kept (· ≠ g) w3 (((w3.setCell ⟨g, i * 4 + 1, none⟩ x.val).setCell ⟨g, i * 4 + 2, none⟩ y.val).setCell ⟨g, i * 4 + 3, none⟩ z.val) := (((Kept.refl _ _).setCell (by simp) _).setCell (by simp) _).setCell (by simp) _
  have kw : Kept (fun _ => True) w (((w3.setCell ⟨g, i * 4 + 1, none⟩ x.val).setCell ⟨g, i * 4 + 2, none⟩ y.val).setCell ⟨g, i * 4 + 3, none⟩ z.val) := (((h.kept.trans k3).setNew hgw _).setNew hgw _).setNew hgw _
  refine ⟨?_, by simpa using h.len, fun j hj hj' hij => ?_, fun j hj hj' hij => ?_, fun j hj hj' => ?_, kw⟩
  · have := (((ho.stored (i * 4 + 1) x.val).1).stored (i * 4 + 2) y.val).1.stored (i * 4 + 3) z.val
    rw [trow_set qs i hi' x y z] at this
    exact this.1
  · have hne : i ≠ j := by omega
    rw [List.getElem_set_ne hne]
    exact h.old j hj (by simpa using hj') (by omega)
  · by_cases e : j = i
    · subst e
      rw [List.getElem_set_self]
      have hv : TyW w3 ⟨qs[j].name, x, y, z⟩ ts[j] := ⟨⟨_, _, _, by rw [h.name j hi hi']; rfl, hx, hy, hz⟩, tx, ty, tz⟩
      exact hv.keep ks hG
    · rw [List.getElem_set_ne (Ne.symm e)]
      have := h.new j hj (by simpa using hj') (by omega)
      have h3 : TyW w3 qs[j] ts[j] := ⟨this.view.all k3, this.t1.calm k3 (fun _ _ _ _ => trivial), this.t2.calm k3 (fun _ _ _ _ => trivial), this.t3.calm k3 (fun _ _ _ _ => trivial)⟩
      exact h3.keep ks hG
  · by_cases e : j = i
    · subst e
      rw [List.getElem_set_self]
      exact h.name j hj (by simpa using hj')
    · rw [List.getElem_set_ne (Ne.symm e)]
      exact h.name j hj (by simpa using hj')

set_option maxRecDepth 100000 in
set_option maxHeartbeats 8000000 in
theorem copyTypes_any {w : World} {tv : Value} {ts : List Ty} (ht : TysV w tv ts) (ok : Tok ts) :
    Calls Tryz.prog 63 #[tv] w fun e w' => ∃ v, e = .returned v ∧ TysV w' v ts ∧ Kept (fun _ => True) w w' := by
  obtain ⟨ao, cap, rfl, hl, -⟩ := ht.form
  obtain ⟨qs, hql, hfl, hty⟩ := ht.cells
  have h4 := ok.few
  have cl := clone_types hfl (trow_one qs) (by omega)
  have HT : Hid (∀ i (h : i < ts.length) (h' : i < qs.length), TyV w qs[i].val ts[i] ∧ qs[i].name = (ts[i]).name) := hty
  have HOK : Hid (Tok ts) := ok
  have HQl : Hid (qs.length = ts.length) := hql
  clear ht hfl hty ok hql
  go_enter Tryz.func63, Tryz.ntmps63
  go_upto_region 2 with (go_at_call 122; refine Calls.mono cl ?_; rintro e w1 ⟨v, rfl, own, k1⟩; obtain ⟨vo, vc, rfl⟩ := own_shape_any own; have HO : Hid (w1.ownsRow w.heap.size 54 4 (.slice vo ts.length vc) ts.length (trow qs)) := own; have HK1 : Hid (Kept (fun _ => True) w w1) := k1; clear cl own k1)
  rcases Nat.eq_zero_or_pos ts.length with h0 | h0
  · have HN : Hid (ts = []) := List.eq_nil_of_length_eq_zero h0
    have g0 : (ts.length : Int) = 0 := by omega
    have HV : Hid (TysV w1 (.slice vo ts.length vc) ts) := by
      have ho := HO.out.2
      refine ⟨vo, vc, rfl, by omega, fun e => ?_, fun h => (by omega)⟩
      rcases ho with ⟨e', _⟩ | ⟨g, cap', cur, e', _⟩
      · simp only [Value.slice.injEq] at e'
        exact e'.2.2
      · simp only [Value.slice.injEq] at e'
        rw [e] at e'
        cases e'.1
    clear HO HT HQl h0
    go_wp2_with fail
    go_loopw [4, 5, 10] (fun _ _ ti wr => ti = .int .i64 0 ∧ wr = w1) (fun _ _ _ _ => 0)
    case atStart => exact ⟨rfl, rfl⟩
    case round =>
      obtain ⟨rfl, rfl⟩ := hrel
      have i1 : ¬ ((0 : Int) < (ts.length : Int)) := by omega
      go_wp2_with fail
      go_ret
      first | exact ⟨_, rfl, HV.out, HK1.out⟩ | exact ⟨_, by rw [g0]; rfl, HV.out, HK1.out⟩
  · obtain ⟨g, rfl⟩ : ∃ g, vo = some ⟨g, 0, none⟩ := by
      rcases HO.out.2 with ⟨e, e0⟩ | ⟨g, cap', cur, e, _⟩
      · omega
      · exact ⟨g, by cases e; rfl⟩
    have HC : Hid (Cpy w w1 g vc ts qs 0) := ⟨HO.out, HQl.out, fun j h h' _ => (HT.out j h h').1, fun j h h' hj => (by omega), fun j h h' => (HT.out j h h').2, HK1.out⟩
    clear HO HT HQl HK1 h0
    go_wp2_with fail
    go_loopw [4, 5, 10] (fun _ _ ti wr => ∃ (i : Nat) (qs' : List Tq), i ≤ ts.length ∧ ti = .int .i64 i ∧ Cpy w wr g vc ts qs' i) (fun _ _ ti _ => ts.length - (intOf ti).toNat)
    case atStart => exact ⟨0, qs, Nat.zero_le _, rfl, HC.out⟩
    case round =>
      obtain ⟨i, qs', hi, rfl, hc⟩ := hrel
      have HCi : Hid (Cpy w wr g vc ts qs' i) := hc
      by_cases hlt : i < ts.length
      · have hlq : i < qs'.length := by rw [hc.len]; exact hlt
        have hcell : ∀ j, j < 4 → wr.cell? ⟨g, i * 4 + j, none⟩ = (tlay qs'[i])[j]? := fun j hj => (hc.own.cellAt (i * 4 + j) (by omega)).trans (trow_at qs' i hlq j hj)
        have hgood : Good ts[i] := good_of (HOK.out.right _ (List.getElem_mem hlt))
        have hv := hc.old i hlt hlq (Nat.le_refl _)
        have HNx : Hid (∀ w3, Kept (fun _ => True) wr w3 → _) := fun w3 k3 => hc.next hlt hlq k3
        have q0 := hcell 0 (by omega)
        have q1 := hcell 1 (by omega)
        have q2 := hcell 2 (by omega)
        have q3 := hcell 3 (by omega)
        have HFz : Hid (∀ k W, Kept (fun _ => True) wr W → W.frozen? ⟨g, k, none⟩ = false ∧ (k < ts.length * 4 → ∃ u, W.cell? ⟨g, k, none⟩ = some u)) := fun k W q => by
          have ho := own_keep hc.own q (fun _ _ => trivial)
          refine ⟨ho.frozenAt k, fun hk => ?_⟩
          have := ho.cellAt k (by omega)
          have hl : k < (trow qs').length := by rw [trow, flat_length tlay_len, hc.len]; exact hk
          exact ⟨(trow qs')[k], by rw [this]; simp [hl]⟩
        obtain ⟨q, hq⟩ : ∃ q, qs'[i] = q := ⟨_, rfl⟩
        rw [hq] at hv q0 q1 q2 q3
        have HLq : Hid (i < qs'.length) := hlq
        obtain ⟨nm, ⟨a1, n1, c1⟩, ⟨a2, n2, c2⟩, ⟨a3, n3, c3⟩⟩ := q
        obtain ⟨va, vs, vm, e, hva, hvs, hvm⟩ := hv
        obtain ⟨rfl, rfl, rfl⟩ := Tq.parts e
        have HVa : Hid (Av w (.slice a1 n1 c1) (ts[i]).attrs) := hva
        have HVs : Hid (Rv w (.slice a2 n2 c2) (ts[i]).stages) := hvs
        have HVm : Hid (Rv w (.slice a3 n3 c3) (ts[i]).marks) := hvm
        have HGd : Hid (Good ts[i]) := hgood
        change _ = some (Value.string ⟨nm.toArray⟩) at q0
        change _ = some (Value.slice a1 n1 c1) at q1
        change _ = some (Value.slice a2 n2 c2) at q2
        change _ = some (Value.slice a3 n3 c3) at q3
        rw [Nat.add_zero] at q0
        have i1 : (i : Int) < (ts.length : Int) := by omega
        have i0 : (0 : Int) ≤ (i : Int) := by omega
        have hgl : g < wr.heap.size := (hc.own.lt g rfl).2
        have ka := (Kept.refl (fun _ => True) wr).alloc (.cells #[.string ⟨nm.toArray⟩, .slice a1 n1 c1, .slice a2 n2 c2, .slice a3 n3 c3] 54)
        have HB : Hid _ := heap_alloc_new wr (.cells #[.string ⟨nm.toArray⟩, .slice a1 n1 c1, .slice a2 n2 c2, .slice a3 n3 c3] 54)
        have HKa : Hid (Kept (fun _ => True) wr (wr.alloc (.cells #[.string ⟨nm.toArray⟩, .slice a1 n1 c1, .slice a2 n2 c2, .slice a3 n3 c3] 54))) := ka
        have hgY : g ≠ wr.heap.size := by omega
        clear hc hq e hva hvs hvm hgood hcell ka
        go_upto_region 5 with fail
        clear q0 q1 q2 q3
        generalize wr.alloc (.cells #[.string ⟨nm.toArray⟩, .slice a1 n1 c1, .slice a2 n2 c2, .slice a3 n3 c3] 54) = w2 at *
        generalize hYe : wr.heap.size = Y at *
        have hKw : Kept (fun _ => True) w w2 := HCi.out.kept.trans HKa.out
        have CB1 := fun W (q : Kept (· ≠ g) w2 W) => (kept_cell q (lt_of_block HB.out) (Ne.symm hgY)).trans (four_cell HB.out).1.2.1
        have CB2 := fun W (q : Kept (· ≠ g) w2 W) => (kept_cell q (lt_of_block HB.out) (Ne.symm hgY)).trans (four_cell HB.out).1.2.2.1
        have CB3 := fun W (q : Kept (· ≠ g) w2 W) => (kept_cell q (lt_of_block HB.out) (Ne.symm hgY)).trans (four_cell HB.out).1.2.2.2
        have HCA : Hid (∀ W, Kept (fun _ => True) w2 W → Calls Tryz.prog 123 #[.slice a1 n1 c1] W fun e w' => ∃ x : Sv, e = .returned x.val ∧ Av w' x.val (ts[i]).attrs ∧ Typed w' 88 x ∧ Kept (fun _ => True) W w') := fun W q => by
          refine (clone_attrs ((HVa.out.all (hKw.trans q)).flat) (flat_one alay_one _) (by have := HGd.out.na; omega)).mono fun e w' h => ?_
          obtain ⟨v', h1, h2, h3⟩ := h
          obtain ⟨o1, o2, rfl⟩ := own_shape_any h2
          obtain ⟨r1, r2⟩ := own_av h2 (by have := HGd.out.na; omega)
          exact ⟨⟨o1, _, o2⟩, h1, r1, r2 _ _ _ rfl, h3⟩
        have HCS : Hid (∀ W, Kept (fun _ => True) w2 W → Calls Tryz.prog 124 #[.slice a2 n2 c2] W fun e w' => ∃ x : Sv, e = .returned x.val ∧ Rv w' x.val (ts[i]).stages ∧ Typed w' 90 x ∧ Kept (fun _ => True) W w') := fun W q => by
          refine (clone_rules ((HVs.out.all (hKw.trans q)).flat) (flat_one rlay_one _) (by have := HGd.out.ns; omega)).mono fun e w' h => ?_
          obtain ⟨v', h1, h2, h3⟩ := h
          obtain ⟨o1, o2, rfl⟩ := own_shape_any h2
          obtain ⟨r1, r2⟩ := own_rv h2 (by have := HGd.out.ns; omega)
          exact ⟨⟨o1, _, o2⟩, h1, r1, r2 _ _ _ rfl, h3⟩
        have HCM : Hid (∀ W, Kept (fun _ => True) w2 W → Calls Tryz.prog 124 #[.slice a3 n3 c3] W fun e w' => ∃ x : Sv, e = .returned x.val ∧ Rv w' x.val (ts[i]).marks ∧ Typed w' 90 x ∧ Kept (fun _ => True) W w') := fun W q => by
          refine (clone_rules ((HVm.out.all (hKw.trans q)).flat) (flat_one rlay_one _) (by have := HGd.out.nm; omega)).mono fun e w' h => ?_
          obtain ⟨v', h1, h2, h3⟩ := h
          obtain ⟨o1, o2, rfl⟩ := own_shape_any h2
          obtain ⟨r1, r2⟩ := own_rv h2 (by have := HGd.out.nm; omega)
          exact ⟨⟨o1, _, o2⟩, h1, r1, r2 _ _ _ rfl, h3⟩
        have HFk : Hid (Kept (fun _ => True) wr w2) := HKa.out
        clear HOK HLq HVa HVs HVm HGd HB HKa hKw HC
        have hb1 : i * 4 + 1 < ts.length * 4 := by omega
        have hb2 : i * 4 + 2 < ts.length * 4 := by omega
        have hb3 : i * 4 + 3 < ts.length * 4 := by omega
        go_region_held3 (fun W => Kept (· ≠ g) w2 W) (first | assumption | (repeat (first | exact Kept.refl _ _ | assumption | refine Kept.drew ?_ | refine Kept.setCell ?_ (by simp) _))) (first
            | (go_at_call 123; refine Calls.mono (HCA.out _ (by first | assumption | (repeat (first | exact Kept.refl _ _ | assumption | refine Kept.drew ?_)))) ?_; rintro e v5 ⟨⟨o1, m1, l1⟩, rfl, hx5, tx5, m5⟩; have HX5 : Hid (Av v5 (Sv.val ⟨o1, m1, l1⟩) (ts[i]).attrs ∧ Typed v5 88 ⟨o1, m1, l1⟩) := ⟨hx5, tx5⟩; unfold Sv.val; have p5 : Kept (fun _ => True) w2 v5 := Kept.trans (by first | assumption | (repeat (first | exact Kept.refl _ _ | assumption | refine Kept.drew ?_))) m5; have s5 : Kept (· ≠ g) w2 v5 := p5.mono (fun _ _ _ => trivial); clear m5 hx5 tx5)
            | (go_at_call 124; refine Calls.mono (HCS.out _ p5) ?_; rintro e v6 ⟨⟨o2, m2, l2⟩, rfl, hx6, tx6, m6⟩; have HX6 : Hid (Rv v6 (Sv.val ⟨o2, m2, l2⟩) (ts[i]).stages ∧ Typed v6 90 ⟨o2, m2, l2⟩) := ⟨hx6, tx6⟩; unfold Sv.val; have HM6 : Hid (Kept (fun _ => True) v5 v6) := m6; have p6 : Kept (fun _ => True) w2 v6 := Kept.trans p5 m6; have s6 : Kept (· ≠ g) w2 v6 := p6.mono (fun _ _ _ => trivial); clear m6 hx6 tx6)
            | (go_at_call 124; refine Calls.mono (HCM.out _ p6) ?_; rintro e v7 ⟨⟨o3, m3, l3⟩, rfl, hx7, tx7, m7⟩; have HX7 : Hid (Rv v7 (Sv.val ⟨o3, m3, l3⟩) (ts[i]).marks ∧ Typed v7 90 ⟨o3, m3, l3⟩) := ⟨hx7, tx7⟩; unfold Sv.val; have HM7 : Hid (Kept (fun _ => True) v6 v7) := m7; have p7 : Kept (fun _ => True) w2 v7 := Kept.trans p6 m7; have s7 : Kept (· ≠ g) w2 v7 := p7.mono (fun _ _ _ => trivial); obtain ⟨f1, e1⟩ := HFz.out (i * 4 + 1) v7 (HFk.out.trans p7); obtain ⟨u1, z1⟩ := e1 hb1; obtain ⟨f2, e2⟩ := HFz.out (i * 4 + 2) v7 (HFk.out.trans p7); obtain ⟨u2, z2⟩ := e2 hb2; obtain ⟨f3, e3⟩ := HFz.out (i * 4 + 3) v7 (HFk.out.trans p7); obtain ⟨u3, z3⟩ := e3 hb3; clear m7 hx7 tx7 e1 e2 e3))
        have HNn : Hid _ := HNx.out v7 (HFk.out.trans p7) ⟨o1, m1, l1⟩ ⟨o2, m2, l2⟩ ⟨o3, m3, l3⟩ ((HX5.out.1.all HM6.out).all HM7.out) (HX6.out.1.all HM7.out) HX7.out.1 ((HX5.out.2.calm HM6.out (fun _ _ _ _ => trivial)).calm HM7.out (fun _ _ _ _ => trivial)) (HX6.out.2.calm HM7.out (fun _ _ _ _ => trivial)) HX7.out.2
        clear CB1 CB2 CB3
        go_wp2_with fail
        go_roundw
        case rel => exact ⟨i + 1, _, by omega, by go_num, HNn.out⟩
        case measure => simp [intOf]; omega
      · obtain rfl : i = ts.length := by omega
        have i1 : ¬ ((ts.length : Int) < (ts.length : Int)) := by omega
        clear hc
        go_wp2_with fail
        go_ret
        exact ⟨_, rfl, HCi.out.tys h4, HCi.out.kept⟩

end Go.Proofs.YtenejaghgehnoaaGreatDoor

namespace Go.Proofs.YtenejaghgehnoaaGreatDoor
open Go.RowKit Go.Maps

set_option maxRecDepth 100000 in
theorem sh_cells (tv : Value) (a : Ft) : ((((Tryz.zeroCells117.setIfInBounds 0 tv).setIfInBounds 257 (.map (some a.C))).setIfInBounds 258 (.map (some a.P))).setIfInBounds 259 (.map (some a.O))).setIfInBounds 260 (.pointer (some ⟨a.T, 0, none⟩)) = ((List.range 261).map (scell tv (fun _ => 0) a)).toArray := by
  kernel_rfl
/-- A shard that was made just now. -/
structure Made (w w' : World) (a : Ft) (n : Nat) (tv : Value) (h : Lk) (s : Sh) : Prop where
  sm : Sm w' a n tv h s
  mine : ∀ k, a.Mine k → w.heap.size ≤ k
  tab : w.heap.size ≤ a.T
  kept : Kept (fun _ => True) w w'
/-- What New answers. -/
def NewP (w w' : World) (ts : List Ty) (lo hi : Int) (e : Ending) : Prop :=
  (Tok ts ∧ inO lo hi = true ∧ ∃ a tv h, e = .returned (.tuple #[.pointer (some ⟨a.S, 0, none⟩), .int .i64 0]) ∧ Made w w' a 0 tv h (newS ts lo hi)) ∨ (¬ (Tok ts ∧ inO lo hi = true) ∧ e = .returned (.tuple #[.pointer none, .int .i64 1]) ∧ Kept (fun _ => True) w w')

set_option maxRecDepth 100000 in
set_option maxHeartbeats 8000000 in
theorem newS_any {w : World} {tv : Value} {ts : List Ty} (ht : TysV w tv ts) (hcap : ∀ ao n cap, tv = .slice ao n cap → n ≤ cap) (hz : ∀ t ∈ ts, Tsz t) (lo hi : Int) :
    Calls Tryz.prog 17 #[tv, .int .i64 lo, .int .i64 hi] w fun e w' => NewP w w' ts lo hi e := by
  have HT : Hid (TysV w tv ts) := ht
  have cr := rightTs_any ht hcap hz
  have hmm := @run_makeMap Tryz.prog
  obtain ⟨to', tc, rfl, _, _⟩ := ht.form
  clear ht hcap hz
  have cio := fun W => inOrder_any (w := W) lo hi
  by_cases hT : Tok ts
  · have cr' : Calls Tryz.prog 61 #[.slice to' ts.length tc] w fun e w' => e = .returned (.bool true) ∧ Kept (fun _ => True) w w' := cr.mono fun e w' h => by
      obtain ⟨⟨q, h1, h2⟩, h3⟩ := h
      exact ⟨by rw [h1, h2.2 hT], h3⟩
    have HTok : Hid (Tok ts) := hT
    clear cr hT
    cases hio : inO lo hi with
    | false =>
      rw [hio] at cio
      have HIO : Hid _ := hio
      clear hio
      go_enter Tryz.func17, Tryz.ntmps17
      go_wp2_with (first
        | (go_at_call 61; refine Calls.mono cr' ?_; rintro e w1 ⟨rfl, k1⟩; have HK1 : Hid (Kept (fun _ => True) w w1) := k1; clear cr' k1)
        | (go_at_call 62; refine Calls.mono (cio _) ?_; rintro e _ ⟨rfl, rfl⟩))
      go_ret2
      exact .inr ⟨fun h => (by rw [HIO.out] at h; cases h.2), rfl, HK1.out⟩
    | true =>
      rw [hio] at cio
      have HIO : Hid _ := hio
      clear hio
      go_enter Tryz.func17, Tryz.ntmps17
      go_upto_region 3 with (first
        | (go_at_call 61; refine Calls.mono cr' ?_; rintro e w1 ⟨rfl, k1⟩; have HK1 : Hid (Kept (fun _ => True) w w1) := k1; clear cr' k1)
        | (go_at_call 62; refine Calls.mono (cio _) ?_; rintro e _ ⟨rfl, rfl⟩))
      have ct := copyTypes_any (HT.out.all HK1.out) HTok.out
      clear cio
      go_upto_region 4 with (first
        | (go_at_call 63; refine Calls.mono ct ?_; rintro e w2 ⟨v, rfl, hv2, k2⟩; obtain ⟨vo, vc, rfl, _, _⟩ := hv2.form; have HV2 : Hid (TysV w2 (.slice vo ts.length vc) ts) := hv2; have HK2 : Hid (Kept (fun _ => True) w w2) := HK1.out.trans k2; have HL : Hid (∀ W, Calls Tryz.prog 64 #[] W fun e w' => ∃ T B, e = .returned (.pointer (some ⟨T, 0, none⟩)) ∧ Tb w' T 0 B (fun _ _ => none) ∧ W.heap.size ≤ T ∧ (∀ x k, B x = some k → W.heap.size ≤ k) ∧ Kept (fun _ => True) W w') := fun W => lnew_any; clear ct hv2 k2)
        | (go_at_call 64; refine Calls.mono (HL.out _) ?_; rintro e w4 ⟨T, B, rfl, tb, hT, hB, k4⟩; have HTB : Hid (Tb w4 T 0 B (fun _ _ => none)) := tb; have HLw : Hid (w2.heap.size + 1 + 1 + 1 ≤ T ∧ (∀ x k, B x = some k → w2.heap.size + 1 + 1 + 1 ≤ k)) := ⟨Nat.le_trans (by simp) hT, fun x k e => Nat.le_trans (by simp) (hB x k e)⟩; have HK4 : Hid (Kept (fun _ => True) (((w2.alloc (.map #[] 0)).alloc (.map #[] 0)).alloc (.map #[] 0)) w4) := k4; clear tb hT hB k4))
      have HK5 : Hid (Kept (fun _ => True) w4 (w4.alloc (.cells (((((Tryz.zeroCells117.setIfInBounds 0 (.slice vo ts.length vc)).setIfInBounds 257 (.map (some w2.heap.size))).setIfInBounds 258 (.map (some (w2.heap.size + 1)))).setIfInBounds 259 (.map (some (w2.heap.size + 1 + 1)))).setIfInBounds 260 (.pointer (some ⟨T, 0, none⟩))) 117))) := (Kept.refl _ _).alloc _
      have HAf : Hid (Af (w4.alloc (.cells (((((Tryz.zeroCells117.setIfInBounds 0 (.slice vo ts.length vc)).setIfInBounds 257 (.map (some w2.heap.size))).setIfInBounds 258 (.map (some (w2.heap.size + 1)))).setIfInBounds 259 (.map (some (w2.heap.size + 1 + 1)))).setIfInBounds 260 (.pointer (some ⟨T, 0, none⟩))) 117)) w4.heap.size 117 261 (scell (.slice vo ts.length vc) (fun _ => 0) ⟨w4.heap.size, T, w2.heap.size, w2.heap.size + 1, w2.heap.size + 1 + 1, B⟩)) := by
        unfold Af
        rw [← sh_cells]
        exact heap_alloc_new w4 _
      generalize w4.alloc (.cells (((((Tryz.zeroCells117.setIfInBounds 0 (.slice vo ts.length vc)).setIfInBounds 257 (.map (some w2.heap.size))).setIfInBounds 258 (.map (some (w2.heap.size + 1)))).setIfInBounds 259 (.map (some (w2.heap.size + 1 + 1)))).setIfInBounds 260 (.pointer (some ⟨T, 0, none⟩))) 117) = w5 at *
      have k3a := (Kept.refl (fun _ => True) w2).alloc (.map #[] 0)
      have k3b := (Kept.refl (fun _ => True) (w2.alloc (.map #[] 0))).alloc (.map #[] 0)
      have k3c := (Kept.refl (fun _ => True) ((w2.alloc (.map #[] 0)).alloc (.map #[] 0))).alloc (.map #[] 0)
      have k45 := HK4.out.trans HK5.out
      have hsz1 : (w2.alloc (.map #[] 0)).heap.size = w2.heap.size + 1 := by simp
      have hsz2 : ((w2.alloc (.map #[] 0)).alloc (.map #[] 0)).heap.size = w2.heap.size + 1 + 1 := by simp
      have hC := (Cmap.made w2).all (k3b.trans (k3c.trans k45))
      have hP := (Pmap.made (w2.alloc (.map #[] 0))).plain (k3c.trans k45) trivial (Plainly.all _)
      have hO := (Mp.made codeN ((w2.alloc (.map #[] 0)).alloc (.map #[] 0))).kept k45 trivial
      rw [hsz1] at hP
      rw [hsz2] at hO
      have sm0 : Sm w5 ⟨w4.heap.size, T, w2.heap.size, w2.heap.size + 1, w2.heap.size + 1 + 1, B⟩ 0 (.slice vo ts.length vc) (fun _ _ => none) ⟨ts, fun _ => 0, [], [], [], []⟩ :=
        ⟨HAf.out, HV2.out.all (k3a.trans (k3b.trans (k3c.trans k45))), hC, hP, hO, HTB.out.all HK5.out, nobody_alone, Rep.nil, by dsimp only; omega, by dsimp only; omega, by dsimp only; omega, fun x => ⟨fun e => by have := HLw.out.2 x _ e; dsimp only at this; omega, fun e => by have := HLw.out.2 x _ e; dsimp only at this; omega, fun e => by have := HLw.out.2 x _ e; dsimp only at this; omega⟩⟩
      have hin : 0 ≤ lo ∧ lo ≤ hi ∧ hi ≤ 256 := by
        have := HIO.out
        unfold inO at this
        simp only [Bool.and_eq_true, decide_eq_true_eq] at this
        exact ⟨this.1.1, this.1.2, this.2⟩
      have ctn := turn_any sm0 hin.1 hin.2.1 hin.2.2 1
      have HK5w : Hid (Kept (fun _ => True) w w5) := HK2.out.trans (k3a.trans (k3b.trans (k3c.trans k45)))
      have HS4 : Hid (w2.heap.size + 1 + 1 + 1 ≤ w4.heap.size) := by
        have := HK4.out.size
        rw [show (((w2.alloc (.map #[] 0)).alloc (.map #[] 0)).alloc (.map #[] 0)).heap.size = w2.heap.size + 1 + 1 + 1 by simp] at this
        exact this
      have HW2 : Hid (w.heap.size ≤ w2.heap.size) := HK2.out.size
      clear k3a k3b k3c k45 hsz1 hsz2 hC hP hO sm0 hin
      dsimp only at ctn
      go_wp2_with (go_at_call 65; refine Calls.mono ctn ?_; rintro e w6 ⟨rfl, sm6, fs6⟩; have HM6 : Hid (Sm w6 ⟨w4.heap.size, T, w2.heap.size, w2.heap.size + 1, w2.heap.size + 1 + 1, B⟩ 0 (.slice vo ts.length vc) (fun _ _ => none) (newS ts lo hi)) := sm6; have HF6 : Hid (Fstep ⟨w4.heap.size, T, w2.heap.size, w2.heap.size + 1, w2.heap.size + 1 + 1, B⟩ w5 w6 ⟨w4.heap.size, T, w2.heap.size, w2.heap.size + 1, w2.heap.size + 1 + 1, B⟩) := fs6; clear ctn sm6 fs6)
      go_ret2
      have hmine : ∀ k, (⟨w4.heap.size, T, w2.heap.size, w2.heap.size + 1, w2.heap.size + 1 + 1, B⟩ : Ft).Mine k → w.heap.size ≤ k := fun k hk => by
        have h1 := HS4.out
        have h2 := HW2.out
        have h3 := HLw.out.2
        rcases hk with e | e | e | e | ⟨x, e⟩
        · dsimp only at e; omega
        · dsimp only at e; omega
        · dsimp only at e; omega
        · dsimp only at e; omega
        · have := h3 x k e
          omega
      refine .inl ⟨HTok.out, HIO.out, ⟨w4.heap.size, T, w2.heap.size, w2.heap.size + 1, w2.heap.size + 1 + 1, B⟩, _, _, rfl, HM6.out, hmine, ?_, HK5w.out.then HF6.out.kept (fun i hi _ q => ?_)⟩
      · have := HLw.out.1
        have := HW2.out
        dsimp only
        omega
      · have := hmine i q
        omega
  · have cr' : Calls Tryz.prog 61 #[.slice to' ts.length tc] w fun e w' => e = .returned (.bool false) ∧ Kept (fun _ => True) w w' := cr.mono fun e w' h => by
      obtain ⟨⟨q, h1, h2⟩, h3⟩ := h
      have : q = false := by
        cases q with
        | false => rfl
        | true => exact absurd (h2.1 rfl) hT
      exact ⟨by rw [h1, this], h3⟩
    have HTok : Hid (¬ Tok ts) := hT
    clear cr hT cio
    go_enter Tryz.func17, Tryz.ntmps17
    go_wp2_with (go_at_call 61; refine Calls.mono cr' ?_; rintro e w1 ⟨rfl, k1⟩; have HK1 : Hid (Kept (fun _ => True) w w1) := k1; clear cr' k1)
    go_ret2
    exact .inr ⟨fun h => HTok.out h.1, rfl, HK1.out⟩

end Go.Proofs.YtenejaghgehnoaaGreatDoor

namespace Go.Proofs.YtenejaghgehnoaaGreatDoor
open Go.RowKit

def opWords : List (List UInt8) := [[110, 111, 116], [97, 110, 100], [111, 114], [108, 116], [101, 113], [97, 100, 100], [115, 117, 98]]
set_option maxHeartbeats 1000000 in
theorem takes_any {w : World} (x : List UInt8) :
    Calls Tryz.prog 164 #[.string ⟨x.toArray⟩] w fun e w' => e = .returned (.int .i64 (ar (opOf x) : Nat)) ∧ w' = w := by
  by_cases hx : x ∈ opWords
  · simp only [opWords, List.mem_cons, List.not_mem_nil, or_false] at hx
    rcases hx with rfl | rfl | rfl | rfl | rfl | rfl | rfl
    all_goals
      go_enter Tryz.func164, Tryz.ntmps164
      go_wp2
      go_ret
      exact ⟨rfl, rfl⟩
  · have e : opOf x = 0 := by
      simp only [opWords, List.mem_cons, List.not_mem_nil, or_false, not_or] at hx
      simp [opOf, hx]
    rw [e]
    simp only [opWords, List.mem_cons, List.not_mem_nil, or_false, not_or] at hx
    obtain ⟨n1, n2, n3, n4, n5, n6, n7⟩ := hx
    replace n1 := beq_eq_false_iff_ne.2 n1
    replace n2 := beq_eq_false_iff_ne.2 n2
    replace n3 := beq_eq_false_iff_ne.2 n3
    replace n4 := beq_eq_false_iff_ne.2 n4
    replace n5 := beq_eq_false_iff_ne.2 n5
    replace n6 := beq_eq_false_iff_ne.2 n6
    replace n7 := beq_eq_false_iff_ne.2 n7
    clear e
    go_enter Tryz.func164, Tryz.ntmps164
    go_wp2
    go_ret
    exact ⟨rfl, rfl⟩

set_option maxRecDepth 100000 in
set_option maxHeartbeats 1000000 in
theorem rindex_any {w : World} {v : Value} {ns : List (List UInt8)} (h : Ns w v ns) (x : List UInt8) :
    Calls Tryz.prog 167 #[v, .string ⟨x.toArray⟩] w fun e w' => e = .returned (.int .i64 (ix ns x)) ∧ w' = w := by
  obtain ⟨ao, cap, rfl, hl, h⟩ := h
  have H : Hid (0 < ns.length → ∃ b off, ao = some ⟨b, off, none⟩ ∧ b < w.heap.size ∧ ∀ i (h : i < ns.length), w.cell? ⟨b, off + i, none⟩ = some (.string ⟨(ns[i]).toArray⟩)) := h
  clear h
  obtain ⟨Z, hZ⟩ : ∃ Z, Z = ix ns x := ⟨_, rfl⟩
  have HZ : Hid (Z = ix ns x) := hZ
  rw [← hZ]
  clear hZ
  go_enter Tryz.func167, Tryz.ntmps167
  go_wp2_with fail
  go_loop [5] (fun t => ∃ k : Nat, k ≤ ns.length ∧ t = .int .i64 k ∧ ∀ y ∈ ns.take k, y ≠ x) (fun t => ns.length - (intOf t).toNat)
  case atStart => exact ⟨0, Nat.zero_le _, rfl, by simp⟩
  case round =>
    obtain ⟨k, hk, rfl, hn⟩ := hrel
    have HN : Hid (∀ y ∈ ns.take k, y ≠ x) := hn
    clear hn
    by_cases hlt : k < ns.length
    · obtain ⟨b, off, rfl, hb, hc⟩ := H.out (by omega)
      have q1 := hc k hlt
      have HS : Hid (ns.take (k + 1) = ns.take k ++ [ns[k]]) := List.take_succ_eq_append_getElem hlt
      have HP : Hid (ns[k] = x → ix ns x = k) := fun he => by
        obtain ⟨h1, h2⟩ := idx_of ns x k hlt he HN.out
        rw [ix, if_pos h1, h2]
      have i1 : (k : Int) < (ns.length : Int) := by omega
      have i0 : (0 : Int) ≤ (k : Int) := by omega
      clear hc hb
      generalize ns[k] = y at *
      by_cases he : y = x
      · subst he
        have e1 : Hid (Z = k) := HZ.out.trans (HP.out rfl)
        go_wp2_with fail
        go_ret
        exact ⟨by rw [e1.out]; rfl, rfl⟩
      · have hne : (y == x) = false := beq_eq_false_iff_ne.2 he
        have HE : Hid (y ≠ x) := he
        clear he
        go_wp2_with fail
        go_round
        case rel =>
          refine ⟨k + 1, by omega, by go_num, fun z hz => ?_⟩
          rw [HS.out] at hz
          rcases List.mem_append.1 hz with hz | hz
          · exact HN.out z hz
          · rw [List.mem_singleton.1 hz]; exact HE.out
        case measure => simp [intOf]; omega
    · have i1 : ¬ ((k : Int) < (ns.length : Int)) := by omega
      have e1 : ix ns x = -1 := by
        rw [ix, if_neg]
        intro hx
        refine HN.out x ?_ rfl
        rw [List.take_of_length_le (by omega)]
        exact hx
      replace e1 : Hid (Z = -1) := HZ.out.trans e1
      go_wp2_with fail
      go_ret
      exact ⟨by rw [e1.out]; rfl, rfl⟩

theorem take_all {l : List UInt8} {f : UInt8 → Bool} {i : Nat} (hi : i < l.length) (h : (l.take i).all f = true) (hf : f l[i] = true) : (l.take (i + 1)).all f = true := by
  rw [List.take_succ_eq_append_getElem hi, List.all_append, h]
  simp [hf]
theorem not_all_at {l : List UInt8} {f : UInt8 → Bool} {i : Nat} (hi : i < l.length) (hf : f l[i] = false) : l.all f = false := by
  rw [← Bool.not_eq_true, List.all_eq_true]
  intro h
  rw [h l[i] (List.getElem_mem hi)] at hf
  cases hf

set_option maxRecDepth 100000 in
set_option maxHeartbeats 1000000 in
theorem rname_any {w : World} (x : List UInt8) (hxl : x.length ≤ 281474976710656) :
    Calls Tryz.prog 125 #[.string ⟨x.toArray⟩] w fun e w' => e = .returned (.bool (isName x)) ∧ w' = w := by
  have ct := fun W => takes_any (w := W) x
  obtain ⟨C, hC⟩ : ∃ C, C = isName x := ⟨_, rfl⟩
  have HC : Hid (C = isName x) := hC
  rw [← hC]
  clear hC
  go_enter Tryz.func125, Tryz.ntmps125
  go_wp2_with fail
  go_loop [3] (fun t => ∃ k : Nat, k ≤ x.length ∧ t = .int .i64 k ∧ (x.take k).all isL = true) (fun t => x.length - (intOf t).toNat)
  case atStart => exact ⟨0, Nat.zero_le _, rfl, by simp⟩
  case round =>
    obtain ⟨k, hk, rfl, ha⟩ := hrel
    have HA : Hid ((x.take k).all isL = true) := ha
    clear ha
    by_cases hlt : k < x.length
    · have hx := at_text x k hlt (by simpa [ByteArray.size] using hlt)
      have i1 : (k : Int) < (x.length : Int) := by omega
      have i0 : (0 : Int) ≤ (k : Int) := by omega
      have HT : Hid (isL x[k] = true → (x.take (k + 1)).all isL = true) := fun h => take_all hlt HA.out h
      have HF : Hid (isL x[k] = false → isName x = false) := fun h => by simp [isName, not_all_at hlt h]
      generalize x[k] = c at *
      by_cases d1 : c.toNat < 97
      · have d1' : (c.toNat : Int) < 97 := by omega
        have e1 : Hid (C = false) := HC.out.trans (HF.out (by simp [isL]; omega))
        go_wp2_with fail
        go_ret
        exact ⟨by rw [e1.out]; rfl, rfl⟩
      · have d1' : ¬ (c.toNat : Int) < 97 := by omega
        by_cases d2 : 122 < c.toNat
        · have d2' : (122 : Int) < (c.toNat : Int) := by omega
          have e1 : Hid (C = false) := HC.out.trans (HF.out (by simp [isL]; omega))
          go_wp2_with fail
          go_ret
          exact ⟨by rw [e1.out]; rfl, rfl⟩
        · have d2' : ¬ (122 : Int) < (c.toNat : Int) := by omega
          have HL : Hid (isL c = true) := by show _ = _; simp [isL]; omega
          go_wp2_with fail
          go_round
          case rel => exact ⟨k + 1, by omega, by go_num, HT.out HL.out⟩
          case measure => simp [intOf]; omega
    · have i1 : ¬ (k : Int) < (x.length : Int) := by omega
      have hall : x.all isL = true := by have := HA.out; rwa [List.take_of_length_le (by omega)] at this
      have hop := opOf_cases x
      by_cases h0 : opOf x = 0
      · rw [h0] at ct
        by_cases hT : isT x = true
        · have e1 : Hid (C = false) := by show C = false; rw [HC.out]; simp [isName, hT]
          simp only [isT, Bool.or_eq_true, decide_eq_true_eq] at hT
          clear hop hall
          rcases hT with ((rfl | rfl) | rfl) | rfl
          all_goals
            go_wp2_with fail
            refine Calls.mono (ct _) ?_
            rintro e w1 ⟨rfl, rfl⟩
            go_wp2_with fail
            go_ret
            exact ⟨by rw [e1.out]; rfl, rfl⟩
        · have e1 : Hid (C = (decide (1 ≤ x.length) && decide (x.length ≤ 12))) := by show C = _; rw [HC.out]; simp [isName, hT, hall, h0]
          simp only [isT, Bool.or_eq_true, decide_eq_true_eq, not_or] at hT
          obtain ⟨⟨⟨t1, t2⟩, t3⟩, t4⟩ := hT
          replace t1 := beq_eq_false_iff_ne.2 t1
          replace t2 := beq_eq_false_iff_ne.2 t2
          replace t3 := beq_eq_false_iff_ne.2 t3
          replace t4 := beq_eq_false_iff_ne.2 t4
          clear hop hall h0
          by_cases l1 : 1 ≤ x.length
          · have l1' : (1 : Int) ≤ (x.length : Int) := by omega
            by_cases l2 : x.length ≤ 12
            · have l2' : (x.length : Int) ≤ 12 := by omega
              go_wp2_with fail
              refine Calls.mono (ct _) ?_
              rintro e w1 ⟨rfl, rfl⟩
              go_wp2_with fail
              go_ret
              exact ⟨by rw [e1.out]; simp [l1, l2], rfl⟩
            · have l2' : ¬ (x.length : Int) ≤ 12 := by omega
              go_wp2_with fail
              refine Calls.mono (ct _) ?_
              rintro e w1 ⟨rfl, rfl⟩
              go_wp2_with fail
              go_ret
              exact ⟨by rw [e1.out]; simp [l2]; omega, rfl⟩
          · have l1' : ¬ (1 : Int) ≤ (x.length : Int) := by omega
            go_wp2_with fail
            refine Calls.mono (ct _) ?_
            rintro e w1 ⟨rfl, rfl⟩
            go_wp2_with fail
            go_ret
            exact ⟨by rw [e1.out]; simp [l1], rfl⟩
      · have e1 : Hid (C = false) := by show C = false; rw [HC.out]; simp [isName, h0]
        have har : 0 < ar (opOf x) := by unfold ar; split <;> (try split) <;> omega
        clear hall hop h0
        generalize ar (opOf x) = r at *
        have har' : (0 : Int) < (r : Int) := by omega
        go_wp2_with fail
        refine Calls.mono (ct _) ?_
        rintro e w1 ⟨rfl, rfl⟩
        go_wp2_with fail
        go_ret
        exact ⟨by rw [e1.out]; rfl, rfl⟩

theorem mag_drop (x : List UInt8) (h : 0 < x.length) : mag x = if x[0] = 45 then x.drop 1 else x := by
  cases x with
  | nil => simp at h
  | cons c r =>
    unfold mag
    by_cases h : c = 45 <;> simp [h]
theorem num_drop (x : List UInt8) (h : 0 < x.length) : num x = if x[0] = 45 then -(digs (mag x) : Int) else (digs (mag x) : Int) := by
  cases x with
  | nil => simp at h
  | cons c r =>
    unfold num
    by_cases h : c = 45 <;> simp [h]

set_option maxRecDepth 100000 in
set_option maxHeartbeats 2000000 in
theorem rnumq_any {w : World} (x : List UInt8) (hxl : x.length ≤ 281474976710656) :
    Calls Tryz.prog 166 #[.string ⟨x.toArray⟩] w fun e w' => e = .returned (.tuple #[.int .i64 (if isNum x = true then num x else 0), .bool (isNum x)]) ∧ w' = w := by
  obtain ⟨C, hC⟩ : ∃ C, C = isNum x := ⟨_, rfl⟩
  obtain ⟨Z, hZ⟩ : ∃ Z, Z = if isNum x = true then num x else 0 := ⟨_, rfl⟩
  have HC : Hid (C = isNum x) := hC
  have HZ : Hid (Z = if isNum x = true then num x else 0) := hZ
  rw [← hZ, ← hC]
  clear hZ hC
  have HNO : Hid (isNum x = false → C = false ∧ Z = 0) := fun h => ⟨HC.out.trans h, by rw [HZ.out, h]; rfl⟩
  by_cases h0 : x = []
  · subst h0
    have e1 : Hid (C = false ∧ Z = 0) := HNO.out rfl
    go_enter Tryz.func166, Tryz.ntmps166
    go_wp2_with fail
    go_ret2
    exact ⟨by rw [e1.out.1, e1.out.2]; rfl, rfl⟩
  · have hpos : 0 < x.length := List.length_pos_iff.2 h0
    have hx := at_text x 0 hpos (by simpa [ByteArray.size] using hpos)
    have hne : (x == ([] : List UInt8)) = false := beq_eq_false_iff_ne.2 h0
    have HM : Hid (mag x = if x[0] = 45 then x.drop 1 else x) := mag_drop x hpos
    have hcut : ∀ w0, (Instr.slice 9 (.string ⟨x.toArray⟩) (some (.int .i64 1)) none none).run Tryz.prog w0 = .ok (.string ⟨(x.drop 1).toArray⟩) w0 := by
      intro w0
      rw [run_slice_string_from_if (P := Tryz.prog) w0 9 ⟨x.toArray⟩ .i64 1 Tryz.underlying9, if_pos ⟨by omega, by simp [ByteArray.size]; omega⟩]
      congr 2
      apply ByteArray.ext
      have hz : (⟨x.toArray⟩ : ByteArray).size = x.length := by simp [ByteArray.size]
      simp [hz, List.take_of_length_le]
    have hml : (mag x).length ≤ 281474976710656 := by rw [HM.out]; split <;> (try rw [List.length_drop]) <;> omega
    have HNM : Hid (isNum x = ((mag x).all isD && decide (1 ≤ (mag x).length) && decide ((mag x).length ≤ 4))) := by show _ = _; rfl
    have HNU : Hid (num x = if x[0] = 45 then -(digs (mag x) : Int) else (digs (mag x) : Int)) := num_drop x hpos
    have hx0 : (0 : Int) < (x.length : Int) := by omega
    clear h0 hxl
    generalize mag x = m at *
    generalize x.drop 1 = xd at *
    generalize x[0] = c at *
    obtain ⟨mn, hmn⟩ : ∃ mn : Bool, mn = ((c.toNat : Int) == 45) := ⟨_, rfl⟩
    have HMN : Hid (mn = true ↔ c = 45) := by
      show _ ↔ _
      rw [hmn]
      constructor
      · intro h
        have : (c.toNat : Int) = 45 := by simpa using h
        exact UInt8.toNat_inj.1 (by simpa using (by omega : c.toNat = 45))
      · rintro rfl
        rfl
    replace hmn := hmn.symm
    go_enter Tryz.func166, Tryz.ntmps166
    go_upto_if 14 with fail
    go_cut [0] from 15 to 16 (fun t0 wx => t0 = .string ⟨m.toArray⟩ ∧ w = wx)
    case first =>
      cases mn with
      | true =>
        have e1 : Hid (m = xd) := by show _ = _; rw [HM.out, if_pos (HMN.out.1 rfl)]
        go_wp2_with fail
        go_meet
        exact ⟨by rw [e1.out], rfl⟩
      | false =>
        have e1 : Hid (m = x) := by show _ = _; rw [HM.out, if_neg (fun h => by have := HMN.out.2 h; cases this)]
        go_wp2_with fail
        go_meet
        exact ⟨by rw [e1.out], rfl⟩
    case rest =>
    obtain ⟨rfl, rfl⟩ := hcut
    clear hx hne hx0 hpos
    have HFS : Hid (1 ≤ m.length → m.length ≤ 4 → m.all isD = true → C = true ∧ Z = if mn = true then -(digs m : Int) else (digs m : Int)) := by
      intro h1 h4 ha
      have hn : isNum x = true := by rw [HNM.out]; simp [h1, h4, ha]
      refine ⟨HC.out.trans hn, ?_⟩
      rw [HZ.out, if_pos hn, HNU.out]
      by_cases hc : c = 45
      · rw [if_pos hc, if_pos (HMN.out.2 hc)]
      · rw [if_neg hc, if_neg (fun h => hc (HMN.out.1 h))]
    have HNF : Hid ((¬ 1 ≤ m.length) ∨ (¬ m.length ≤ 4) ∨ m.all isD = false → C = false ∧ Z = 0) := by
      intro h
      refine HNO.out ?_
      rw [HNM.out]
      rcases h with h | h | h <;> simp [h]
    by_cases l1 : 1 ≤ m.length
    · have l1' : ¬ (m.length : Int) < 1 := by omega
      by_cases l4 : m.length ≤ 4
      · have l4' : ¬ (4 : Int) < (m.length : Int) := by omega
        go_wp2_with fail
        go_loop [5, 6] (fun t5 t6 => ∃ i : Nat, i ≤ m.length ∧ t6 = .int .i64 (i : Nat) ∧ t5 = .int .i64 (digs (m.take i) : Nat) ∧ (m.take i).all isD = true) (fun _ t6 => m.length - (intOf t6).toNat)
        case atStart => exact ⟨0, Nat.zero_le _, rfl, rfl, by simp⟩
        case round =>
          obtain ⟨i, hi, rfl, rfl, ha⟩ := hrel
          have HA : Hid ((m.take i).all isD = true) := ha
          have hb : digs (m.take i) < 10000 := by
            have := digs_lt _ ha
            refine Nat.lt_of_lt_of_le this (Nat.pow_le_pow_right (n := 10) (by decide) (show (m.take i).length ≤ 4 by rw [List.length_take]; omega))
          clear ha
          by_cases hlt : i < m.length
          · have hx := at_text m i hlt (by simpa [ByteArray.size] using hlt)
            have i1 : (i : Int) < (m.length : Int) := by omega
            have i0 : (0 : Int) ≤ (i : Int) := by omega
            have HT : Hid (isD m[i] = true → (m.take (i + 1)).all isD = true) := fun h => take_all hlt HA.out h
            have HD : Hid (digs (m.take (i + 1)) = 10 * digs (m.take i) + (m[i].toNat - 48)) := by
              show _ = _
              rw [List.take_succ_eq_append_getElem hlt, digs_snoc]
            have HF : Hid (isD m[i] = false → C = false ∧ Z = 0) := fun h => HNF.out (.inr (.inr (not_all_at hlt h)))
            generalize m[i] = ch at *
            generalize digs (m.take i) = N at *
            by_cases d1 : ch.toNat < 48
            · have d1' : (ch.toNat : Int) < 48 := by omega
              have e1 : Hid (C = false ∧ Z = 0) := HF.out (by simp [isD]; omega)
              go_wp2_with fail
              go_ret2
              exact ⟨by rw [e1.out.1, e1.out.2]; rfl, rfl⟩
            · have d1' : ¬ (ch.toNat : Int) < 48 := by omega
              by_cases d2 : 57 < ch.toNat
              · have d2' : (57 : Int) < (ch.toNat : Int) := by omega
                have e1 : Hid (C = false ∧ Z = 0) := HF.out (by simp [isD]; omega)
                go_wp2_with fail
                go_ret2
                exact ⟨by rw [e1.out.1, e1.out.2]; rfl, rfl⟩
              · have d2' : ¬ (57 : Int) < (ch.toNat : Int) := by omega
                have HL : Hid (isD ch = true) := by show _ = _; simp [isD]; omega
                go_wp2_with fail
                go_round
                case rel => exact ⟨i + 1, by omega, by go_num, by rw [HD.out]; go_num, HT.out HL.out⟩
                case measure => simp [intOf]; omega
          · have i1 : ¬ (i : Int) < (m.length : Int) := by omega
            have et : m.take i = m := List.take_of_length_le (by omega)
            have e1 : Hid (C = true ∧ Z = if mn = true then -(digs m : Int) else (digs m : Int)) := HFS.out l1 l4 (by have := HA.out; rwa [et] at this)
            rw [et] at hb ⊢
            clear et HA
            generalize digs m = N at *
            cases mn with
            | true =>
              go_wp2_with fail
              go_ret2
              exact ⟨by rw [e1.out.1, e1.out.2]; rfl, rfl⟩
            | false =>
              go_wp2_with fail
              go_ret2
              exact ⟨by rw [e1.out.1, e1.out.2]; rfl, rfl⟩
      · have l4' : (4 : Int) < (m.length : Int) := by omega
        have e1 : Hid (C = false ∧ Z = 0) := HNF.out (.inr (.inl l4))
        go_wp2_with fail
        go_ret2
        exact ⟨by rw [e1.out.1, e1.out.2]; rfl, rfl⟩
    · have l1' : (m.length : Int) < 1 := by omega
      have e1 : Hid (C = false ∧ Z = 0) := HNF.out (.inl l1)
      go_wp2_with fail
      go_ret2
      exact ⟨by rw [e1.out.1, e1.out.2]; rfl, rfl⟩

end Go.Proofs.YtenejaghgehnoaaGreatDoor

namespace Go.Proofs.YtenejaghgehnoaaGreatDoor
open Go.RowKit

/-- The two cells of a word. -/
def wlay (x : Nat × List UInt8) : List Value := [.int .i64 (x.1 : Nat), .string ⟨x.2.toArray⟩]
def wrow (xs : List (Nat × List UInt8)) : List Value := xs.flatMap wlay
theorem wrow_cons (x : Nat × List UInt8) (xs : List (Nat × List UInt8)) : wrow (x :: xs) = wlay x ++ wrow xs := rfl
theorem wrow_length (xs : List (Nat × List UInt8)) : (wrow xs).length = xs.length * 2 := by
  induction xs with
  | nil => rfl
  | cons x xs ih => rw [wrow_cons]; simp [ih, wlay]; omega
theorem wrow_append (xs ys : List (Nat × List UInt8)) : wrow (xs ++ ys) = wrow xs ++ wrow ys := by simp [wrow]
theorem wrow_get : ∀ (xs : List (Nat × List UInt8)) (k : Nat) (h : k < xs.length) (j : Nat), j < 2 → (wrow xs)[k * 2 + j]? = (wlay xs[k])[j]?
  | x :: xs, 0, _, j, hj => by
    rw [wrow_cons, Nat.zero_mul, Nat.zero_add, List.getElem?_append_left (by simpa [wlay] using hj)]
    rfl
  | x :: xs, k + 1, h, j, hj => by
    have := wrow_get xs k (by simpa using h) j hj
    rw [wrow_cons, show (k + 1) * 2 + j = 2 + (k * 2 + j) by omega, List.getElem?_append_right (by simp [wlay]), show (wlay x).length = 2 from rfl, Nat.add_sub_cancel_left, this]
    rfl
theorem wrow_one (xs : List (Nat × List UInt8)) : ∀ u ∈ wrow xs, u.oneCell' = true := by
  intro u hu
  obtain ⟨x, _, hm⟩ := List.mem_flatMap.1 hu
  simp [wlay] at hm
  rcases hm with rfl | rfl <;> rfl
theorem Tryz.infoRW : (Tryz.prog.info? 230).map (fun i => (i.zero, i.size, i.bytes)) = some (some (.agg #[.int .i64 0, .string .empty]), 2, 24) := by kernel_rfl
theorem cells_rw : (Value.agg #[.int .i64 0, .string .empty]).cells.size = 2 := by simp [Value.cells]

/-- A slice of words, in a row of its own behind 'base'. -/
def Wrq (w : World) (base : Nat) (v : Value) (ws : List (Nat × List UInt8)) : Prop := w.ownsRow base 230 2 v ws.length (wrow ws)
theorem Wrq.nil (w : World) (base : Nat) : Wrq w base (.slice none 0 0) [] := World.ownsRow_nil _ _ _ _
theorem Wrq.kept {p : Nat → Prop} {w w' : World} {base : Nat} {v : Value} {ws : List (Nat × List UInt8)} (h : Wrq w base v ws) (hk : Kept p w w') (hp : ∀ k, v.ownBlock = some k → p k) : Wrq w' base v ws := by
  refine ⟨h.1, ?_⟩
  rcases h.2 with h0 | ⟨g, cap, cur, rfl, hb, hh, rest⟩
  · exact .inl h0
  · exact .inr ⟨g, cap, cur, rfl, hb, (hk.block g (lt_of_block hh) (hp g rfl)).trans hh, rest⟩
theorem Wrq.shape {w : World} {base : Nat} {v : Value} {ws : List (Nat × List UInt8)} (h : Wrq w base v ws) : ∃ ao cap, v = .slice ao ws.length cap ∧ ws.length ≤ cap ∧ (0 < ws.length → ∃ g, ao = some ⟨g, 0, none⟩) := by
  rcases h.2 with ⟨hv, h0⟩ | ⟨g, cap, cur, hv, _, hh, hc, _⟩
  · exact ⟨none, 0, by rw [hv, h0], by omega, fun hp => by omega⟩
  · exact ⟨_, cap, hv, hc, fun _ => ⟨g, rfl⟩⟩
theorem append_word (w : World) (ty : TypeId) (base : Nat) (v : Value) (ws : List (Nat × List UInt8)) (h : Wrq w base v ws) (hb : base ≤ w.heap.size) (G : Nat) (x : Nat × List UInt8) (fr : Nat × Nat) (hG : w.heap[G]? = some (.cells (wlay x).toArray 230 fr)) (hm : ws.length ≤ 1000000) :
    ∃ ao' cap' w', (Builtin.append_ #[227, 227] ty #[v, .slice (some ⟨G, 0, none⟩) 1 1]).run Tryz.prog w = .ok (.slice ao' (ws.length + 1) cap') w' ∧ Wrq w' base (.slice ao' (ws.length + 1) cap') (ws ++ [x]) ∧ w.grownBy w' v.ownBlock := by
  obtain ⟨i, hi, hz0, hz1, hz2⟩ := info_parts Tryz.infoRW
  have hG' : w.heap[G]? = some (.cells (wrow [x]).toArray 230 fr) := by rw [hG]; simp [wrow]
  obtain ⟨v', w', hr, h2, h3, _, h5⟩ := run_append_own_at (P := Tryz.prog) w base 227 ty 230 i (.agg #[.int .i64 0, .string .empty]) 2 24 Tryz.underlying227 hi hz0 hz1 hz2 cells_rw (by decide) v ws.length (wrow ws) h ⟨G, 0, none⟩ 1 1 (wrow [x]) (by rw [wrow_length]; rfl) (World.news_of_block (w := w) hG') (wrow_one [x]) (by unfold maxLen; omega) (by omega) hb
  obtain ⟨ao', cap', rfl⟩ := own_shape_any h2
  refine ⟨ao', cap', w', hr, ?_, h3⟩
  unfold Wrq
  rw [wrow_append, List.length_append]
  exact h2
theorem wpList_append_word {w : World} {ops : Array Oper} {rest : List Oper} {o : Oper} {a : Act} {Q : Exit → Act → World → Prop} (hgd : o.guard = none) (sl y : Operand) (ho : o.op = .call { callee := .builtin .append, args := #[sl, y], argTypes := #[227, 227] })
    (base : Nat) (v : Value) (ws : List (Nat × List UInt8)) (hs : a.eval sl = v) (h : Wrq w base v ws) (hb : base ≤ w.heap.size) (G : Nat) (hy : a.eval y = .slice (some ⟨G, 0, none⟩) 1 1) (x : Nat × List UInt8) (fr : Nat × Nat) (hG : w.heap[G]? = some (.cells (wlay x).toArray 230 fr)) (hm : ws.length ≤ 1000000)
    (hK : ∀ ao' cap' w', Wrq w' base (.slice ao' (ws.length + 1) cap') (ws ++ [x]) → w.grownBy w' v.ownBlock → wpList Tryz.prog ops Q rest (a.put o.dst (.slice ao' (ws.length + 1) cap')) w') : wpList Tryz.prog ops Q (o :: rest) a w := by
  refine wpList_plain hgd fun K hK' => ?_
  obtain ⟨ao', cap', w', hr, h2, h3⟩ := append_word w o.type base v ws h hb G x fr hG hm
  unfold Oper.wp execOp
  simp only [ho, resolve, invoke, builtin, Sem.run_bind, Sem.run_pure, Result.andThen_ok, List.map_toArray, List.map_cons, List.map_nil, hs, hy, hr]
  exact hK' _ _ (hK ao' cap' w' h2 h3)
theorem Wrq.grown {w0 w w' : World} {o : Obj} {v : Value} {ws : List (Nat × List UInt8)} (h : Wrq w w0.heap.size v ws) (k : Kept (fun _ => True) w0 w) (g : (w.alloc o).grownBy w' v.ownBlock) : Kept (fun _ => True) w0 w' :=
  (k.alloc o).grown g (fun i hi e => by have := (World.ownsRow.lt h i e).1; omega)
/-- Words that are looked at, from anywhere on. -/
def Wv (w : World) (v : Value) (ws : List (Nat × List UInt8)) : Prop :=
  ∃ ao cap, v = .slice ao ws.length cap ∧ ws.length ≤ cap ∧ (0 < ws.length → ∃ b off, ao = some ⟨b, off, none⟩ ∧ b < w.heap.size ∧ ∀ i (h : i < ws.length), w.cell? ⟨b, off + i * 2, none⟩ = some (.int .i64 ((ws[i]).1 : Nat)) ∧ w.cell? ⟨b, off + i * 2 + 1, none⟩ = some (.string ⟨((ws[i]).2).toArray⟩))
theorem Wv.all {w w' : World} {v : Value} {ws : List (Nat × List UInt8)} (h : Wv w v ws) (k : Kept (fun _ => True) w w') : Wv w' v ws := by
  obtain ⟨ao, cap, e, hc, h⟩ := h
  refine ⟨ao, cap, e, hc, fun h0 => ?_⟩
  obtain ⟨b, off, e, hb, hx⟩ := h h0
  exact ⟨b, off, e, Nat.lt_of_lt_of_le hb k.size, fun i hi => ⟨(kept_cell k hb trivial).trans (hx i hi).1, (kept_cell k hb trivial).trans (hx i hi).2⟩⟩
theorem Wrq.view {w : World} {base : Nat} {v : Value} {ws : List (Nat × List UInt8)} (h : Wrq w base v ws) : Wv w v ws := by
  have h' : w.ownsRow base 230 2 v ws.length (wrow ws) := h
  rcases h.2 with ⟨hv, h0⟩ | ⟨g, cap, cur, rfl, _, hh, hc, _⟩
  · exact ⟨none, 0, by rw [hv, h0], by omega, fun hp => by omega⟩
  · refine ⟨_, cap, rfl, hc, fun _ => ⟨g, 0, rfl, lt_of_block hh, fun i hi => ⟨?_, ?_⟩⟩⟩
    · rw [Nat.zero_add]
      exact (h'.cellAt (i * 2) (by omega)).trans (wrow_get ws i hi 0 (by omega))
    · rw [Nat.zero_add]
      exact (h'.cellAt (i * 2 + 1) (by omega)).trans (wrow_get ws i hi 1 (by omega))

set_option maxRecDepth 100000 in
set_option maxHeartbeats 2000000 in
theorem words_any {w : World} (s : List UInt8) (hs : s.length ≤ 10000) :
    Calls Tryz.prog 165 #[.string ⟨s.toArray⟩, .int .i64 0] w fun e w' => (∃ v, e = .returned v ∧ Wrq w' w.heap.size v (Wo s 0)) ∧ Kept (fun _ => True) w w' := by
  have HS : Hid (s.length ≤ 10000) := hs
  go_enter Tryz.func165, Tryz.ntmps165
  go_wp2_with fail
  go_loopw [5, 6, 7] (fun t5 t6 _ wr => ∃ (i : Nat) (dn : List (Nat × List UInt8)), i ≤ s.length ∧ t6 = .int .i64 (i : Nat) ∧ dn ++ Wo s i = Wo s 0 ∧ dn.length ≤ i ∧ Wrq wr w.heap.size t5 dn ∧ Kept (fun _ => True) w wr) (fun _ t6 _ _ => s.length - (intOf t6).toNat)
  case atStart => exact ⟨0, [], Nat.zero_le _, rfl, rfl, Nat.le_refl _, Wrq.nil _ _, Kept.refl _ _⟩
  case round =>
    obtain ⟨i, dn, hi, rfl, hd, hdl, hw, hk⟩ := hrel
    have HD : Hid (dn ++ Wo s i = Wo s 0) := hd
    have HK : Hid (Kept (fun _ => True) w wr) := hk
    obtain ⟨ao, cap, rfl, -, -⟩ := hw.shape
    have HW : Hid (Wrq wr w.heap.size (.slice ao dn.length cap) dn) := hw
    clear hd hw hk
    by_cases hlt : i < s.length
    · have hx := at_text s i hlt (by simpa [ByteArray.size] using hlt)
      have i1 : (i : Int) < (s.length : Int) := by omega
      have i0 : (0 : Int) ≤ (i : Int) := by omega
      by_cases hc : s[i] = 32
      · have HB : Hid (Wo s i = Wo s (i + 1)) := Wo_blank hlt hc
        rw [hc] at hx
        clear hc
        go_wp2_with fail
        go_roundw
        case rel => exact ⟨i + 1, dn, by omega, by go_num, by rw [← HB.out]; exact HD.out, by omega, HW.out, HK.out⟩
        case measure => simp [intOf]; omega
      · obtain ⟨e, hE⟩ := At1.mk' (Nat.le_refl i) hlt hc rfl
        have HE : Hid (At1 s i i e) := hE
        have hie := hE.some
        have hel := hE.within
        have hc' : ((s[i].toNat : Int) == 32) = false := by simp only [beq_eq_false_iff_ne, ne_eq]; intro q; exact hc (UInt8.toNat_inj.1 (by simpa using (by omega : s[i].toNat = 32)))
        clear hc hE
        generalize s[i] = ch at *
        go_wp2_with fail
        go_loop [7] (fun t7 => ∃ k : Nat, i ≤ k ∧ k ≤ e ∧ t7 = .int .i64 (k : Nat)) (fun t7 => e - (intOf t7).toNat)
        case atStart => exact ⟨i, Nat.le_refl _, by omega, rfl⟩
        case round =>
          obtain ⟨k, hk1, hk2, rfl⟩ := hrel
          rcases HE.out.out hk1 hk2 with ⟨hl, h5, h6⟩ | ⟨h5, h6⟩ | ⟨h5, hl, h6⟩
          · have hy := at_text s k hl (by simpa [ByteArray.size] using hl)
            have j1 : (k : Int) < (s.length : Int) := by omega
            have j0 : (0 : Int) ≤ (k : Int) := by omega
            have h6' : ((s[k].toNat : Int) == 32) = false := by simp only [beq_eq_false_iff_ne, ne_eq]; intro q; exact h6 (UInt8.toNat_inj.1 (by simpa using (by omega : s[k].toNat = 32)))
            clear h6
            generalize s[k] = ck at *
            go_wp2_with fail
            go_round
            case rel => exact ⟨k + 1, by omega, by omega, by go_num⟩
            case measure => simp [intOf]; omega
          · have j1 : ¬ (k : Int) < (s.length : Int) := by omega
            clear h6
            have HKE : Hid (k = e) := h5
            have hcut := cut_text s i k hk1 (by omega)
            have HTX : Hid (dn ++ [(i, tex s i k)] ++ Wo s k = Wo s 0) := by
              show _ = _
              rw [← HD.out, HE.out.words, HKE.out]
              simp
            generalize tex s i k = x at *
            clear h5
            go_wp2_with (at_builtin; refine wpList_append_word rfl (.tmp 31) (.tmp 40) rfl w.heap.size (.slice ao dn.length cap) dn rfl (HW.out.kept (p := fun _ => True) ((Kept.refl _ _).alloc _) (fun _ _ => trivial)) (Nat.le_trans HK.out.size (by simp)) wr.heap.size rfl (i, x) (0, 0) (heap_alloc_new _ _) (by omega) ?_; intro ao2 cap2 w2 t2 g2)
            go_roundw
            case rel => exact ⟨k, dn ++ [(i, x)], by omega, rfl, HTX.out, by have := HKE.out; simp; omega, by simpa using t2, HW.out.grown HK.out g2⟩
            case measure => have := HKE.out; simp [intOf]; omega
          · have j1 : (k : Int) < (s.length : Int) := by omega
            have j0 : (0 : Int) ≤ (k : Int) := by omega
            have hy := at_text s k hl (by simpa [ByteArray.size] using hl)
            rw [h6] at hy
            clear h6
            have HKE : Hid (k = e) := h5
            have hcut := cut_text s i k hk1 (by omega)
            have HTX : Hid (dn ++ [(i, tex s i k)] ++ Wo s k = Wo s 0) := by
              show _ = _
              rw [← HD.out, HE.out.words, HKE.out]
              simp
            generalize tex s i k = x at *
            clear h5
            go_wp2_with (at_builtin; refine wpList_append_word rfl (.tmp 31) (.tmp 40) rfl w.heap.size (.slice ao dn.length cap) dn rfl (HW.out.kept (p := fun _ => True) ((Kept.refl _ _).alloc _) (fun _ _ => trivial)) (Nat.le_trans HK.out.size (by simp)) wr.heap.size rfl (i, x) (0, 0) (heap_alloc_new _ _) (by omega) ?_; intro ao2 cap2 w2 t2 g2)
            go_roundw
            case rel => exact ⟨k, dn ++ [(i, x)], by omega, rfl, HTX.out, by have := HKE.out; simp; omega, by simpa using t2, HW.out.grown HK.out g2⟩
            case measure => have := HKE.out; simp [intOf]; omega
    · have i1 : ¬ (i : Int) < (s.length : Int) := by omega
      go_wp2_with fail
      go_ret
      refine ⟨⟨_, rfl, ?_⟩, HK.out⟩
      have e : Wo s i = [] := Wo_end (by omega)
      have := HD.out
      rw [e, List.append_nil] at this
      rw [← this]
      exact HW.out

end Go.Proofs.YtenejaghgehnoaaGreatDoor

namespace Go.Proofs.YtenejaghgehnoaaGreatDoor
open Go.RowKit

theorem wdp_few (s : List UInt8) (p : Nat) : (wdp p s).1.length + (wdp p s).2.length ≤ s.length := by
  induction s generalizing p with
  | nil => simp [wdp]
  | cons c r ih =>
    have := ih (p + 1)
    unfold wdp
    split
    · simp only [flush]
      split
      · simp; omega
      · rename_i h
        have : 0 < (wdp (p + 1) r).1.length := List.length_pos_iff.2 h
        simp; omega
    · simp; omega
/-- No more words than bytes. -/
theorem words_few (s : List UInt8) : (Wo s 0).length ≤ s.length := by
  have := wdp_few s 0
  unfold Wo
  rw [List.drop_zero]
  simp only [flush]
  split
  · omega
  · rename_i h
    have : 0 < (wdp 0 s).1.length := List.length_pos_iff.2 h
    simp; omega

end Go.Proofs.YtenejaghgehnoaaGreatDoor

namespace Go.Proofs.YtenejaghgehnoaaGreatDoor
open Go.RowKit

theorem ar_op (x : List UInt8) : ar (opOf x) = ar (kd x) := by
  by_cases h : opOf x = 0
  · have hk := kd_cases x
    have : kd x < 4 := by
      rcases Nat.lt_or_ge (kd x) 4 with h4 | h4
      · exact h4
      · have := kd_op x h4
        omega
    rw [h]
    unfold ar
    rw [if_neg (by omega), if_neg (by omega), if_neg (by omega), if_neg (by omega)]
  · rw [op_kd x h]
theorem kind_one {x : List UInt8} (h : kd x = 1) : isNum x = false ∧ ar (opOf x) = 0 ∧ isName x = false := by
  refine ⟨?_, by rw [ar_op, h]; rfl, ?_⟩
  · cases hn : isNum x with
    | false => rfl
    | true => rw [(kd_num x).2 hn] at h; cases h
  · cases hn : isName x with
    | false => rfl
    | true => rw [(kd_name x).2 hn] at h; cases h
theorem kind_name {x : List UInt8} (h : kd x = 3) : isNum x = false ∧ ar (opOf x) = 0 ∧ isName x = true := by
  refine ⟨?_, by rw [ar_op, h]; rfl, (kd_name x).1 h⟩
  cases hn : isNum x with
  | false => rfl
  | true => rw [(kd_num x).2 hn] at h; cases h
theorem kind_fine {ns : List (List UInt8)} {x : List UInt8} (h : rf ns x = 0) : isNum x = true ∨ (isNum x = false ∧ 0 < ar (opOf x)) ∨ (isNum x = false ∧ ar (opOf x) = 0 ∧ isName x = true ∧ 0 ≤ ix ns x) := by
  have hk := kd_cases x
  rcases rf_cases ns x with ⟨_, h1⟩ | ⟨_, _, h1⟩ | ⟨h1, h2, _⟩
  · omega
  · omega
  · by_cases h3 : kd x = 3
    · obtain ⟨a, b, c⟩ := kind_name h3
      have hx := h2 h3
      exact .inr (.inr ⟨a, b, c, by rw [ix, if_pos hx]; omega⟩)
    · cases hn : isNum x with
      | true => exact .inl rfl
      | false =>
        have : kd x ≠ 2 := fun e => by rw [(kd_num x).1 e] at hn; cases hn
        refine .inr (.inl ⟨rfl, ?_⟩)
        rw [ar_op]
        unfold ar
        split <;> (try split) <;> omega

/-- All but the last. -/
theorem Its.cut {w : World} {base g cap : Nat} {ks : List Nat} (h : Its w base (.slice (some ⟨g, 0, none⟩) ks.length cap) ks) : Its w base (.slice (some ⟨g, 0, none⟩) ks.dropLast.length cap) ks.dropLast := by
  rcases h.2 with ⟨hv, _⟩ | ⟨g', cap', cur, hv, hb, hh, hc, hm, hs, ht⟩
  · simp at hv
  · simp only [Value.slice.injEq, Option.some.injEq, Addr.mk.injEq, and_true, true_and] at hv
    obtain ⟨rfl, rfl⟩ := hv
    refine ⟨by simp [irow], .inr ⟨g, cap, cur, rfl, hb, hh, by rw [List.length_dropLast]; omega, hm, hs, ?_⟩⟩
    have e : irow ks.dropLast = (irow ks).take ks.dropLast.length := by
      simp only [irow, List.dropLast_eq_take, List.map_take, List.length_take]
      rw [Nat.min_eq_left (by omega)]
    rw [e, ← ht, List.take_take, List.length_dropLast]
    congr 1
    omega
theorem Its.set {w : World} {base g cap : Nat} {ks : List Nat} (h : Its w base (.slice (some ⟨g, 0, none⟩) ks.length cap) ks) (k n : Nat) : Its (w.setCell ⟨g, k, none⟩ (.int .i64 (n : Nat))) base (.slice (some ⟨g, 0, none⟩) (ks.set k n).length cap) (ks.set k n) := by
  have hr := (World.ownsRow.stored h k (.int .i64 (n : Nat))).1
  have e : (irow ks).set k (.int .i64 (n : Nat)) = irow (ks.set k n) := by simp [irow, List.map_set]
  rw [e] at hr
  unfold Its
  rw [List.length_set]
  exact hr
theorem Its.spot {w : World} {base n cap : Nat} {ao : Option Addr} {ks : List Nat} (h : Its w base (.slice ao n cap) ks) (h0 : 0 < ks.length) : ∃ g, ao = some ⟨g, 0, none⟩ ∧ base ≤ g ∧ n = ks.length ∧ ks.length ≤ cap ∧ (∀ j, w.frozen? ⟨g, j, none⟩ = false) := by
  have h' : w.ownsRow base 3 1 (.slice ao n cap) ks.length (irow ks) := h
  rcases h.2 with ⟨hv, e⟩ | ⟨g, cap', cur, hv, hb, hh, hc, _⟩
  · omega
  · injection hv with e1 e2 e3
    subst e1 e2 e3
    exact ⟨g, rfl, hb, rfl, hc, fun j => World.ownsRow.frozenAt h' j⟩
theorem size_int (w0 : World) : (sizeOf (Tryz.prog.elem 38)).run Tryz.prog w0 = .ok 1 w0 := by
  obtain ⟨i, hi, hz0, hz1, hz2⟩ := info_parts Tryz.infoInt
  have e : Tryz.prog.elem 38 = 3 := by kernel_rfl
  rw [e]
  simp [sizeOf, typeInfo, hi, hz1]
set_option maxRecDepth 100000 in
theorem run_cut {g n cap : Nat} (m : Nat) (h : m ≤ cap) (w0 : World) : (Instr.slice 38 (.slice (some ⟨g, 0, none⟩) n cap) none (some (.int .i64 (m : Int))) none).run Tryz.prog w0 = .ok (.slice (some ⟨g, 0, none⟩) m cap) w0 := by
  have := run_slice_h (P := Tryz.prog) w0 38 (some ⟨g, 0, none⟩) n cap Tryz.underlying38 .i64 m (by omega) (by omega)
  rw [this, size_int]
  simp [Result.andThen, sliced, Addr.add]
theorem Its.new (W : World) (k : Nat) : Its (W.alloc (.cells #[.int .i64 (k : Nat)] 3)) W.heap.size (.slice (some ⟨W.heap.size, 0, none⟩) 1 1) [k] :=
  ⟨rfl, .inr ⟨W.heap.size, 1, _, rfl, Nat.le_refl _, heap_alloc_new W _, Nat.le_refl _, by decide, rfl, rfl⟩⟩

theorem wdp_short (s : List UInt8) (p : Nat) : (wdp p s).1.length ≤ s.length ∧ ∀ x ∈ (wdp p s).2, x.2.length ≤ s.length := by
  induction s generalizing p with
  | nil => simp [wdp]
  | cons c r ih =>
    obtain ⟨h1, h2⟩ := ih (p + 1)
    unfold wdp
    split
    · refine ⟨by simp, fun x hx => ?_⟩
      simp only [flush] at hx
      split at hx
      · have := h2 x hx
        simp; omega
      · rcases List.mem_cons.1 hx with rfl | hx
        · simp; omega
        · have := h2 x hx
          simp; omega
    · refine ⟨by simp; omega, fun x hx => ?_⟩
      have := h2 x hx
      simp; omega
/-- No word is longer than the text. -/
theorem texts_short (s : List UInt8) (hs : s.length ≤ 10000) (x : Nat × List UInt8) (hx : x ∈ Wo s 0) : x.2.length ≤ 281474976710656 := by
  obtain ⟨h1, h2⟩ := wdp_short s 0
  unfold Wo at hx
  rw [List.drop_zero] at hx
  simp only [flush] at hx
  split at hx
  · have := h2 x hx
    omega
  · rcases List.mem_cons.1 hx with rfl | hx
    · simp; omega
    · have := h2 x hx
      omega

/-- What is left of a row when noughts are struck. -/
theorem row_step {ns : List (List UInt8)} {L : Nat} {S S' : List Nat} {p : Nat} {x : List UInt8} {r : List (Nat × List UInt8)} (h : rf ns x = 0) (hS : S.dropWhile (fun n => n == 0) = S') :
    rowRun ns L S ((p, x) :: r) = if 17 < S'.length then (22, p) else match S' with
        | [] => (11, p)
        | n :: t => if 0 < ar (kd x) then rowRun ns L (ar (kd x) :: (n - 1) :: t) r else rowRun ns L ((n - 1) :: t) r := by
  simp only [rowRun, hS]
  rw [if_neg (by omega)]
  cases S' <;> rfl

end Go.Proofs.YtenejaghgehnoaaGreatDoor

namespace Go.Proofs.YtenejaghgehnoaaGreatDoor
open Go.RowKit

/-- The row of what is open, in memory order; the innermost last. -/
theorem drop_last {S : List Nat} {k : Nat} {t : List Nat} (h : S = k :: t) : S.reverse.dropLast = t.reverse ∧ S.reverse.length = t.length + 1 ∧ ∀ hk : t.length < S.reverse.length, S.reverse[t.length] = k := by
  subst h
  refine ⟨by simp, by simp, fun hk => ?_⟩
  simp

/-- How long a slice is. -/
def lenOf : Value → Nat
  | .slice _ n _ => n
  | _ => 0

set_option maxRecDepth 100000 in
set_option maxHeartbeats 4000000 in
theorem rcheck_any {w : World} {v : Value} {ns : List (List UInt8)} (h : Ns w v ns) (s : List UInt8) (hs0 : s.length ≤ 281474976710656) :
    Calls Tryz.prog 127 #[.string ⟨s.toArray⟩, v] w fun e w' => e = .returned (.tuple #[.int .i64 ((chk ns s).1 : Nat), .int .i64 ((chk ns s).2 : Nat)]) ∧ Kept (fun _ => True) w w' := by
  have HN : Hid (Ns w v ns) := h
  obtain ⟨ao, cap, rfl, -⟩ := h
  obtain ⟨C, hC⟩ : ∃ C, C = chk ns s := ⟨_, rfl⟩
  have HC : Hid (C = chk ns s) := hC
  rw [← hC]
  clear hC
  by_cases hl : 120 < s.length
  · have hl' : (120 : Int) < (s.length : Int) := by omega
    have e1 := HC.out.trans (chk_long hl)
    subst e1
    go_enter Tryz.func127, Tryz.ntmps127
    go_wp2_with fail
    go_ret2
    exact ⟨rfl, Kept.refl _ _⟩
  · have hl' : ¬ (120 : Int) < (s.length : Int) := by omega
    have hs : s.length ≤ 10000 := by omega
    have HS : Hid (s.length ≤ 10000) := hs
    have cw := words_any (w := w) s hs
    go_enter Tryz.func127, Tryz.ntmps127
    go_wp2_with fail
    refine Calls.mono cw ?_
    rintro e W1 ⟨⟨wv, rfl, hW⟩, k1⟩
    clear cw
    obtain ⟨ws, hws⟩ : ∃ ws, ws = Wo s 0 := ⟨_, rfl⟩
    rw [← hws] at hW
    have HR : Hid (C = rowRun ns s.length [1] ws) := by
      show _ = _
      rw [HC.out, row_chk, chk, if_neg hl, hws]
    have HWL : Hid (ws.length ≤ 10000) := by
      have h1 := words_few s
      rw [← hws] at h1
      have h2 := HS.out
      show _ ≤ _
      omega
    have HXL : Hid (∀ i (hi : i < ws.length), (ws[i]).2.length ≤ 281474976710656) := by
      intro i hi
      exact texts_short s hs _ (by rw [← hws]; exact List.getElem_mem hi)
    have HV : Hid (Wv W1 wv ws) := hW.view
    have HK1 : Hid (Kept (fun _ => True) w W1) := k1
    obtain ⟨wao, wcap, rfl, hwc, hwx⟩ := hW.view
    have HWX : Hid _ := hwx
    have HI0 : Hid _ := Its.new W1 1
    clear hws hW k1 hwx hwc HC
    go_wp2_with fail
    go_loopw [7, 8, 9, 10, 11, 12] (fun t7 t8 _ _ _ _ wr => ∃ (i : Nat) (S : List Nat), i ≤ ws.length ∧ t8 = .int .i64 (i : Nat) ∧ C = rowRun ns s.length S (ws.drop i) ∧ S.length ≤ i + 1 ∧ (∀ k ∈ S, k ≤ 2) ∧ Its wr W1.heap.size t7 S.reverse ∧ Kept (fun _ => True) W1 wr) (fun _ t8 _ _ _ _ _ => ws.length - (intOf t8).toNat)
    case atStart => exact ⟨0, [1], Nat.zero_le _, rfl, HR.out, Nat.le_refl _, by simp, HI0.out, (Kept.refl _ _).alloc _⟩
    case round =>
      obtain ⟨i, S, hi, rfl, hC, hSl, hS2, hI, hk⟩ := hrel
      have HCi : Hid (C = rowRun ns s.length S (ws.drop i)) := hC
      have HKi : Hid (Kept (fun _ => True) W1 wr) := hk
      have HS2 : Hid (∀ k ∈ S, k ≤ 2) := hS2
      obtain ⟨sao, scap, rfl⟩ := hI.shape
      rw [List.length_reverse] at hI ⊢
      have HI : Hid (Its wr W1.heap.size (.slice sao S.length scap) S.reverse) := hI
      clear hC hk hS2 hI
      have hwl10 : ws.length ≤ 10000 := HWL.out
      by_cases hlt : i < ws.length
      · obtain ⟨wb, woff, rfl, hwb, hwx⟩ := HWX.out (by omega)
        obtain ⟨q0, q1⟩ := hwx i hlt
        have q0 := (kept_cell HKi.out hwb trivial).trans q0
        have q1 := (kept_cell HKi.out hwb trivial).trans q1
        have HDR : Hid (ws.drop i = ws[i] :: ws.drop (i + 1)) := List.drop_eq_getElem_cons hlt
        have hxl := HXL.out i hlt
        have i1 : (i : Int) < (ws.length : Int) := by omega
        have i0 : (0 : Int) ≤ (i : Int) := by omega
        clear hwx
        generalize ws[i] = px at *
        obtain ⟨p, x⟩ := px
        simp only at q0 q1 hxl
        have cnum := fun W => rnumq_any (w := W) x hxl
        have ctak := fun W => takes_any (w := W) x
        have cnam := fun W => rname_any (w := W) x hxl
        have cidx := rindex_any (HN.out.all (HK1.out.trans HKi.out)) x
        have HRF : Hid (rf ns x ≠ 0 → C = (rf ns x, p)) := by
          intro hr
          rw [HCi.out, HDR.out]
          simp only [rowRun, if_pos hr]
        rcases rf_cases ns x with ⟨hk1, hr⟩ | ⟨hk3, hx, hr⟩ | ⟨-, -, hr⟩
        · have e1 : Hid (C = (12, p)) := by show C = _; rw [HRF.out (by omega), hr]
          obtain ⟨n1, n2, n3⟩ := kind_one hk1
          rw [n1] at cnum
          rw [n2] at ctak
          rw [n3] at cnam
          clear cidx HRF hk1 hr n1 n2 n3
          go_wp2_with fail
          refine Calls.mono (cnum _) ?_
          rintro e wr ⟨rfl, rfl⟩
          go_wp2_with fail
          refine Calls.mono (ctak _) ?_
          rintro e wr ⟨rfl, rfl⟩
          go_wp2_with fail
          refine Calls.mono (cnam _) ?_
          rintro e wr ⟨rfl, rfl⟩
          go_wp2_with fail
          go_quiet (fail)
          go_wp2_with fail
          go_ret2
          exact ⟨by rw [e1.out]; rfl, (HK1.out.trans HKi.out).drewN _⟩
        · have e1 : Hid (C = (20, p)) := by show C = _; rw [HRF.out (by omega), hr]
          obtain ⟨n1, n2, n3⟩ := kind_name hk3
          have n4 : ix ns x = -1 := by rw [ix, if_neg hx]
          rw [n1] at cnum
          rw [n2] at ctak
          rw [n3] at cnam
          rw [n4] at cidx
          clear HRF hk3 hr n1 n2 n3 n4 hx
          go_wp2_with fail
          refine Calls.mono (cnum _) ?_
          rintro e wr ⟨rfl, rfl⟩
          go_wp2_with fail
          refine Calls.mono (ctak _) ?_
          rintro e wr ⟨rfl, rfl⟩
          go_wp2_with fail
          refine Calls.mono (cnam _) ?_
          rintro e wr ⟨rfl, rfl⟩
          go_wp2_with fail
          refine Calls.mono cidx ?_
          rintro e wr ⟨rfl, rfl⟩
          go_wp2_with fail
          go_quiet (fail)
          go_wp2_with fail
          go_ret2
          exact ⟨by rw [e1.out]; rfl, (HK1.out.trans HKi.out).drewN _⟩
        · have HF : Hid _ := kind_fine hr
          have HAR : Hid (ar (opOf x) = ar (kd x)) := ar_op x
          have HRF0 : Hid (rf ns x = 0) := hr
          have ha2 : ar (opOf x) ≤ 2 := by unfold ar; split <;> (try split) <;> omega
          clear HRF hr
          generalize isNum x = nb at *
          generalize ar (opOf x) = A at *
          generalize isName x = nmb at *
          generalize ix ns x = ixx at *
          generalize (if nb = true then num x else 0) = zz at *
          go_wp2_with fail
          refine Calls.mono (cnum _) ?_
          rintro e wr ⟨rfl, rfl⟩
          go_wp2_with fail
          refine Calls.mono (ctak _) ?_
          rintro e wr ⟨rfl, rfl⟩
          clear cnum ctak
          go_upto_region 11 with fail
          go_cut [48] from 38 to 47 (fun t48 wx => t48 = .bool false ∧ wr = wx)
          case first =>
            rcases HF.out with h1 | ⟨h1, h2⟩ | ⟨h1, h2, h3, h4⟩
            · subst h1
              go_wp2_with fail
              go_meet
              exact ⟨rfl, rfl⟩
            · subst h1
              have h2' : ((A : Int) == 0) = false := by simp; omega
              go_wp2_with fail
              go_meet
              exact ⟨rfl, rfl⟩
            · subst h1 h2 h3
              go_wp2_with fail
              refine Calls.mono (cnam _) ?_
              rintro e wr ⟨rfl, rfl⟩
              go_wp2_with fail
              go_meet
              exact ⟨rfl, rfl⟩
          case rest =>
          obtain ⟨rfl, rfl⟩ := hcut
          go_upto_region 13 with fail
          go_cut [65] from 54 to 64 (fun t65 wx => t65 = .bool false ∧ wr = wx)
          case first =>
            rcases HF.out with h1 | ⟨h1, h2⟩ | ⟨h1, h2, h3, h4⟩
            · subst h1
              go_wp2_with fail
              go_meet
              exact ⟨rfl, rfl⟩
            · subst h1
              have h2' : ((A : Int) == 0) = false := by simp; omega
              go_wp2_with fail
              go_meet
              exact ⟨rfl, rfl⟩
            · subst h1 h2 h3
              have h4' : decide (ixx < 0) = false := by simp; omega
              go_wp2_with fail
              refine Calls.mono cidx ?_
              rintro e wr ⟨rfl, rfl⟩
              go_wp2_with fail
              go_meet
              exact ⟨rfl, rfl⟩
          case rest =>
          obtain ⟨rfl, rfl⟩ := hcut
          clear cnam cidx HF
          have HST : Hid (∀ S', S.dropWhile (fun n => n == 0) = S' → C = if 17 < S'.length then (22, p) else match S' with
              | [] => (11, p)
              | n :: t => if 0 < A then rowRun ns s.length (A :: (n - 1) :: t) (ws.drop (i + 1)) else rowRun ns s.length ((n - 1) :: t) (ws.drop (i + 1))) := by
            intro S' hS'
            rw [HCi.out, HDR.out, row_step HRF0.out hS', HAR.out] <;> cases S' <;> rfl
          have hSl2 : S.length ≤ 10001 := by have := HWL.out; omega
          go_wp2_with fail
          go_loop [7] (fun t7 => ∃ S' : List Nat, S'.dropWhile (fun n => n == 0) = S.dropWhile (fun n => n == 0) ∧ S'.length ≤ S.length ∧ (∀ k ∈ S', k ≤ 2) ∧ Its wr W1.heap.size t7 S'.reverse) (fun t7 => lenOf t7)
          case atStart => exact ⟨S, rfl, Nat.le_refl _, HS2.out, HI.out⟩
          case round =>
            obtain ⟨S', hd, hl2, h22, hI'⟩ := hrel
            have HD' : Hid (S'.dropWhile (fun n => n == 0) = S.dropWhile (fun n => n == 0)) := hd
            have H22 : Hid (∀ k ∈ S', k ≤ 2) := h22
            obtain ⟨sao', scap', rfl⟩ := hI'.shape
            rw [List.length_reverse] at hI' ⊢
            have HI' : Hid (Its wr W1.heap.size (.slice sao' S'.length scap') S'.reverse) := hI'
            clear hd h22 hI' HI HCi HDR HRF0 HAR
            cases S' with
            | nil =>
              have e1 : Hid (C = (11, p)) := by
                show C = _
                rw [HST.out [] (by rw [← HD'.out]; rfl)]
                rfl
              go_wp2_with fail
              go_quiet (fail)
              go_wp2_with fail
              go_ret2
              exact ⟨by rw [e1.out]; rfl, (HK1.out.trans HKi.out).drewN _⟩
            | cons k t =>
              obtain ⟨d1, d2, d3⟩ := drop_last (S := k :: t) rfl
              obtain ⟨g, rfl, hbg, -, hcap, hfz⟩ := HI'.out.spot (by simp)
              have HIt : Hid (Its wr W1.heap.size (.slice (some ⟨g, 0, none⟩) (t.length + 1) scap') (k :: t).reverse) := HI'.out
              obtain ⟨g', e2, q2⟩ := HI'.out.at t.length (by rw [d2]; omega)
              rw [d3] at q2
              cases e2
              rw [d2] at hcap
              have hf := hfz t.length
              have ht1 : (0 : Int) < (t.length : Int) + 1 := by omega
              simp only [List.length_cons] at hl2 ⊢
              clear hfz HI' d2 d3
              by_cases hk0 : k = 0
              · subst hk0
                have hrc := run_cut (g := g) (n := t.length + 1) (cap := scap') t.length (by omega)
                have HIc : Hid (Its wr W1.heap.size (.slice (some ⟨g, 0, none⟩) t.length scap') t.reverse) := by
                  have h9 := Its.cut (ks := (0 :: t).reverse) (by simpa using HIt.out)
                  rw [d1] at h9
                  show Its _ _ _ _
                  simpa using h9
                clear d1 HIt
                go_wp2_with fail
                go_round
                case rel => exact ⟨t, by rw [← HD'.out]; rfl, by omega, fun k hk => H22.out k (List.mem_cons_of_mem _ hk), HIc.out⟩
                case measure => simp [lenOf]
              · have hk0' : ((k : Int) == 0) = false := by simp; omega
                have hk2 : k ≤ 2 := H22.out k (by simp)
                have HST2 : Hid (C = if 17 < (k :: t).length then (22, p) else if 0 < A then rowRun ns s.length (A :: (k - 1) :: t) (ws.drop (i + 1)) else rowRun ns s.length ((k - 1) :: t) (ws.drop (i + 1))) := by
                  show C = _
                  rw [HST.out (k :: t) (by rw [← HD'.out]; simp [hk0])]
                clear HST HD'
                by_cases h17 : 16 < t.length
                · have h17' : (16 : Int) < (t.length : Int) := by omega
                  have e1 : Hid (C = (22, p)) := by show C = _; rw [HST2.out, if_pos (by simp; omega)]
                  go_wp2_with fail
                  go_quiet (fail)
                  go_wp2_with fail
                  go_ret2
                  exact ⟨by rw [e1.out]; rfl, (HK1.out.trans HKi.out).drewN _⟩
                · have h17' : ¬ (16 : Int) < (t.length : Int) := by omega
                  have HSet : Hid (Its (wr.setCell ⟨g, t.length, none⟩ (.int .i64 ((k : Int) - 1))) W1.heap.size (.slice (some ⟨g, 0, none⟩) (t.length + 1) scap') ((k - 1) :: t).reverse) := by
                    have h9 := Its.set (ks := (k :: t).reverse) (by simpa using HIt.out) t.length (k - 1)
                    have e3 : (k :: t).reverse.set t.length (k - 1) = ((k - 1) :: t).reverse := by
                      rw [List.reverse_cons, List.reverse_cons, List.set_append_right _ _ (by simp)]
                      simp
                    have e4 : ((k - 1 : Nat) : Int) = (k : Int) - 1 := by omega
                    rw [e3, e4] at h9
                    show Its _ _ _ _
                    simpa using h9
                  have HKs : Hid (Kept (fun _ => True) W1 (wr.setCell ⟨g, t.length, none⟩ (.int .i64 ((k : Int) - 1)))) := HKi.out.fresh ((Kept.refl (· ≠ g) _).setCell (by simp) _) hbg
                  have hne : ¬ ((t.length : Int) + 1 = 0) := by omega
                  rw [if_neg (by simp; omega)] at HST2
                  clear d1 HIt
                  by_cases hA : 0 < A
                  · have hA' : (0 : Int) < (A : Int) := by omega
                    rw [if_pos hA] at HST2
                    have HG9 : Hid (((wr.setCell ⟨g, t.length, none⟩ (.int .i64 ((k : Int) - 1))).alloc (.cells #[.int .i64 (A : Nat)] 3)).heap[wr.heap.size]? = some (.cells #[.int .i64 (A : Nat)] 3 (0, 0))) := by
                      have h9 := heap_alloc_new (wr.setCell ⟨g, t.length, none⟩ (.int .i64 ((k : Int) - 1))) (.cells #[.int .i64 (A : Nat)] 3)
                      have e5 : (wr.setCell ⟨g, t.length, none⟩ (.int .i64 ((k : Int) - 1))).heap.size = wr.heap.size := by simp [World.setCell]
                      rw [e5] at h9
                      exact h9
                    have HLR : Hid (((k - 1) :: t).reverse.length = t.length + 1) := by show _ = _; simp
                    go_wp2_with (at_builtin; refine wpList_append_int rfl (.tmp 115) (.tmp 117) rfl W1.heap.size (.slice (some ⟨g, 0, none⟩) (t.length + 1) scap') ((k - 1) :: t).reverse rfl (HSet.out.fresh _) (Nat.le_trans HKs.out.size (by simp)) wr.heap.size rfl A (0, 0) HG9.out (by rw [HLR.out]; omega) ?_; intro ao9 cap9 w9 t9 g9)
                    go_roundw
                    case rel => exact ⟨i + 1, A :: (k - 1) :: t, by omega, by go_num, HST2.out, by simp at hSl hl2 ⊢; omega, by intro z hz; simp at hz; rcases hz with rfl | rfl | hz; exact ha2; omega; exact H22.out z (List.mem_cons_of_mem _ hz), by simpa using t9, HSet.out.grown HKs.out g9⟩
                    case measure => simp [intOf]; omega
                  · have hA' : ¬ (0 : Int) < (A : Int) := by omega
                    rw [if_neg hA] at HST2
                    go_wp2_with fail
                    go_roundw
                    case rel => exact ⟨i + 1, (k - 1) :: t, by omega, by go_num, HST2.out, by simp at hSl hl2 ⊢; omega, by intro z hz; simp at hz; rcases hz with rfl | hz; omega; exact H22.out z (List.mem_cons_of_mem _ hz), HSet.out, HKs.out⟩
                    case measure => simp [intOf]; omega
      · have i1 : ¬ (i : Int) < (ws.length : Int) := by omega
        have HEN : Hid (C = if S.any (fun n => decide (0 < n)) = true then (10, s.length) else (0, 0)) := by
          show C = _
          rw [HCi.out, List.drop_eq_nil_of_le (by omega)]
          rfl
        go_wp2_with fail
        go_loop [13] (fun t13 => ∃ j : Nat, j ≤ S.length ∧ t13 = .int .i64 (j : Nat) ∧ ∀ k ∈ S.reverse.take j, k = 0) (fun t13 => S.length - (intOf t13).toNat)
        case atStart => exact ⟨0, Nat.zero_le _, rfl, by simp⟩
        case round =>
          obtain ⟨j, hj, rfl, h0⟩ := hrel
          have H0 : Hid (∀ k ∈ S.reverse.take j, k = 0) := h0
          clear h0
          by_cases hlt2 : j < S.length
          · obtain ⟨g, rfl, q2⟩ := HI.out.at j (by rw [List.length_reverse]; exact hlt2)
            have HTK : Hid (S.reverse.take (j + 1) = S.reverse.take j ++ [S.reverse[j]'(by simpa using hlt2)]) := List.take_succ_eq_append_getElem (by simpa using hlt2)
            have HME : Hid (S.reverse[j]'(by simpa using hlt2) ∈ S) := List.mem_reverse.1 (List.getElem_mem _)
            have j1 : (j : Int) < (S.length : Int) := by omega
            have j0 : (0 : Int) ≤ (j : Int) := by omega
            generalize S.reverse[j]'(by simpa using hlt2) = z at *
            by_cases hz : 0 < z
            · have hz' : (0 : Int) < (z : Int) := by omega
              have e1 : Hid (C = (10, s.length)) := by
                show C = _
                rw [HEN.out, if_pos]
                exact List.any_eq_true.2 ⟨z, HME.out, by simpa using hz⟩
              go_wp2_with fail
              go_ret2
              exact ⟨by rw [e1.out]; rfl, HK1.out.trans HKi.out⟩
            · have hz' : ¬ (0 : Int) < (z : Int) := by omega
              have HZ : Hid (z = 0) := by show z = 0; omega
              clear hz
              go_wp2_with fail
              go_round
              case rel =>
                refine ⟨j + 1, by omega, by go_num, fun k hk => ?_⟩
                rw [HTK.out] at hk
                rcases List.mem_append.1 hk with hk | hk
                · exact H0.out k hk
                · rw [List.mem_singleton.1 hk]; exact HZ.out
              case measure => simp [intOf]; omega
          · have j1 : ¬ (j : Int) < (S.length : Int) := by omega
            have e1 : Hid (C = (0, 0)) := by
              show C = _
              rw [HEN.out, if_neg]
              intro h
              obtain ⟨z, hz1, hz2⟩ := List.any_eq_true.1 h
              have := H0.out z (by rw [List.take_of_length_le (by simp; omega)]; exact List.mem_reverse.2 hz1)
              simp at hz2
              omega
            go_wp2_with fail
            go_ret2
            exact ⟨by rw [e1.out]; rfl, HK1.out.trans HKi.out⟩

end Go.Proofs.YtenejaghgehnoaaGreatDoor

namespace Go.Proofs.YtenejaghgehnoaaGreatDoor
open Go.RowKit

set_option maxRecDepth 100000 in
set_option maxHeartbeats 8000000 in
theorem rnames_any {w : World} {v : Value} {t : Ty} (h : TyV w v t) (hm : (nms t).length ≤ 100000000) :
    Calls Tryz.prog 126 #[v] w fun e w' => ∃ v', e = .returned v' ∧ Txs w' w.heap.size v' (nms t) ∧ Kept (fun _ => True) w w' := by
  obtain ⟨va, vs, vm, rfl, ha, hs, hk⟩ := h
  obtain ⟨ao, ac, rfl, la⟩ := ha.form
  obtain ⟨so, sc, rfl, ls⟩ := hs.form
  obtain ⟨mo, mc, rfl, lm⟩ := hk.form
  have hnl : (nms t).length = t.attrs.length + t.stages.length + t.marks.length := by simp [nms]; omega
  rw [hnl] at hm
  have k0 : Kept (fun _ => True) w (w.alloc (.cells #[.string ⟨t.name.toArray⟩, .slice ao t.attrs.length ac, .slice so t.stages.length sc, .slice mo t.marks.length mc] 54)) := (Kept.refl _ _).alloc _
  have hX := heap_alloc_new w (.cells #[.string ⟨t.name.toArray⟩, .slice ao t.attrs.length ac, .slice so t.stages.length sc, .slice mo t.marks.length mc] 54)
  replace ha := ha.all k0
  replace hs := hs.all k0
  replace hk := hk.all k0
  have hsz : w.heap.size ≤ (w.alloc (.cells #[.string ⟨t.name.toArray⟩, .slice ao t.attrs.length ac, .slice so t.stages.length sc, .slice mo t.marks.length mc] 54)).heap.size := k0.size
  clear hnl
  go_enter Tryz.func126, Tryz.ntmps126
  go_wp2_with fail
  generalize w.alloc (.cells #[.string ⟨t.name.toArray⟩, .slice ao t.attrs.length ac, .slice so t.stages.length sc, .slice mo t.marks.length mc] 54) = w1 at *
  obtain ⟨B, hB⟩ : ∃ B, B = w.heap.size := ⟨_, rfl⟩
  rw [← hB] at hX ⊢
  have HB : Hid (B = w.heap.size) := hB
  have K0 : Hid (Kept (fun _ => True) w w1) := k0
  have HSZ : Hid (w.heap.size ≤ w1.heap.size) := hsz
  have HA : Hid (Av w1 (.slice ao t.attrs.length ac) t.attrs) := ha
  have HS : Hid (Rv w1 (.slice so t.stages.length sc) t.stages) := hs
  have HM : Hid (Rv w1 (.slice mo t.marks.length mc) t.marks) := hk
  have HX : Hid (w1.heap[B]? = some (.cells #[.string ⟨t.name.toArray⟩, .slice ao t.attrs.length ac, .slice so t.stages.length sc, .slice mo t.marks.length mc] 54 (0, 0))) := hX
  clear hB ha hs hk hX k0 hsz
  go_loopw [3, 4] (fun t3 ti wr => ∃ i : Nat, i ≤ t.attrs.length ∧ ti = .int .i64 i ∧ Txs wr w1.heap.size t3 ((t.attrs.take i).map At.name) ∧ Kept (fun _ => True) w1 wr) (fun _ ti _ => t.attrs.length - (intOf ti).toNat)
  case atStart => exact ⟨0, Nat.zero_le _, rfl, Txs.nil _ _, Kept.refl _ _⟩
  case round =>
    obtain ⟨i, hi, rfl, hT, hk⟩ := hrel
    obtain ⟨tq, tc, rfl, _, _⟩ := hT.shape
    have hln : ((t.attrs.take i).map At.name).length ≤ 100000000 := by simp only [List.length_map, List.length_take]; omega
    have HLN : Hid _ := hln
    have HT : Hid (Txs wr w1.heap.size (.slice tq ((t.attrs.take i).map At.name).length tc) ((t.attrs.take i).map At.name)) := hT
    have HKr : Hid (Kept (fun _ => True) w1 wr) := hk
    have hX2 := (HKr.out.block B (lt_of_block HX.out) trivial).trans HX.out
    clear hT hk hln
    by_cases hlt : i < t.attrs.length
    · obtain ⟨b, off, rfl, hb, hc0, hc1, hc2, hc3⟩ := (HA.out.all HKr.out).at i hlt
      obtain ⟨⟨y0, y1, y2, y3⟩, _⟩ := four_cell hX2
      have HST : Hid ((t.attrs.take (i + 1)).map At.name = (t.attrs.take i).map At.name ++ [(t.attrs[i]).name]) := map_take_succ _ _ _ hlt
      have i1 : (i : Int) < (t.attrs.length : Int) := by omega
      have i0 : (0 : Int) ≤ (i : Int) := by omega
      clear hX2 hb
      generalize t.attrs[i] = x at *
      have HK4 : Hid (Kept (fun _ => True) wr (wr.alloc (.cells #[.string ⟨x.name.toArray⟩] 9))) := (Kept.refl _ _).alloc _
      generalize hNs : ((t.attrs.take i).map At.name) = ns at *
      have HNS : Hid _ := hNs
      clear hNs
      go_wp2_with (at_builtin; refine wpList_append_text rfl (.tmp 14) (.tmp 21) rfl w1.heap.size (.slice tq ns.length tc) ns rfl (HT.out.kept (p := fun _ => True) HK4.out (fun _ _ => trivial)) (by have h1 := HKr.out.size; have h2 := HK4.out.size; omega) wr.heap.size rfl x.name (0, 0) (heap_alloc_new _ _) (by have := HLN.out; omega) ?_; intro ao' cap' w' hW hG hO; have HW : Hid _ := hW; have HGr : Hid _ := hG; clear hW hG hO)
      go_roundw
      case rel =>
        refine ⟨i + 1, by omega, by go_num, ?_, ?_⟩
        · rw [HST.out]
          exact HW.out
        · exact (HKr.out.trans HK4.out).grown HGr.out (fun k hk e => by have := (World.ownsRow.lt HT.out k e).1; omega)
      case measure => simp [intOf]; omega
    · have i1 : ¬ (i : Int) < (t.attrs.length : Int) := by omega
      have hie : i = t.attrs.length := by omega
      obtain ⟨⟨y0, y1, y2, y3⟩, _⟩ := four_cell hX2
      have HT2 : Hid (Txs wr w1.heap.size (.slice tq ((t.attrs.take i).map At.name).length tc) (t.attrs.map At.name)) := by
        have := HT.out
        rw [hie] at this ⊢
        rw [List.take_length] at this ⊢
        exact this
      generalize ((t.attrs.take i).map At.name).length = tl at *
      clear hX2 HT hie hlt
      go_wp2_with fail
      go_loopw [3, 5] (fun t3 ti wr => ∃ i : Nat, i ≤ t.stages.length ∧ ti = .int .i64 i ∧ Txs wr w1.heap.size t3 (t.attrs.map At.name ++ (t.stages.take i).map Ru.name) ∧ Kept (fun _ => True) w1 wr) (fun _ ti _ => t.stages.length - (intOf ti).toNat)
      case atStart => exact ⟨0, Nat.zero_le _, rfl, by simpa using HT2.out, HKr.out⟩
      case round =>
        obtain ⟨i, hi, rfl, hT, hk⟩ := hrel
        obtain ⟨tq, tc, rfl, _, _⟩ := hT.shape
        have hln : (t.attrs.map At.name ++ (t.stages.take i).map Ru.name).length ≤ 100000000 := by simp only [List.length_append, List.length_map, List.length_take]; omega
        have HLN : Hid _ := hln
        have HT : Hid (Txs wr w1.heap.size (.slice tq (t.attrs.map At.name ++ (t.stages.take i).map Ru.name).length tc) (t.attrs.map At.name ++ (t.stages.take i).map Ru.name)) := hT
        have HKr : Hid (Kept (fun _ => True) w1 wr) := hk
        have hX2 := (HKr.out.block B (lt_of_block HX.out) trivial).trans HX.out
        clear hT hk hln
        by_cases hlt : i < t.stages.length
        · obtain ⟨b, off, rfl, hb, hc0, hc1⟩ := (HS.out.all HKr.out).at i hlt
          obtain ⟨⟨y0, y1, y2, y3⟩, _⟩ := four_cell hX2
          have HST : Hid ((t.stages.take (i + 1)).map Ru.name = (t.stages.take i).map Ru.name ++ [(t.stages[i]).name]) := map_take_succ _ _ _ hlt
          have i1 : (i : Int) < (t.stages.length : Int) := by omega
          have i0 : (0 : Int) ≤ (i : Int) := by omega
          clear hX2 hb
          generalize t.stages[i] = x at *
          have HK4 : Hid (Kept (fun _ => True) wr (wr.alloc (.cells #[.string ⟨x.name.toArray⟩] 9))) := (Kept.refl _ _).alloc _
          generalize hNs : (t.attrs.map At.name ++ (t.stages.take i).map Ru.name) = ns at *
          have HNS : Hid _ := hNs
          clear hNs
          go_wp2_with (at_builtin; refine wpList_append_text rfl (.tmp 30) (.tmp 37) rfl w1.heap.size (.slice tq ns.length tc) ns rfl (HT.out.kept (p := fun _ => True) HK4.out (fun _ _ => trivial)) (by have h1 := HKr.out.size; have h2 := HK4.out.size; omega) wr.heap.size rfl x.name (0, 0) (heap_alloc_new _ _) (by have := HLN.out; omega) ?_; intro ao' cap' w' hW hG hO; have HW : Hid _ := hW; have HGr : Hid _ := hG; clear hW hG hO)
          go_roundw
          case rel =>
            refine ⟨i + 1, by omega, by go_num, ?_, ?_⟩
            · rw [HST.out, ← List.append_assoc, HNS.out]
              exact HW.out
            · exact (HKr.out.trans HK4.out).grown HGr.out (fun k hk e => by have := (World.ownsRow.lt HT.out k e).1; omega)
          case measure => simp [intOf]; omega
        · have i1 : ¬ (i : Int) < (t.stages.length : Int) := by omega
          have hie : i = t.stages.length := by omega
          obtain ⟨⟨y0, y1, y2, y3⟩, _⟩ := four_cell hX2
          have HT2 : Hid (Txs wr w1.heap.size (.slice tq (t.attrs.map At.name ++ (t.stages.take i).map Ru.name).length tc) (t.attrs.map At.name ++ t.stages.map Ru.name)) := by
            have := HT.out
            rw [hie] at this ⊢
            rw [List.take_length] at this ⊢
            exact this
          generalize (t.attrs.map At.name ++ (t.stages.take i).map Ru.name).length = tl at *
          clear hX2 HT hie hlt
          go_wp2_with fail
          go_loopw [3, 6] (fun t3 ti wr => ∃ i : Nat, i ≤ t.marks.length ∧ ti = .int .i64 i ∧ Txs wr w1.heap.size t3 (t.attrs.map At.name ++ t.stages.map Ru.name ++ (t.marks.take i).map Ru.name) ∧ Kept (fun _ => True) w1 wr) (fun _ ti _ => t.marks.length - (intOf ti).toNat)
          case atStart => exact ⟨0, Nat.zero_le _, rfl, by simpa using HT2.out, HKr.out⟩
          case round =>
            obtain ⟨i, hi, rfl, hT, hk⟩ := hrel
            obtain ⟨tq, tc, rfl, _, _⟩ := hT.shape
            have hln : (t.attrs.map At.name ++ t.stages.map Ru.name ++ (t.marks.take i).map Ru.name).length ≤ 100000000 := by simp only [List.length_append, List.length_map, List.length_take]; omega
            have HLN : Hid _ := hln
            have HT : Hid (Txs wr w1.heap.size (.slice tq (t.attrs.map At.name ++ t.stages.map Ru.name ++ (t.marks.take i).map Ru.name).length tc) (t.attrs.map At.name ++ t.stages.map Ru.name ++ (t.marks.take i).map Ru.name)) := hT
            have HKr : Hid (Kept (fun _ => True) w1 wr) := hk
            have hX2 := (HKr.out.block B (lt_of_block HX.out) trivial).trans HX.out
            clear hT hk hln
            by_cases hlt : i < t.marks.length
            · obtain ⟨b, off, rfl, hb, hc0, hc1⟩ := (HM.out.all HKr.out).at i hlt
              obtain ⟨⟨y0, y1, y2, y3⟩, _⟩ := four_cell hX2
              have HST : Hid ((t.marks.take (i + 1)).map Ru.name = (t.marks.take i).map Ru.name ++ [(t.marks[i]).name]) := map_take_succ _ _ _ hlt
              have i1 : (i : Int) < (t.marks.length : Int) := by omega
              have i0 : (0 : Int) ≤ (i : Int) := by omega
              clear hX2 hb
              generalize t.marks[i] = x at *
              have HK4 : Hid (Kept (fun _ => True) wr (wr.alloc (.cells #[.string ⟨x.name.toArray⟩] 9))) := (Kept.refl _ _).alloc _
              generalize hNs : (t.attrs.map At.name ++ t.stages.map Ru.name ++ (t.marks.take i).map Ru.name) = ns at *
              have HNS : Hid _ := hNs
              clear hNs
              go_wp2_with (at_builtin; refine wpList_append_text rfl (.tmp 46) (.tmp 53) rfl w1.heap.size (.slice tq ns.length tc) ns rfl (HT.out.kept (p := fun _ => True) HK4.out (fun _ _ => trivial)) (by have h1 := HKr.out.size; have h2 := HK4.out.size; omega) wr.heap.size rfl x.name (0, 0) (heap_alloc_new _ _) (by have := HLN.out; omega) ?_; intro ao' cap' w' hW hG hO; have HW : Hid _ := hW; have HGr : Hid _ := hG; clear hW hG hO)
              go_roundw
              case rel =>
                refine ⟨i + 1, by omega, by go_num, ?_, ?_⟩
                · rw [HST.out, ← List.append_assoc, HNS.out]
                  exact HW.out
                · exact (HKr.out.trans HK4.out).grown HGr.out (fun k hk e => by have := (World.ownsRow.lt HT.out k e).1; omega)
              case measure => simp [intOf]; omega
            · have i1 : ¬ (i : Int) < (t.marks.length : Int) := by omega
              have hie : i = t.marks.length := by omega
              obtain ⟨⟨y0, y1, y2, y3⟩, _⟩ := four_cell hX2
              have HT2 : Hid (Txs wr w1.heap.size (.slice tq (t.attrs.map At.name ++ t.stages.map Ru.name ++ (t.marks.take i).map Ru.name).length tc) (t.attrs.map At.name ++ t.stages.map Ru.name ++ t.marks.map Ru.name)) := by
                have := HT.out
                rw [hie] at this ⊢
                rw [List.take_length] at this ⊢
                exact this
              generalize (t.attrs.map At.name ++ t.stages.map Ru.name ++ (t.marks.take i).map Ru.name).length = tl at *
              clear hX2 HT hie hlt
              go_wp2_with fail
              go_ret
              rw [HB.out]
              refine ⟨.slice tq tl tc, rfl, ?_, K0.out.trans HKr.out⟩
              exact ownsRow_low HT2.out HSZ.out

end Go.Proofs.YtenejaghgehnoaaGreatDoor

namespace Go.Proofs.YtenejaghgehnoaaGreatDoor
open Go.RowKit

theorem mem_take_succ {ns : List (List UInt8)} {k : Nat} (hk : k < ns.length) {x : List UInt8} : x ∈ ns.take (k + 1) ↔ x ∈ ns.take k ∨ x = ns[k] := by
  rw [List.take_succ_eq_append_getElem hk, List.mem_append, List.mem_singleton]
/-- A row of rules without one, just made. -/
theorem Ro.made (w : World) : Ro (w.alloc (.cells #[] 90)) w.heap.size (.slice (some ⟨w.heap.size, 0, none⟩) 0 0) [] :=
  ⟨rfl, .inr ⟨w.heap.size, 0, #[], rfl, Nat.le_refl _, heap_alloc_new w _, Nat.le_refl _, by unfold maxLen; omega, rfl, by simp [rrow]⟩⟩

theorem step_append_rules {w : World} {ops : Array Oper} {o : Oper} {a : Act} {K : Act → World → Prop} {Q : Exit → Act → World → Prop} {E : Prop} (hgd : o.guard = none) (sl y : Operand) (ho : o.op = .call { callee := .builtin .append, args := #[sl, y], argTypes := #[52, 52] })
    (base : Nat) (v : Value) (xs : List Ru) (hs : a.eval sl = v) (h : Ro w base v xs) (hb : base ≤ w.heap.size) (yv : Value) (hy : a.eval y = yv) (ys : List Ru) (hR : Rv w yv ys) (hm : xs.length + ys.length ≤ 100000000) (n : Nat) (hn : xs.length + ys.length = n)
    (hK : ∀ ao' cap' w', Ro w' base (.slice ao' n cap') (xs ++ ys) → w.grownBy w' v.ownBlock → K (a.put o.dst (.slice ao' n cap')) w') : if Region.wanted o (yielded ops a.tmps) = true then Oper.wp Tryz.prog o a w K Q else E := by
  have hw : Region.wanted o (yielded ops a.tmps) = true := by simp [Region.wanted, hgd]
  rw [if_pos hw]
  subst hn
  obtain ⟨ao', cap', w', hr, h2, h3⟩ := append_rules w o.type base v xs h hb yv ys hR hm
  unfold Oper.wp execOp
  simp only [ho, resolve, invoke, builtin, Sem.run_bind, Sem.run_pure, Result.andThen_ok, List.map_toArray, List.map_cons, List.map_nil, hs, hy, hr]
  exact hK ao' cap' w' h2 h3
theorem cell_stays {p : Nat → Prop} {w w' : World} {a : Addr} {v : Value} (k : Kept p w w') (h : w.cell? a = some v) (hp : p a.block) : w'.cell? a = some v :=
  (World.cell?_of_block (w := w) (k.block a.block (World.block_lt_of_cell? w _ h) hp)).trans h

set_option maxRecDepth 100000 in
set_option maxHeartbeats 8000000 in
theorem rright_any {w : World} {v : Value} {t : Ty} (h : TyV w v t) (hz : Tsz t) :
    Calls Tryz.prog 66 #[v] w fun e w' => e = .returned (.int .i64 (right t : Nat)) ∧ Kept (fun _ => True) w w' := by
  obtain ⟨C, hC⟩ : ∃ C, C = right t := ⟨_, rfl⟩
  rw [← hC]
  unfold right at hC
  have HC : Hid _ := hC
  clear hC
  obtain ⟨va, vs, vm, rfl, ha, hs, hk⟩ := h
  obtain ⟨ao, ac, rfl, la⟩ := ha.form
  obtain ⟨so, sc, rfl, ls⟩ := hs.form
  obtain ⟨mo, mc, rfl, lm⟩ := hk.form
  have cn := fun W => rname_any (w := W) t.name hz.name
  have HZ : Hid (Tsz t) := hz
  have k0 : Kept (fun _ => True) w (w.alloc (.cells #[.string ⟨t.name.toArray⟩, .slice ao t.attrs.length ac, .slice so t.stages.length sc, .slice mo t.marks.length mc] 54)) := (Kept.refl _ _).alloc _
  have hX := heap_alloc_new w (.cells #[.string ⟨t.name.toArray⟩, .slice ao t.attrs.length ac, .slice so t.stages.length sc, .slice mo t.marks.length mc] 54)
  replace ha := ha.all k0
  replace hs := hs.all k0
  replace hk := hk.all k0
  obtain ⟨⟨z0, z1, z2, z3⟩, _⟩ := four_cell hX
  clear hz
  go_enter Tryz.func66, Tryz.ntmps66
  go_wp2_with fail
  generalize w.alloc (.cells #[.string ⟨t.name.toArray⟩, .slice ao t.attrs.length ac, .slice so t.stages.length sc, .slice mo t.marks.length mc] 54) = w1 at *
  obtain ⟨B, hB⟩ : ∃ B, B = w.heap.size := ⟨_, rfl⟩
  rw [← hB] at hX z0 z1 z2 z3 ⊢
  have K0 : Hid (Kept (fun _ => True) w w1) := k0
  have HA : Hid (Av w1 (.slice ao t.attrs.length ac) t.attrs) := ha
  have HS : Hid (Rv w1 (.slice so t.stages.length sc) t.stages) := hs
  have HM : Hid (Rv w1 (.slice mo t.marks.length mc) t.marks) := hk
  have HX : Hid (w1.heap[B]? = some (.cells #[.string ⟨t.name.toArray⟩, .slice ao t.attrs.length ac, .slice so t.stages.length sc, .slice mo t.marks.length mc] 54 (0, 0))) := hX
  clear hB ha hs hk hX k0
  refine Calls.mono (cn _) ?_
  rintro e w1 ⟨rfl, rfl⟩
  clear cn
  cases hN : isName t.name with
  | false =>
    have HE : Hid (C = 20) := by show _ = _; rw [HC.out, if_pos hN]
    clear HC hN
    go_wp2_with fail
    go_ret
    exact ⟨by rw [HE.out]; rfl, K0.out⟩
  | true =>
  have HC2 : Hid (C = if 6 < t.attrs.length ∨ 6 < t.stages.length ∨ 6 < t.marks.length then 4 else if rns t.attrs [] (nms t) ≠ 0 then rns t.attrs [] (nms t) else rgs (nms t) (t.stages ++ t.marks)) := by
    show _ = _
    rw [HC.out, if_neg (by rw [hN]; simp)]
  clear HC hN
  by_cases h6 : 6 < t.attrs.length ∨ 6 < t.stages.length ∨ 6 < t.marks.length
  · have HE : Hid (C = 4) := by show _ = _; rw [HC2.out, if_pos h6]
    have h6' : (6 : Int) < (t.attrs.length : Int) ∨ (¬ (6 : Int) < (t.attrs.length : Int) ∧ (6 : Int) < (t.stages.length : Int)) ∨ (¬ (6 : Int) < (t.attrs.length : Int) ∧ ¬ (6 : Int) < (t.stages.length : Int) ∧ (6 : Int) < (t.marks.length : Int)) := by omega
    clear HC2 h6
    rcases h6' with a1 | ⟨a1, a2⟩ | ⟨a1, a2, a3⟩
    all_goals
      go_wp2_with fail
      go_ret
      exact ⟨by rw [HE.out]; rfl, K0.out⟩
  have g1 : ¬ (6 : Int) < (t.attrs.length : Int) := by omega
  have g2 : ¬ (6 : Int) < (t.stages.length : Int) := by omega
  have g3 : ¬ (6 : Int) < (t.marks.length : Int) := by omega
  have HC3 : Hid (C = if rns t.attrs [] (nms t) ≠ 0 then rns t.attrs [] (nms t) else rgs (nms t) (t.stages ++ t.marks)) := by
    show _ = _
    rw [HC2.out, if_neg h6]
  have l1 : t.attrs.length ≤ 6 := by omega
  have l2 : t.stages.length ≤ 6 := by omega
  have l3 : t.marks.length ≤ 6 := by omega
  have hnl : (nms t).length = t.attrs.length + t.stages.length + t.marks.length := by simp [nms]; omega
  have cnm := rnames_any (w := w1) (v := .agg #[.string ⟨t.name.toArray⟩, .slice ao t.attrs.length ac, .slice so t.stages.length sc, .slice mo t.marks.length mc]) (t := t) ⟨_, _, _, rfl, HA.out, HS.out, HM.out⟩ (by omega)
  have HNL : Hid ((nms t).length ≤ 18) := by show _ ≤ _; omega
  have HNZ : Hid _ := HZ.out.names
  have HGZ : Hid _ := HZ.out.guards
  clear h6 HC2 hnl HZ
  generalize hns : nms t = ns at *
  clear hns
  go_wp2_with fail
  refine Calls.mono cnm ?_
  rintro e w3 ⟨nv, rfl, hT, k3⟩
  obtain ⟨no, nc, rfl, hnc, hng⟩ := hT.shape
  have HT : Hid (Txs w3 w1.heap.size (.slice no ns.length nc) ns) := hT
  have HK3 : Hid (Kept (fun _ => True) w1 w3) := k3
  have HNG : Hid _ := hng
  clear cnm hT k3 z0 z1 z2 z3 hng
  go_wp2_with fail
  go_loopw [4, 5, 6] (fun t4 _ _ wr => ∃ i : Nat, i ≤ ns.length ∧ t4 = .int .i64 i ∧ rns t.attrs [] ns = rns (t.attrs.drop i) (ns.take i) (ns.drop i) ∧ Kept (fun _ => True) w3 wr) (fun t4 _ _ _ => ns.length - (intOf t4).toNat)
  case atStart => exact ⟨0, Nat.zero_le _, rfl, rfl, Kept.refl _ _⟩
  case round =>
  obtain ⟨i, hi, rfl, hE, hk⟩ := hrel
  have HE : Hid (rns t.attrs [] ns = rns (t.attrs.drop i) (ns.take i) (ns.drop i)) := hE
  have HKr : Hid (Kept (fun _ => True) w3 wr) := hk
  have h18 : ns.length ≤ 18 := HNL.out
  clear hE hk
  by_cases hlt : i < ns.length
  · obtain ⟨g, rfl⟩ := HNG.out (by omega)
    have hTr := HT.out.kept (p := fun _ => True) HKr.out (fun _ _ => trivial)
    have q1 := hTr.cell i hlt
    have HS1 : Hid _ := rns_step (ats := t.attrs) hlt
    have c1 := fun W => rname_any (w := W) ns[i] (HNZ.out _ (List.getElem_mem hlt))
    have i1 : (i : Int) < (ns.length : Int) := by omega
    have i0 : (0 : Int) ≤ (i : Int) := by omega
    have HTr : Hid (Txs wr w1.heap.size (.slice (some ⟨g, 0, none⟩) ns.length nc) ns) := hTr
    have HKA : Hid (Kept (fun _ => True) w wr) := K0.out.trans (HK3.out.trans HKr.out)
    have HK14 : Hid (Kept (fun _ => True) w1 wr) := HK3.out.trans HKr.out
    obtain ⟨⟨y0, y1, y2, y3⟩, _⟩ := four_cell ((HK14.out.block B (lt_of_block HX.out) trivial).trans HX.out)
    clear hTr
    obtain ⟨x, hx⟩ : ∃ x, x = ns[i] := ⟨_, rfl⟩
    rw [← hx] at q1 c1
    have HXX : Hid (x = ns[i]) := hx
    obtain ⟨bn, hbn⟩ : ∃ bn, bn = isName x := ⟨_, rfl⟩
    rw [← hbn] at c1
    have HBN2 : Hid (bn = isName ns[i]) := by show _ = _; rw [hbn, HXX.out]
    clear hbn hx
    go_wp2_with fail
    refine Calls.mono (c1 _) ?_
    rintro e wo ⟨rfl, rfl⟩
    clear c1
    cases bn with
    | false =>
      have HF : Hid (C = 20) := by
        show _ = _
        have h1 := HS1.out
        rw [if_pos HBN2.out.symm, ← HE.out] at h1
        rw [HC3.out, h1]
        rfl
      clear HS1 HBN2
      go_wp2_with fail
      go_ret
      exact ⟨by rw [HF.out]; rfl, HKA.out⟩
    | true =>
    go_wp2_with fail
    go_loopw [5] (fun t5 wq => ∃ k : Nat, k ≤ i ∧ t5 = .int .i64 k ∧ ¬ ns[i] ∈ ns.take k ∧ Kept (fun _ => True) wo wq) (fun t5 _ => i - (intOf t5).toNat)
    case atStart => exact ⟨0, Nat.zero_le _, rfl, by simp, Kept.refl _ _⟩
    case round =>
    obtain ⟨k, hk, rfl, hno, hkq⟩ := hrel
    have HNO : Hid (¬ ns[i] ∈ ns.take k) := hno
    have HKq : Hid (Kept (fun _ => True) wo wr) := hkq
    have hTq := HTr.out.kept (p := fun _ => True) hkq (fun _ _ => trivial)
    have p1 := hTq.cell i hlt
    rw [← HXX.out] at p1
    clear hno hkq q1 y0 y1 y2 y3
    by_cases hki : k < i
    · have hkn : k < ns.length := by omega
      have p2 := hTq.cell k hkn
      have HMS : Hid (ns[i] ∈ ns.take (k + 1) ↔ ns[i] ∈ ns.take k ∨ ns[i] = ns[k]) := mem_take_succ hkn
      have HMM : Hid (ns[i] = ns[k] → ns[i] ∈ ns.take i) := fun h => by
        rw [h]
        refine List.mem_iff_getElem.2 ⟨k, by rw [List.length_take]; omega, by rw [List.getElem_take]⟩
      have k1 : (k : Int) < (i : Int) := by omega
      have k0 : (0 : Int) ≤ (k : Int) := by omega
      have k2 : (k : Int) < (ns.length : Int) := by omega
      obtain ⟨y, hy⟩ : ∃ y, y = ns[k] := ⟨_, rfl⟩
      rw [← hy] at p2
      have HYY : Hid (y = ns[k]) := hy
      clear hy hTq
      by_cases hxy : y = x
      · have HF : Hid (C = 21) := by
          show _ = _
          have h1 := HS1.out
          rw [if_neg (by rw [← HBN2.out]; simp), if_pos (HMM.out (by rw [← HXX.out, ← HYY.out, hxy])), ← HE.out] at h1
          rw [HC3.out, h1]
          rfl
        subst hxy
        clear HS1 HBN2 HMS HMM HYY HXX HNO
        go_wp2_with fail
        go_quiet (fail)
        go_wp2_with fail
        go_ret
        exact ⟨by rw [HF.out]; rfl, HKA.out.trans (HKq.out.drewN _)⟩
      · have hxy' : (y == x) = false := beq_eq_false_iff_ne.2 hxy
        have HNO2 : Hid (¬ ns[i] ∈ ns.take (k + 1)) := by
          intro h
          rcases HMS.out.1 h with h | h
          · exact HNO.out h
          · exact hxy (by rw [HXX.out, HYY.out, h])
        clear HMS HMM hxy HNO
        go_wp2_with fail
        go_quiet (fail)
        go_wp2_with fail
        go_roundw
        case rel => exact ⟨k + 1, by omega, by go_num, HNO2.out, HKq.out.drewN _⟩
        case measure => simp [intOf]; omega
    · have k1 : ¬ (k : Int) < (i : Int) := by omega
      have HS3 : Hid (rns (t.attrs.drop i) (ns.take i) (ns.drop i) = if (∃ h : i < t.attrs.length, ranged t.attrs[i] = false) then 23 else rns (t.attrs.drop (i + 1)) (ns.take (i + 1)) (ns.drop (i + 1))) := by
        show _ = _
        have h1 := HS1.out
        have h2 := HNO.out
        rw [show k = i by omega] at h2
        rwa [if_neg (by rw [← HBN2.out]; simp), if_neg h2] at h1
      have HK15 : Hid (Kept (fun _ => True) w1 wr) := HK14.out.trans HKq.out
      obtain ⟨⟨y0, y1, y2, y3⟩, _⟩ := four_cell ((HK15.out.block B (lt_of_block HX.out) trivial).trans HX.out)
      clear HS1 HBN2 HNO p1 hTq hki
      by_cases hat : i < t.attrs.length
      · obtain ⟨b, off, rfl, hb, r0, r1, r2, r3⟩ := (HA.out.all HK15.out).at i hat
        have ha' : (i : Int) < (t.attrs.length : Int) := by omega
        have HR1 : Hid (ranged t.attrs[i] = false → C = 23) := by
          intro h
          have e := HS3.out
          rw [if_pos ⟨hat, h⟩] at e
          rw [HC3.out, HE.out, e]
          rfl
        have HR2 : Hid (ranged t.attrs[i] = true → rns t.attrs [] ns = rns (t.attrs.drop (i + 1)) (ns.take (i + 1)) (ns.drop (i + 1))) := by
          intro h
          rw [HE.out, HS3.out, if_neg (fun h' => by obtain ⟨_, h'⟩ := h'; rw [h] at h'; cases h')]
        clear hb HS3
        generalize t.attrs[i] = y at *
        have HRG : Hid (ranged y = (decide (-1000 ≤ y.lo) && decide (y.lo ≤ y.start) && decide (y.start ≤ y.hi) && decide (y.hi ≤ 1000))) := by show _ = _; rfl
        have KA : Hid (∀ o : Obj, Kept (fun _ => True) wr (wr.alloc o)) := fun o => (Kept.refl _ _).alloc o
        obtain ⟨yn, ys, yl, yh⟩ := y
        simp only at r0 r1 r2 r3 HRG
        by_cases b1 : -1000 ≤ yl
        · by_cases b2 : yl ≤ ys
          · by_cases b3 : ys ≤ yh
            · by_cases b4 : yh ≤ 1000
              · have HF : Hid _ := HR2.out (by rw [HRG.out]; simp [b1, b2, b3, b4])
                clear HR1 HR2 HRG
                go_wp2_with fail
                go_roundw
                case rel => exact ⟨i + 1, by omega, by go_num, HF.out, HKr.out.trans (HKq.out.trans (KA.out _))⟩
                case measure => simp [intOf]; omega
              · have HF : Hid (C = 23) := HR1.out (by rw [HRG.out]; simp [b4])
                clear HR1 HR2 HRG
                go_wp2_with fail
                go_ret
                exact ⟨by rw [HF.out]; rfl, HKA.out.trans (HKq.out.trans (KA.out _))⟩
            · have HF : Hid (C = 23) := HR1.out (by rw [HRG.out]; simp [b3])
              clear HR1 HR2 HRG
              go_wp2_with fail
              go_ret
              exact ⟨by rw [HF.out]; rfl, HKA.out.trans (HKq.out.trans (KA.out _))⟩
          · have HF : Hid (C = 23) := HR1.out (by rw [HRG.out]; simp [b2])
            clear HR1 HR2 HRG
            go_wp2_with fail
            go_ret
            exact ⟨by rw [HF.out]; rfl, HKA.out.trans (HKq.out.trans (KA.out _))⟩
        · have HF : Hid (C = 23) := HR1.out (by rw [HRG.out]; simp [b1])
          clear HR1 HR2 HRG
          go_wp2_with fail
          go_ret
          exact ⟨by rw [HF.out]; rfl, HKA.out.trans (HKq.out.trans (KA.out _))⟩
      · have ha' : ¬ (i : Int) < (t.attrs.length : Int) := by omega
        have HF : Hid (rns t.attrs [] ns = rns (t.attrs.drop (i + 1)) (ns.take (i + 1)) (ns.drop (i + 1))) := by
          show _ = _
          rw [HE.out, HS3.out, if_neg (fun h => hat h.1)]
        have HI : Hid (i < ns.length) := hlt
        clear HS3 hat
        go_wp2_with fail
        go_roundw
        case rel => exact ⟨i + 1, HI.out, by go_num, HF.out, HKr.out.trans HKq.out⟩
        case measure =>
          have := HI.out
          simp [intOf]
          omega
  · have i1 : ¬ (i : Int) < (ns.length : Int) := by omega
    have HC4 : Hid (C = rgs ns (t.stages ++ t.marks)) := by
      show _ = _
      have h1 := HE.out
      rw [List.drop_eq_nil_of_le (by omega : ns.length ≤ i)] at h1
      have h2 : rns (t.attrs.drop i) (ns.take i) [] = 0 := by simp [rns]
      rw [HC3.out, h1, h2]
      rfl
    have HK13 : Hid (Kept (fun _ => True) w1 wr) := HK3.out.trans HKr.out
    obtain ⟨⟨y0, y1, y2, y3⟩, _⟩ := four_cell ((HK13.out.block B (lt_of_block HX.out) trivial).trans HX.out)
    have HRS : Hid (Rv wr (.slice so t.stages.length sc) t.stages) := HS.out.all HK13.out
    have HRM : Hid (Rv wr (.slice mo t.marks.length mc) t.marks) := HM.out.all HK13.out
    have hrl : t.stages.length + t.marks.length ≤ 12 := by omega
    obtain ⟨N2, hN2⟩ : ∃ N2, N2 = t.stages.length + t.marks.length := ⟨_, rfl⟩
    have HN1 : Hid (([] : List Ru).length + t.stages.length = t.stages.length) := by show _ = _; simp
    have HN2 : Hid (([] ++ t.stages).length + t.marks.length = N2) := by show _ = _; rw [hN2]; simp
    have HN3 : Hid (([] : List Ru).length + t.stages.length ≤ 100000000 ∧ ([] ++ t.stages).length + t.marks.length ≤ 100000000) := by
      refine ⟨?_, ?_⟩
      · rw [HN1.out]; omega
      · rw [HN2.out]; omega
    have h12 : N2 ≤ 12 := by omega
    have kd : Kept (fun _ => True) wr wr.drew := (Kept.refl _ _).drew
    have u2 : ∀ W, Kept (fun _ => True) wr W → W.cell? ⟨B, 2, none⟩ = some (.slice so t.stages.length sc) := fun W q => cell_stays q y2 trivial
    have u3 : ∀ W, Kept (fun _ => True) wr W → W.cell? ⟨B, 3, none⟩ = some (.slice mo t.marks.length mc) := fun W q => cell_stays q y3 trivial
    clear hlt HE HC3 y0 y1 y2 y3 hN2 hrl
    go_wp2_with fail
    go_region_held3 (fun W => Kept (fun _ => True) wr W) (first | assumption | exact Kept.alloc (by assumption) _) (first
      | (refine step_append_rules ?_ (.tmp 92) (.tmp 94) ?_ wr.heap.size (.slice (some ⟨wr.heap.size, 0, none⟩) 0 0) [] ?_ (Ro.made wr.drew) (by simp) (.slice so t.stages.length sc) ?_ t.stages (HRS.out.all (kd.alloc _)) HN3.out.1 t.stages.length HN1.out ?_; rfl; rfl; rfl; rfl; intro ao1 cap1 w5 t1 gr1; have k1 : Kept (fun _ => True) wr w5 := (kd.alloc _).grown gr1 (fun q hq e _ => by simp [Value.ownBlock] at e; omega))
      | (refine step_append_rules ?_ (.tmp 95) (.tmp 97) ?_ wr.heap.size (.slice ao1 t.stages.length cap1) ([] ++ t.stages) ?_ t1 k1.size (.slice mo t.marks.length mc) ?_ t.marks (HRM.out.all k1) HN3.out.2 N2 HN2.out ?_; rfl; rfl; rfl; rfl; intro ao2 cap2 w6 t2 gr2; have k2 : Kept (fun _ => True) wr w6 := k1.grown gr2 (fun q hq e _ => by have := (World.ownsRow.lt t1 q e).1; omega)))
    all_goals
      have hv : Rv w6 (.slice ao2 N2 cap2) (t.stages ++ t.marks) := Ro.view (show Ro w6 wr.heap.size (.slice ao2 N2 cap2) (t.stages ++ t.marks) from t2) (by rw [List.length_append]; omega)
      have HV : Hid (Rv w6 (.slice ao2 N2 cap2) (t.stages ++ t.marks)) := hv
      have HRL : Hid (N2 = (t.stages ++ t.marks).length) := by show _ = _; rw [← HN2.out]; simp
      have HK5 : Hid (Kept (fun _ => True) w3 w6) := HKr.out.trans k2
      have HNS : Hid (Ns w3 (.slice no ns.length nc) ns) := HT.out.ns (by have := HNL.out; omega)
      clear t1 t2 gr1 gr2 k1 k2 hv u2 u3 kd
      generalize t.stages ++ t.marks = rs at *
      go_wp2_with fail
      go_loopw [8, 9, 10] (fun t8 _ _ wq => ∃ j : Nat, j ≤ N2 ∧ t8 = .int .i64 j ∧ C = rgs ns (rs.drop j) ∧ Kept (fun _ => True) w6 wq) (fun t8 _ _ _ => N2 - (intOf t8).toNat)
      case atStart => exact ⟨0, Nat.zero_le _, rfl, HC4.out, Kept.refl _ _⟩
      case round =>
      obtain ⟨j, hj, rfl, hE, hk⟩ := hrel
      have HE : Hid (C = rgs ns (rs.drop j)) := hE
      have HKq : Hid (Kept (fun _ => True) w6 wr) := hk
      clear hE hk
      by_cases hlt : j < N2
      · have hltr : j < rs.length := by have := HRL.out; omega
        obtain ⟨b, off, rfl, hb, r0, r1⟩ := (HV.out.all HKq.out).at j hltr
        have j1 : (j : Int) < (N2 : Int) := by omega
        have j0 : (0 : Int) ≤ (j : Int) := by omega
        have cg := rcheck_any ((HNS.out.all HK5.out).all HKq.out) (rs[j]).guard (HGZ.out _ (List.getElem_mem hltr))
        have HSt : Hid _ := rgs_step (ns := ns) hltr
        clear hb
        generalize (chk ns (rs[j]).guard).2 = p2 at *
        generalize (chk ns (rs[j]).guard).1 = p1 at *
        generalize rs[j] = y at *
        go_wp2_with fail
        refine Calls.mono cg ?_
        rintro e w7 ⟨rfl, k6⟩
        have HK6 : Hid (Kept (fun _ => True) w6 w7) := HKq.out.trans k6
        clear k6 cg
        by_cases hp : p1 = 0
        · subst hp
          have HF : Hid (C = rgs ns (rs.drop (j + 1))) := by
            show _ = _
            rw [HE.out, HSt.out, if_neg (by simp)]
          clear HSt
          go_wp2_with fail
          go_roundw
          case rel => exact ⟨j + 1, by omega, by go_num, HF.out, HK6.out⟩
          case measure => simp [intOf]; omega
        · have hp' : ((p1 : Int) == 0) = false := by simp; omega
          have HF : Hid (C = p1) := by
            show _ = _
            rw [HE.out, HSt.out, if_pos hp]
          clear HSt hp
          go_wp2_with fail
          go_ret
          exact ⟨by rw [HF.out]; rfl, K0.out.trans (HK3.out.trans (HK5.out.trans HK6.out))⟩
      · have j1 : ¬ (j : Int) < (N2 : Int) := by omega
        have HF : Hid (C = 0) := by
          show _ = _
          rw [HE.out, List.drop_eq_nil_of_le (by have := HRL.out; omega)]
          rfl
        go_wp2_with fail
        go_ret
        exact ⟨by rw [HF.out]; rfl, K0.out.trans (HK3.out.trans (HK5.out.trans HKq.out))⟩

end Go.Proofs.YtenejaghgehnoaaGreatDoor

namespace Go.Proofs.YtenejaghgehnoaaGreatDoor
open Go.RowKit Go.Maps

/-- The cells of the document's shard. -/
def rscell (tv cv lv pv ov : Value) (own frz : Nat → Bool) (i : Nat) : Value :=
  if i = 0 then tv else if i = 1 then cv else if i = 2 then lv else if i = 3 then pv else if i = 4 then ov else if i < 261 then .bool (own (i - 5)) else .bool (frz (i - 261))
set_option maxRecDepth 100000 in
theorem rsh_cells (tv : Value) : Tryz.zeroCells106.setIfInBounds 0 tv = ((List.range 517).map (rscell tv (.slice none 0 0) (.slice none 0 0) (.slice none 0 0) (.slice none 0 0) (fun _ => false) (fun _ => false))).toArray := by
  kernel_rfl
theorem rscell_own {tv cv lv pv ov : Value} {own frz : Nat → Bool} {j : Nat} (hj : j < 256) (b : Bool) (i : Nat) : (if i = 5 + j then .bool b else rscell tv cv lv pv ov own frz i) = rscell tv cv lv pv ov (fun q => if q = j then b else own q) frz i := by
  unfold rscell
  by_cases e : i = 5 + j
  · subst e
    rw [if_pos rfl, if_neg (by omega), if_neg (by omega), if_neg (by omega), if_neg (by omega), if_neg (by omega), if_pos (by omega)]
    dsimp only
    rw [if_pos (by omega)]
  · rw [if_neg e]
    by_cases h0 : i = 0
    · rw [if_pos h0, if_pos h0]
    rw [if_neg h0, if_neg h0]
    by_cases h1 : i = 1
    · rw [if_pos h1, if_pos h1]
    rw [if_neg h1, if_neg h1]
    by_cases h2 : i = 2
    · rw [if_pos h2, if_pos h2]
    rw [if_neg h2, if_neg h2]
    by_cases h3 : i = 3
    · rw [if_pos h3, if_pos h3]
    rw [if_neg h3, if_neg h3]
    by_cases h4 : i = 4
    · rw [if_pos h4, if_pos h4]
    rw [if_neg h4, if_neg h4]
    by_cases h5 : i < 261
    · rw [if_pos h5, if_pos h5]
      dsimp only
      rw [if_neg (by omega)]
    · rw [if_neg h5, if_neg h5]
def ownP (lo hi : Int) (q : Nat) : Bool := decide (lo ≤ (q : Int)) && decide ((q : Int) < hi)
theorem own_next {lo : Int} {i : Nat} (hi : lo ≤ (i : Int)) : (fun q => if q = i then true else ownP lo (i : Int) q) = ownP lo ((i : Int) + 1) := by
  funext q
  unfold ownP
  by_cases e : q = i
  · subst e
    rw [if_pos rfl, decide_eq_true hi, decide_eq_true (by omega)]
    rfl
  · rw [if_neg e]
    by_cases h : (q : Int) < (i : Int)
    · rw [decide_eq_true h, decide_eq_true (p := (q : Int) < (i : Int) + 1) (by omega)]
    · rw [decide_eq_false h, decide_eq_false (p := (q : Int) < (i : Int) + 1) (by omega)]
theorem own_none {lo : Int} : ownP lo lo = fun _ => false := by
  funext q
  unfold ownP
  by_cases h : lo ≤ (q : Int)
  · rw [decide_eq_false (p := (q : Int) < lo) (by omega), Bool.and_false]
  · rw [decide_eq_false h, Bool.false_and]

set_option maxRecDepth 100000 in
set_option maxHeartbeats 8000000 in
theorem rnewS_any {w : World} {tv : Value} {ts : List Ty} (ht : TysV w tv ts) (ok : Tok ts) (hz : ∀ t ∈ ts, Tsz t) {lo hi : Int} (h0 : 0 ≤ lo) (h1 : lo ≤ hi) (h2 : hi ≤ 256) :
    Calls Tryz.prog 19 #[tv, .int .i64 lo, .int .i64 hi] w fun e w' => ∃ R, e = .returned (.tuple #[.pointer (some ⟨R, 0, none⟩), .int .i64 0]) ∧ w.heap.size ≤ R ∧ Af w' R 106 517 (rscell tv (.slice none 0 0) (.slice none 0 0) (.slice none 0 0) (.slice none 0 0) (ownP lo hi) (fun _ => false)) ∧ Kept (fun _ => True) w w' := by
  obtain ⟨ao, cap, rfl, hl, -⟩ := ht.form
  have HT : Hid (TysV w (.slice ao ts.length cap) ts) := ht
  have HOK : Hid (Tok ts) := ok
  have HZ : Hid (∀ t ∈ ts, Tsz t) := hz
  have g4 : ¬ ((4 : Int) < (ts.length : Int)) := by have := ok.few; omega
  have g0 : ¬ (lo < 0) := by omega
  have g1 : ¬ (hi < lo) := by omega
  have g2 : ¬ ((256 : Int) < hi) := by omega
  clear ht ok hz
  go_enter Tryz.func19, Tryz.ntmps19
  go_wp2_with fail
  go_loopw [8, 9] (fun ti _ wr => ∃ i : Nat, i ≤ ts.length ∧ ti = .int .i64 i ∧ Kept (fun _ => True) w wr) (fun ti _ _ => ts.length - (intOf ti).toNat)
  case atStart => exact ⟨0, Nat.zero_le _, rfl, Kept.refl _ _⟩
  case round =>
    obtain ⟨i, hi', rfl, hk⟩ := hrel
    have HK : Hid (Kept (fun _ => True) w wr) := hk
    by_cases hlt : i < ts.length
    · obtain ⟨b, off, rfl, hb, a1, n1, c1, a2, n2, c2, a3, n3, c3, q0, q1, q2, q3, hty⟩ := HT.out.at i hlt
      have HQ0 : Hid _ := q0
      have HBl : Hid (b < w.heap.size) := hb
      rw [← kept_cell hk hb trivial] at q0 q1 q2 q3
      have cr := rright_any (hty.all hk) (HZ.out _ (List.getElem_mem hlt))
      rw [HOK.out.right _ (List.getElem_mem hlt)] at cr
      have i1 : (i : Int) < (ts.length : Int) := by omega
      have i0 : (0 : Int) ≤ (i : Int) := by omega
      clear hty hb hk
      go_upto_region 8 with (go_at_call 66; refine Calls.mono cr ?_; rintro e w2 ⟨rfl, k2⟩; have HK2 : Hid (Kept (fun _ => True) w w2) := HK.out.trans k2; clear cr k2)
      clear q0 q1 q2 q3
      go_wp2_with fail
      go_loopw [9] (fun tk wr => ∃ k : Nat, k ≤ i ∧ tk = .int .i64 k ∧ Kept (fun _ => True) w wr) (fun tk _ => i - (intOf tk).toNat)
      case atStart => exact ⟨0, Nat.zero_le _, rfl, HK2.out⟩
      case round =>
        obtain ⟨k, hki, rfl, hk⟩ := hrel
        have HKk : Hid (Kept (fun _ => True) w wr) := hk
        by_cases hlk : k < i
        · have hkt : k < ts.length := by omega
          obtain ⟨b', off', e', hb', _, _, _, _, _, _, _, _, _, p0, _⟩ := HT.out.at k hkt
          cases e'
          have r0 := HQ0.out
          rw [← kept_cell hk hb' trivial] at p0 r0
          have hne : ((ts[k]).name == (ts[i]).name) = false := beq_eq_false_iff_ne.2 (fun e => by
            have := HOK.out.alone
            rw [List.nodup_iff_pairwise_ne, List.pairwise_map, List.pairwise_iff_getElem] at this
            exact this k i hkt hlt hlk e)
          have j1 : (k : Int) < (i : Int) := by omega
          have j2 : (k : Int) < (ts.length : Int) := by omega
          have j0 : (0 : Int) ≤ (k : Int) := by omega
          have P0 := fun W (q : Kept (fun _ => True) wr W) => (kept_cell q (Nat.lt_of_lt_of_le hb' hk.size) trivial).trans p0
          have R0 := fun W (q : Kept (fun _ => True) wr W) => (kept_cell q (Nat.lt_of_lt_of_le hb' hk.size) trivial).trans r0
          generalize (ts[k]).name = nk at *
          generalize (ts[i]).name = ni at *
          have HKd : Hid (Kept (fun _ => True) w wr.drew) := HKk.out.drew
          clear hk p0 r0 hb'
          go_upto_region 11 with fail
          go_region_held3 (fun W => Kept (fun _ => True) wr W) (first | assumption | (repeat (first | exact Kept.refl _ _ | assumption | refine Kept.drew ?_))) (fail)
          go_wp2_with fail
          go_roundw
          case rel => exact ⟨k + 1, by omega, by go_num, HKd.out⟩
          case measure => simp [intOf]; omega
        · obtain rfl : k = i := by omega
          have j1 : ¬ ((k : Int) < (k : Int)) := by omega
          clear hk
          go_wp2_with fail
          go_roundw
          case rel => exact ⟨k + 1, by omega, by go_num, HKk.out⟩
          case measure => simp [intOf]; omega
    · obtain rfl : i = ts.length := by omega
      have i1 : ¬ ((ts.length : Int) < (ts.length : Int)) := by omega
      clear hk
      go_upto_region 14 with fail
      have HKa : Hid (Kept (fun _ => True) w (wr.alloc (.cells (Tryz.zeroCells106.setIfInBounds 0 (.slice ao ts.length cap)) 106))) := HK.out.alloc _
      have HAf : Hid (Af (wr.alloc (.cells (Tryz.zeroCells106.setIfInBounds 0 (.slice ao ts.length cap)) 106)) wr.heap.size 106 517 (rscell (.slice ao ts.length cap) (.slice none 0 0) (.slice none 0 0) (.slice none 0 0) (.slice none 0 0) (ownP lo lo) (fun _ => false))) := by
        unfold Af
        rw [own_none, ← rsh_cells]
        exact heap_alloc_new wr _
      have HLe : Hid (w.heap.size ≤ wr.heap.size) := HK.out.size
      generalize wr.alloc (.cells (Tryz.zeroCells106.setIfInBounds 0 (.slice ao ts.length cap)) 106) = w3 at *
      generalize wr.heap.size = R at *
      go_wp2_with fail
      go_loopw [11] (fun tj wr => ∃ j : Nat, lo ≤ (j : Int) ∧ (j : Int) ≤ hi ∧ tj = .int .i64 (j : Int) ∧ Af wr R 106 517 (rscell (.slice ao ts.length cap) (.slice none 0 0) (.slice none 0 0) (.slice none 0 0) (.slice none 0 0) (ownP lo (j : Int)) (fun _ => false)) ∧ Kept (fun _ => True) w wr) (fun tj _ => (hi - intOf tj).toNat)
      case atStart =>
        refine ⟨lo.toNat, by omega, by omega, by rw [Int.toNat_of_nonneg h0], ?_, HKa.out⟩
        rw [Int.toNat_of_nonneg h0]
        exact HAf.out
      case round =>
        obtain ⟨j, hj1, hj2, rfl, haf, hk⟩ := hrel
        have HAj : Hid _ := haf
        have HKj : Hid (Kept (fun _ => True) w wr) := hk
        by_cases hjl : (j : Int) < hi
        · have hj8 : j < 256 := by omega
          have c1 := haf.cell (i := 5 + j) (by omega)
          have fr := haf.free (5 + j)
          have HS : Hid (Af _ R 106 517 (rscell (.slice ao ts.length cap) (.slice none 0 0) (.slice none 0 0) (.slice none 0 0) (.slice none 0 0) (ownP lo ((j : Int) + 1)) (fun _ => false))) := (haf.set (5 + j) (.bool true)).congr (fun q _ => by rw [rscell_own hj8 true q, own_next hj1])
          have HK2 : Hid (Kept (fun _ => True) w (wr.setCell ⟨R, 5 + j, none⟩ (.bool true))) := hk.setNew HLe.out _
          have e0 : (0 : Int) ≤ (j : Int) := by omega
          have e1 : (j : Int) < 256 := by omega
          have hw : IntKind.i64.wrap ((j : Int) + 1) = (j : Int) + 1 := by simp [IntKind.wrap, IntKind.bits, IntKind.signed]; omega
          clear haf hk
          go_wp2_with fail
          go_roundw
          case rel => exact ⟨j + 1, by omega, by omega, by go_num, by rw [show ((j + 1 : Nat) : Int) = (j : Int) + 1 by omega]; exact HS.out, HK2.out⟩
          case measure => simp [intOf]; omega
        · have HE : Hid ((j : Int) = hi) := by show _ = _; omega
          clear haf hk
          go_wp2_with fail
          go_ret2
          have hs := HAj.out
          rw [HE.out] at hs
          exact ⟨R, rfl, HLe.out, hs, HKj.out⟩

end Go.Proofs.YtenejaghgehnoaaGreatDoor

namespace Go.Proofs.YtenejaghgehnoaaGreatDoor
open Go.RowKit

theorem Av.new {w : World} {g cap : Nat} {xs : List At} {fr : Nat × Nat} (h : w.heap[g]? = some (.cells (arow xs).toArray 88 fr)) (hl : xs.length ≤ 1000) : Av w (.slice (some ⟨g, 0, none⟩) xs.length cap) xs := by
  have hc : ∀ i (_ : i < xs.length) (j : Nat), j < 4 → w.cell? ⟨g, 0 + i * 4 + j, none⟩ = (alay xs[i])[j]? := fun i hi j hj => by
    rw [cell_of_row w g _ _ _ _ h, Nat.zero_add]
    have := flat_get alay_len xs i hi j hj
    simpa [arow] using this
  refine ⟨_, _, rfl, by omega, by simp, fun _ => ⟨g, 0, rfl, lt_of_block h, fun i hi => ⟨hc i hi 0 (by omega), hc i hi 1 (by omega), hc i hi 2 (by omega), hc i hi 3 (by omega)⟩⟩⟩
theorem Rv.new {w : World} {g cap : Nat} {xs : List Ru} {fr : Nat × Nat} (h : w.heap[g]? = some (.cells (rrow xs).toArray 90 fr)) (hl : xs.length ≤ 1000) : Rv w (.slice (some ⟨g, 0, none⟩) xs.length cap) xs := by
  have hc : ∀ i (_ : i < xs.length) (j : Nat), j < 2 → w.cell? ⟨g, 0 + i * 2 + j, none⟩ = (rlay xs[i])[j]? := fun i hi j hj => by
    rw [cell_of_row w g _ _ _ _ h, Nat.zero_add]
    have := flat_get rlay_len xs i hi j hj
    simpa [rrow] using this
  refine ⟨_, _, rfl, by omega, by simp, fun _ => ⟨g, 0, rfl, lt_of_block h, fun i hi => ⟨hc i hi 0 (by omega), hc i hi 1 (by omega)⟩⟩⟩

theorem alloc_five (w : World) (a b c d e : Obj) : let W := ((((w.alloc a).alloc b).alloc c).alloc d).alloc e; W.heap[w.heap.size]? = some a ∧ W.heap[w.heap.size + 1]? = some b ∧ W.heap[w.heap.size + 1 + 1]? = some c ∧ W.heap[w.heap.size + 1 + 1 + 1]? = some d ∧ W.heap[w.heap.size + 1 + 1 + 1 + 1]? = some e := by
  obtain ⟨h1, h2, h3, h4⟩ := alloc_four w a b c d
  have e4 : ((((w.alloc a).alloc b).alloc c).alloc d).heap.size = w.heap.size + 1 + 1 + 1 + 1 := by simp
  refine ⟨?_, ?_, ?_, ?_, ?_⟩
  · rw [heap_alloc_old _ _ (by omega)]; exact h1
  · rw [heap_alloc_old _ _ (by omega)]; exact h2
  · rw [heap_alloc_old _ _ (by omega)]; exact h3
  · rw [heap_alloc_old _ _ (by omega)]; exact h4
  · rw [← e4]; exact heap_alloc_new _ e
/-- The book's types. -/
def loan : Ty := ⟨[108, 111, 97, 110], [⟨[115, 117, 109], 5, 0, 100⟩, ⟨[114, 105, 115, 107], 0, -10, 10⟩], [⟨[99, 104, 101, 99, 107], [108, 116, 32, 114, 105, 115, 107, 32, 53]⟩, ⟨[112, 97, 121], [97, 110, 100, 32, 99, 104, 101, 99, 107, 32, 108, 116, 32, 48, 32, 115, 117, 109]⟩],
  [⟨[112, 97, 105, 100], [112, 97, 121]⟩, ⟨[98, 105, 103], [108, 116, 32, 53, 48, 32, 115, 117, 109]⟩, ⟨[98, 111, 116, 104], [97, 110, 100, 32, 112, 97, 105, 100, 32, 98, 105, 103]⟩]⟩
def count : Ty := ⟨[99, 111, 117, 110, 116], [⟨[110], 0, -1000, 1000⟩], [], []⟩
set_option maxRecDepth 100000 in
set_option maxHeartbeats 4000000 in
theorem types_any {w : World} : Calls Tryz.prog 10 #[] w fun e w' => ∃ g a s m b, e = .returned (.slice (some ⟨g, 0, none⟩) 2 2) ∧ w'.heap[g]? = some (.cells #[.string ⟨loan.name.toArray⟩, a, s, m, .string ⟨count.name.toArray⟩, b, .slice none 0 0, .slice none 0 0] 54 (0, 0)) ∧
    TyV w' (.agg #[.string ⟨loan.name.toArray⟩, a, s, m]) loan ∧ TyV w' (.agg #[.string ⟨count.name.toArray⟩, b, .slice none 0 0, .slice none 0 0]) count ∧ Kept (fun _ => True) w w' := by
  go_enter Tryz.func10, Tryz.ntmps10
  go_wp2_with fail
  obtain ⟨h1, h2, h3, h4, h5⟩ := alloc_five w (.cells (arow loan.attrs).toArray 88) (.cells (rrow loan.stages).toArray 90) (.cells (rrow loan.marks).toArray 90) (.cells (arow count.attrs).toArray 88)
    (.cells #[.string ⟨loan.name.toArray⟩, .slice (some ⟨w.heap.size, 0, none⟩) 2 2, .slice (some ⟨w.heap.size + 1, 0, none⟩) 2 2, .slice (some ⟨w.heap.size + 1 + 1, 0, none⟩) 3 3, .string ⟨count.name.toArray⟩, .slice (some ⟨w.heap.size + 1 + 1 + 1, 0, none⟩) 1 1, .slice none 0 0, .slice none 0 0] 54)
  go_ret
  refine ⟨_, _, _, _, _, rfl, h5, ⟨_, _, _, rfl, Av.new (xs := loan.attrs) h1 (by decide), Rv.new (xs := loan.stages) h2 (by decide), Rv.new (xs := loan.marks) h3 (by decide)⟩, ⟨_, _, _, rfl, Av.new (xs := count.attrs) h4 (by decide), Rv.nil _, Rv.nil _⟩, ?_⟩
  exact (((((Kept.refl _ w).alloc _).alloc _).alloc _).alloc _).alloc _


end Go.Proofs.YtenejaghgehnoaaGreatDoor

namespace Go.Proofs.YtenejaghgehnoaaGreatDoor
open Go.RowKit Go.Maps

theorem Stq.same {w w' w'' : World} {D C L n m most : Nat} {tv : Value} {ts : List Ty} {f g : List UInt8 → Option Sa} {l : Css} {k : Nat} {o : Oq} (h : Stq w' w'' D C L n m tv most ts f g l k o) (q : Kept (fun _ => True) w w') : Stq w w'' D C L n m tv most ts f g l k o :=
  ⟨(q.mono (fun _ _ _ => trivial)).trans h.kept, h.goes⟩

set_option maxRecDepth 100000 in
set_option maxHeartbeats 8000000 in
theorem step_any {w : World} {D C L n m made most : Nat} {tv : Value} {ts : List Ty} {f g : List UInt8 → Option Sa} {l : Css} {k : Nat} (h : Df w D C L n m tv made most ts f g) (d : Dl f g l k made) (ht : Tok ts) (hc : Cok ts l) (hTab : Tab w) (hm : m ≤ 1000000) (hn : n ≤ 1000000) (hmost : most ≤ 9223372036854775807) (hmade : made ≤ m) {o : Oq} (ho : o.cas.length ≤ 281474976710656) :
    Calls Tryz.prog 154 #[.pointer (some ⟨D, 0, none⟩), opV o] w fun e w' => e = .returned (.tuple #[.string ⟨(stepP ts most l o).2.1.toArray⟩, .int .i64 ((stepP ts most l o).2.2 : Nat)]) ∧ Stq w w' D C L n m tv most ts f g l k o := by
  have hX := heap_alloc_new w (.cells #[.int .i64 o.kind, .string ⟨o.cas.toArray⟩, .string ⟨o.name.toArray⟩, .int .i64 o.n] 61)
  have k0 := (Kept.refl (fun _ => True) w).alloc (.cells #[.int .i64 o.kind, .string ⟨o.cas.toArray⟩, .string ⟨o.name.toArray⟩, .int .i64 o.n] 61)
  have HK0 : Hid _ := k0
  have HX : Hid _ := hX
  have HD : Hid (Df w D C L n m tv made most ts f g) := h
  have HL : Hid (Dl f g l k made) := d
  have HT : Hid (Tok ts) := ht
  have HC : Hid (Cok ts l) := hc
  have HTb : Hid (Tab w) := hTab
  obtain ⟨ao, cap, rfl, _⟩ := h.types.form
  have cf := find_any (x := o.cas) (h.all k0) (by omega)
  rw [← d.same o.cas] at cf
  clear hX k0 h d ht hc hTab
  obtain ⟨q, hq⟩ : ∃ q, (look l o.cas).isSome = q := ⟨_, rfl⟩
  have HQ : Hid _ := hq
  rw [hq] at cf
  clear hq
  have hcr := fun W (q2 : Kept (fun _ => True) w W) (hk : o.kind = 1) => create_any (HD.out.all q2) HL.out HT.out hm hn hmost hmade hk ho
  rw [HQ.out] at hcr
  have HCR : Hid _ := hcr
  clear hcr
  unfold opV
  go_enter Tryz.func154, Tryz.ntmps154
  go_upto_region 1 with fail
  generalize w.alloc (.cells #[.int .i64 o.kind, .string ⟨o.cas.toArray⟩, .string ⟨o.name.toArray⟩, .int .i64 o.n] 61) = w1 at *
  generalize w.heap.size = X at *
  obtain ⟨⟨q0, q1, q2, q3⟩, _⟩ := four_cell HX.out
  go_upto_region 2 with (go_at_call 178; refine Calls.mono cf ?_; rintro e v2 ⟨⟨ty, ⟨a1, n1, c1⟩, ⟨a2, n2, c2⟩, ⟨a3, n3, c3⟩⟩, rfl, hs2, k2⟩; unfold Sr.val Sv.val; have HS2 : Hid (StW v2 ⟨ty, ⟨a1, n1, c1⟩, ⟨a2, n2, c2⟩, ⟨a3, n3, c3⟩⟩ ((look l o.cas).getD Sa.none)) := hs2; have HK2 : Hid (Kept (fun _ => True) w1 v2) := k2; clear cf q0 q1 q2 q3 hs2 k2)
  have ka := (Kept.refl (fun _ => True) v2).alloc (.cells #[.string ⟨ty.toArray⟩, .slice a1 n1 c1, .slice a2 n2 c2, .slice a3 n3 c3] 70)
  have HS3 : Hid (StW _ ⟨ty, ⟨a1, n1, c1⟩, ⟨a2, n2, c2⟩, ⟨a3, n3, c3⟩⟩ ((look l o.cas).getD Sa.none)) := HS2.out.plain ka (Plainly.all _)
  have HB3 : Hid _ := heap_alloc_new v2 (.cells #[.string ⟨ty.toArray⟩, .slice a1 n1 c1, .slice a2 n2 c2, .slice a3 n3 c3] 70)
  have HK3 : Hid _ := HK0.out.trans (HK2.out.trans ka)
  have HX3 : Hid _ := ((HK2.out.trans ka).block _ (lt_of_block HX.out) trivial).trans HX.out
  clear ka HS2 HK2 HX
  generalize v2.alloc (.cells #[.string ⟨ty.toArray⟩, .slice a1 n1 c1, .slice a2 n2 c2, .slice a3 n3 c3] 70) = w3 at *
  generalize v2.heap.size = Y at *
  obtain ⟨⟨q0, q1, q2, q3⟩, _⟩ := four_cell HX3.out
  obtain ⟨⟨p0, p1, p2, p3⟩, _⟩ := four_cell HB3.out
  by_cases hk : o.kind = 1
  · have hk' : (o.kind == 1) = true := by simpa using hk
    have HKD : Hid _ := hk
    have HE : Hid ((stepP ts most l o).2.1 = []) := by
      show _ = _
      unfold stepP
      rw [if_pos hk]
      split
      · rfl
      · cases typ ts o.name with
        | none => rfl
        | some t =>
          unfold madeP
          dsimp only
          split
          · rfl
          · split <;> rfl
    have cc := HCR.out w3 HK3.out hk
    unfold opV at cc
    clear hk p0 p1 p2 p3
    go_wp2_with (go_at_call 179; refine Calls.mono cc ?_; rintro e w4 ⟨rfl, hst⟩; have HST : Hid (Stq w3 w4 D C L n m (.slice ao ts.length cap) most ts f g l k o) := hst; clear cc hst)
    go_ret2
    rw [HE.out]
    exact ⟨rfl, HST.out.same HK3.out⟩
  · have hk' : (o.kind == 1) = false := by simpa using hk
    have HKD : Hid (o.kind ≠ 1) := hk
    clear hk
    cases q with
    | false =>
      have hln : look l o.cas = none := by simpa using HQ.out
      have HE : Hid _ := step_missing (ts := ts) (most := most) HKD.out hln
      clear hln p0 p1 p2 p3
      go_wp2_with fail
      go_ret2
      rw [HE.out]
      exact ⟨rfl, HK3.out.mono (fun _ _ _ => trivial), fun h0 => (by rw [HE.out] at h0; cases h0)⟩
    | true =>
      obtain ⟨s, hs⟩ := Option.isSome_iff_exists.1 HQ.out
      have HSm : Hid (look l o.cas = some s) := hs
      rw [hs] at HS3
      obtain ⟨t, ht, hfit⟩ := HC.out.fits _ (look_mem hs)
      have HE : Hid _ := step_goes (most := most) HKD.out hs ht
      have hg := HT.out.good ht
      have HFit : Hid (Fit t s) := hfit
      have HGood : Hid (Good t) := hg
      obtain rfl : ty = s.type := by
        obtain ⟨va, vd, vg, e, _⟩ := HS3.out.view
        have := congrArg (fun z => match z with | Value.agg a => a.toList | _ => []) e
        simp only [Sr.val, List.cons.injEq, Value.string.injEq, ByteArray.mk.injEq, Option.getD_some] at this
        simpa using this.1
      have C0 := fun W (q : Kept (fun _ => True) w3 W) => (kept_cell q (lt_of_block (HD.out.all HK3.out).self) trivial).trans (five_cell (HD.out.all HK3.out).self).1
      have CS := fun W (q : Kept (fun _ => True) w3 W) => (kept_cell q (lt_of_block HB3.out) trivial).trans p0
      have HCT : Hid (∀ W, Kept (fun _ => True) w3 W → Calls Tryz.prog 120 #[.slice ao ts.length cap, .string ⟨s.type.toArray⟩] W _) := fun W q => typeOf_any ((HD.out.all HK3.out).types.all q) s.type
      clear hs hfit hg p0 p1 p2 p3
      go_upto_region 6 with fail
      clear q0 q1 q2 q3
      go_cut [8, 9] from 29 to 38 (fun tA tB wx => TyR w3 wx ts s.type tA tB)
      case first =>
        clear HCR HE HD HL HT HC HTb HK0 HX3 HB3 HK3 HS3 HSm HFit HGood HKD hk' ht
        go_region_held3 (fun W => Kept (fun _ => True) w3 W) (first | assumption | (repeat (first | exact Kept.refl _ _ | assumption | refine Kept.drew ?_ | refine Kept.alloc ?_ _ | refine Kept.setNew ?_ (by first | exact Nat.le_refl _ | omega) _))) (first
          | (go_at_call 120; refine Calls.mono (HCT.out _ (by first | assumption | (repeat (first | exact Kept.refl _ _ | assumption | refine Kept.drew ?_ | refine Kept.alloc ?_ _ | refine Kept.setNew ?_ (by first | exact Nat.le_refl _ | omega) _)))) ?_; rintro e v5 ⟨b1, m1, d1, b2, m2, d2, b3, m3, d3, rfl, hty, m5⟩; have HY5 : Hid (TyV v5 (.agg #[.string ⟨((typ ts s.type).getD Ty.none).name.toArray⟩, .slice b1 m1 d1, .slice b2 m2 d2, .slice b3 m3 d3]) ((typ ts s.type).getD Ty.none)) := hty; have p5 : Kept (fun _ => True) w3 v5 := Kept.trans (by first | assumption | (repeat (first | exact Kept.refl _ _ | assumption | refine Kept.drew ?_ | refine Kept.alloc ?_ _ | refine Kept.setNew ?_ (by first | exact Nat.le_refl _ | omega) _))) m5; first | (have hz5 := (m5.block w3.heap.size (by simp) trivial).trans (heap_alloc_new w3.drew _); obtain ⟨⟨r0, r1, r2, r3⟩, e0, e1, e2, e3⟩ := four_cell hz5) | skip; clear m5 hty))
        all_goals
          go_wp2_with fail
          go_meet
          first
            | (with_reducible exact TyR.late p5 HY5.out)
            | exact TyR.early p5 HY5.out hz5 (Nat.le_refl _)
      case rest =>
        obtain ⟨G, b1, m1, d1, b2, m2, d2, b3, m3, d3, rfl, rfl, hG, hty, kx⟩ := hcut
        rw [ht] at hG hty
        simp only [Option.getD_some] at hG hty ⊢
        have HTY : Hid (TyV wc (.agg #[.string ⟨t.name.toArray⟩, .slice b1 m1 d1, .slice b2 m2 d2, .slice b3 m3 d3]) t) := hty
        have HKw : Hid (Kept (fun _ => True) w wc) := HK3.out.trans kx
        have hX4 := (kx.block _ (lt_of_block HX3.out) trivial).trans HX3.out
        have hB4 := (kx.block _ (lt_of_block HB3.out) trivial).trans HB3.out
        have HX4 : Hid _ := hX4
        have HD4 : Hid (Df wc D C L n m (.slice ao ts.length cap) made most ts f g) := HD.out.all HKw.out
        have hst4 : StV wc (.agg #[.string ⟨s.type.toArray⟩, .slice a1 n1 c1, .slice a2 n2 c2, .slice a3 n3 c3]) s := (HS3.out.plain kx (Plainly.all _)).view
        have ca := apply_any HTY.out hst4 HGood.out HFit.out (HTb.out.all HKw.out) o
        unfold opV at ca
        obtain ⟨⟨q0, q1, q2, q3⟩, _⟩ := four_cell hX4
        obtain ⟨⟨p0, p1, p2, p3⟩, _⟩ := four_cell hB4
        obtain ⟨⟨g0, g1, g2, g3⟩, _⟩ := four_cell hG
        clear hG hty kx hX4 hB4 hst4 C0 CS ht HX3 HB3 HK3 HS3
        obtain ⟨r, hr⟩ : ∃ r, applyP t s o = r := ⟨_, rfl⟩
        rw [hr] at ca HE
        have HR : Hid (applyP t s o = r) := hr
        clear hr
        go_upto_region 8 with (go_at_call 180; refine Calls.mono ca ?_; rintro e v5 ⟨v, rfl, hso, k5⟩; have HSO : Hid (StO v5 wc.heap.size v r.1) := hso; have HK5 : Hid (Kept (fun _ => True) wc v5) := k5; obtain ⟨va, vd, vg, rfl, so⟩ := hso; obtain ⟨e1, f1, e2, f2, e3, f3, rfl, rfl, rfl⟩ := so.shapes; clear ca so k5)
        have ka := (Kept.refl (fun _ => True) v5).alloc (.cells #[.string ⟨r.1.type.toArray⟩, .slice e1 r.1.vals.length f1, .slice e2 r.1.done.length f2, .slice e3 r.1.got.length f3] 70)
        have HB6 : Hid _ := heap_alloc_new v5 (.cells #[.string ⟨r.1.type.toArray⟩, .slice e1 r.1.vals.length f1, .slice e2 r.1.done.length f2, .slice e3 r.1.got.length f3] 70)
        have HX6 : Hid _ := ((HK5.out.trans ka).block _ (lt_of_block HX4.out) trivial).trans HX4.out
        have HD6 : Hid (Df _ D C L n m (.slice ao ts.length cap) made most ts f g) := HD4.out.all (HK5.out.trans ka)
        have HK6 : Hid _ := HKw.out.trans (HK5.out.trans ka)
        have HSO6 : Hid (StO _ wc.heap.size _ r.1) := HSO.out.all ka
        clear ka HSO HK5 HX4 HD4 q0 q1 q2 q3 p0 p1 p2 p3 g0 g1 g2 g3
        generalize v5.alloc (.cells #[.string ⟨r.1.type.toArray⟩, .slice e1 r.1.vals.length f1, .slice e2 r.1.done.length f2, .slice e3 r.1.got.length f3] 70) = w6 at *
        generalize v5.heap.size = Z at *
        by_cases h0 : r.2.2 = 0
        · have h0' : (((r.2.2 : Nat) : Int) != 0) = false := by simp [h0]
          have HE2 : Hid (doneP l o r = (putL l o.cas r.1, r.2.1, 0)) := by
            show _ = _
            unfold doneP
            rw [if_pos h0]
          have hfit2 : Fit t r.1 := by
            rw [← HR.out]
            exact HFit.out.apply o (by rw [HR.out]; exact h0)
          obtain ⟨rr, hrr, hW⟩ := HSO6.out.typed (hfit2.few HGood.out)
          obtain ⟨es, clock, hLm⟩ := HD6.out.left.isMap
          have hne : ∀ {b : Nat} {cs : Array Value} {ty : TypeId} {fr : Nat × Nat}, w6.heap[b]? = some (.cells cs ty fr) → b ≠ L := fun hb e => by
            rw [e, hLm] at hb
            cases hb
          have kd := (Kept.refl (fun _ => True) w6).drew
          obtain ⟨w7, hst, hm7, k7, z7⟩ := (HD6.out.left.all kd).store (x := o.cas) (by omega) hm (hW.plain kd (Plainly.all _))
          rw [← hrr] at hst
          have HM7 : Hid (Cmap w7 L (m + 1) (putM g o.cas r.1)) := hm7
          have HK7 : Hid (Kept (· ≠ L) w6 w7) := (kd.mono (fun _ _ _ => trivial)).trans k7
          have s7 : Kept (· ≠ L) w6 w7 := HK7.out
          obtain ⟨⟨q0, q1, q2, q3⟩, _⟩ := four_cell HX6.out
          obtain ⟨⟨p0, p1, p2, p3⟩, _⟩ := four_cell HB6.out
          obtain ⟨y0, y1, y2, y3, y4⟩ := five_cell HD6.out.self
          have CX := fun W (q : Kept (· ≠ L) w6 W) => (kept_cell q (lt_of_block HX6.out) (hne HX6.out)).trans q1
          have CB0 := fun W (q : Kept (· ≠ L) w6 W) => (kept_cell q (lt_of_block HB6.out) (hne HB6.out)).trans p0
          have CB1 := fun W (q : Kept (· ≠ L) w6 W) => (kept_cell q (lt_of_block HB6.out) (hne HB6.out)).trans p1
          have CB2 := fun W (q : Kept (· ≠ L) w6 W) => (kept_cell q (lt_of_block HB6.out) (hne HB6.out)).trans p2
          have CB3 := fun W (q : Kept (· ≠ L) w6 W) => (kept_cell q (lt_of_block HB6.out) (hne HB6.out)).trans p3
          have CD := fun W (q : Kept (· ≠ L) w6 W) => (kept_cell q (lt_of_block HD6.out.self) (hne HD6.out.self)).trans y2
          have HH0 : Hid _ := h0
          clear q0 q1 q2 q3 p0 p1 p2 p3 y0 y1 y2 y3 y4 hLm hne hfit2 hrr hW hm7 k7 z7 kd h0
          go_upto_region 10 with fail
          go_region_held3 (fun W => Kept (· ≠ L) w6 W) (first | assumption | (repeat (first | exact Kept.refl _ _ | assumption | refine Kept.drew ?_ | refine Kept.alloc ?_ _))) (fail)
          have HD7 : Hid (Df w7 D C L n (m + 1) (.slice ao ts.length cap) made most ts f (putM g o.cas r.1)) := HD6.out.more HK7.out HM7.out
          clear CX CB0 CB1 CB2 CB3 CD hst s7
          go_wp2_with fail
          go_ret2
          rw [HE.out, HE2.out]
          refine ⟨rfl, ⟨(HK6.out.mono (fun _ _ _ => trivial)).trans (HK7.out.mono (fun _ _ q => q.1)), fun _ => ?_⟩⟩
          rw [HE.out, HE2.out]
          exact ⟨_, made, HD7.out, HL.out.turned (by rw [HSm.out]; simp) _, fun x => putM_dom g o.cas _ x, by omega⟩
        · have h0' : (((r.2.2 : Nat) : Int) != 0) = true := by simpa using h0
          have HE2 : Hid (doneP l o r = ([], [], r.2.2)) := by
            show _ = _
            unfold doneP
            rw [if_neg h0]
          have HH0 : Hid _ := h0
          clear h0
          go_wp2_with fail
          go_ret2
          rw [HE.out, HE2.out]
          exact ⟨rfl, HK6.out.mono (fun _ _ _ => trivial), fun h0 => (by rw [HE.out, HE2.out] at h0; exact absurd h0 HH0.out)⟩

end Go.Proofs.YtenejaghgehnoaaGreatDoor
