/-
  New: the program's.
-/
import Derived.Test.YtebpkhemkdgbjaaM2
namespace Go.Proofs.Ytebpkhemkdgbjaa
open Go.RowKit

theorem results_cm {fn : Func} {p u : Nat} {ty : TypeId} (h : fn.results = #[.cell p ty, .tmp u]) (tmps : Array Value) (w : World) {g : Nat} {v : Value} (hp : tmps.getD p undef = .pointer (some ⟨g, 0, none⟩)) (hl : (loadVar ty ⟨g, 0, none⟩).run Try.prog w = .ok v w) :
    (results fn tmps).run Try.prog w = .ok (.tuple #[v, tmps.getD u undef]) w := by
  have hp' : tmps[p]?.getD undef = .pointer (some ⟨g, 0, none⟩) := by simpa using hp
  simp [results, h, hp', asAddr, hl]
theorem Try.sizeMap : (Try.prog.info? 24).map (·.size) = some 2 := by kernel_rfl
theorem load_map {w : World} {g : Nat} {x y : Value} {t : TypeId} {fr : Nat × Nat} (hg : w.heap[g]? = some (.cells #[x, y] t fr)) : (loadVar 24 ⟨g, 0, none⟩).run Try.prog w = .ok (.agg #[x, y]) w :=
  run_loadVar_row w g t 24 #[x, y] fr _ hg Try.underlying24 rfl Try.sizeMap
theorem mset_at {w : World} {b : Nat} {cs : Array Value} {t : TypeId} {fr : Nat × Nat} (h : w.heap[b]? = some (.cells cs t fr)) (k : Nat) (u : Value) : (w.setCell ⟨b, k, none⟩ u).heap[b]? = some (.cells (cs.setIfInBounds k u) t fr) := by
  have hlt := lt_of_block h
  have h' : w.heap[b] = .cells cs t fr := by simpa [Array.getElem?_eq_getElem hlt] using h
  show (w.heap.modify b _)[b]? = _
  rw [Array.getElem?_eq_getElem (by simpa using hlt), Array.getElem_modify_self, h']
  rfl
theorem Kept.setFresh {p : Nat → Prop} {a w : World} (h : Kept p a w) {ad : Addr} (hp : a.heap.size ≤ ad.block) (u : Value) : Kept p a (w.setCell ad u) :=
  ⟨h.os, h.tape, h.output, by simpa [World.setCell] using h.size, fun k hk hpk => (Below.heap_setCell _ _ _ _ (by omega)).trans (h.block k hk hpk)⟩

/-- The parts of New. -/
def newJ (n : Nat) : Nat → List Pa
  | 0 => []
  | i + 1 => jn (newJ n i) ⟨256 * (i : Int) / n, 256 * ((i : Int) + 1) / n, i⟩
def newP (n : Nat) : List Pa := newJ n n
theorem newJ_most (n : Nat) : ∀ i, (newJ n i).length ≤ i
  | 0 => by simp [newJ]
  | i + 1 => by
    have := newJ_most n i
    have := jn_most (newJ n i) ⟨256 * (i : Int) / n, 256 * ((i : Int) + 1) / n, i⟩
    rw [newJ]
    omega

set_option maxRecDepth 100000 in
set_option maxHeartbeats 1000000 in
theorem new_bad {w : World} (n : Int) (h : n < 1 ∨ 3 < n) : Calls Try.prog 8 #[.int .i64 n] w fun e w' => e = .returned (.tuple #[.agg #[.int .i64 0, .slice none 0 0], .int .i64 1]) ∧ Kept (fun _ => True) w w' := by
  have hX := heap_alloc_new w (.cells #[.int .i64 0, .slice none 0 0] 24)
  have kX : Kept (fun _ => True) w (w.alloc (.cells #[.int .i64 0, .slice none 0 0] 24)) := (Kept.refl _ _).alloc _
  rcases h with h | h
  · go_enter Try.func8, Try.ntmps8
    go_wp2_with fail
    exact bodyPost_ret (results_cm rfl _ _ rfl (load_map hX)) rfl ⟨rfl, kX⟩
  · have h1 : 1 ≤ n := by omega
    go_enter Try.func8, Try.ntmps8
    go_wp2_with fail
    exact bodyPost_ret (results_cm rfl _ _ rfl (load_map hX)) rfl ⟨rfl, kX⟩

set_option maxRecDepth 100000 in
set_option maxHeartbeats 1000000 in
theorem new_any {w : World} (n : Nat) (h1 : 1 ≤ n) (h3 : n ≤ 3) :
    Calls Try.prog 8 #[.int .i64 n] w fun e w' => ∃ ao cap, e = .returned (.tuple #[.agg #[.int .i64 1, .slice ao (newP n).length cap], .int .i64 0]) ∧ Po 79 w' w.heap.size (.slice ao (newP n).length cap) (newP n) ∧ Kept (fun _ => True) w w' := by
  have hX := heap_alloc_new w (.cells #[.int .i64 0, .slice none 0 0] 24)
  have kX : Kept (fun _ => True) w (w.alloc (.cells #[.int .i64 0, .slice none 0 0] 24)) := (Kept.refl _ _).alloc _
  have HX : Hid ((w.alloc (.cells #[.int .i64 0, .slice none 0 0] 24)).heap[w.heap.size]? = some (.cells #[.int .i64 0, .slice none 0 0] 24 (0, 0))) := hX
  have KX : Hid (Kept (fun _ => True) w (w.alloc (.cells #[.int .i64 0, .slice none 0 0] 24))) := kX
  clear hX kX
  have g1 : (1 : Int) ≤ (n : Int) := by omega
  have g3 : (n : Int) ≤ 3 := by omega
  have gz : ((n : Int) == 0) = false := by simp; omega
  go_enter Try.func8, Try.ntmps8
  go_wp2_with fail
  go_loopw [14, 4] (fun t u wr => ∃ (i : Nat), i ≤ n ∧ t = .int .i64 i ∧ Po 79 wr (w.heap.size) u (newJ n i) ∧ wr.heap[w.heap.size]? = some (.cells #[.int .i64 0, .slice none 0 0] 24 (0, 0)) ∧ Kept (fun _ => True) w wr) (fun t _ _ => n - (intOf t).toNat)
  case atStart => exact ⟨0, Nat.zero_le _, rfl, Po.nil _ _ _, HX.out, KX.out⟩
  case round =>
    obtain ⟨i, hi, rfl, ho, hb, hk⟩ := hrel
    have hne := ho.ne hb (by decide)
    clear HX KX
    by_cases hlt : i < n
    · have hm := newJ_most n i
      have cj := fun W (q : Kept (fun _ => True) wr W) => join_to (ho.all q) (Nat.le_trans hk.size q.size) (by omega) (256 * (i : Int) / n) (256 * ((i : Int) + 1) / n) i
      have HB : Hid _ := hb
      have HK : Hid _ := hk
      have HO : Hid (Po _ _ _ _ _) := ho
      have HNe : Hid _ := hne
      clear hb hk ho hne
      have i0 : (0 : Int) ≤ (i : Int) := by omega
      have i1 : (i : Int) < (n : Int) := by omega
      have e0 : IntKind.i64.wrap ((256 * (i : Int)).tdiv (n : Int)) = 256 * (i : Int) / n := by
        rw [Int.tdiv_eq_ediv_of_nonneg (by omega)]
        have a1 : (256 * (i : Int)) / n ≤ 256 * (i : Int) := Int.ediv_le_self _ (by omega)
        have a0 : 0 ≤ (256 * (i : Int)) / n := Int.ediv_nonneg (by omega) (by omega)
        simp [IntKind.wrap, IntKind.bits, IntKind.signed]
        omega
      have e1 : IntKind.i64.wrap ((256 * ((i : Int) + 1)).tdiv (n : Int)) = 256 * ((i : Int) + 1) / n := by
        rw [Int.tdiv_eq_ediv_of_nonneg (by omega)]
        have a1 : (256 * ((i : Int) + 1)) / n ≤ 256 * ((i : Int) + 1) := Int.ediv_le_self _ (by omega)
        have a0 : 0 ≤ (256 * ((i : Int) + 1)) / n := Int.ediv_nonneg (by omega) (by omega)
        simp [IntKind.wrap, IntKind.bits, IntKind.signed]
        omega
      go_wp2_with fail
      go_region_with (go_at_call 34; (with_reducible refine Calls.mono (cj _ ((Kept.refl _ _).drew)) ?_); rintro e w2 ⟨v', rfl, ho2, k2, -⟩; have hb2 := (k2.block _ (lt_of_block HB.out) HNe.out).trans HB.out; have HB2 : Hid _ := hb2; have HO2 : Hid (Po _ _ _ _ _) := ho2; have HK2 : Hid (Kept (fun x => u4.ownBlock ≠ some x) wr w2) := (Kept.refl _ _).drew.trans k2; clear hb2 ho2 k2; clear cj)
      all_goals
        go_wp2_with fail
        go_roundw
        case rel => exact ⟨i + 1, by omega, by go_num, HO2.out, HB2.out, HK.out.then HK2.out (fun x hx _ e => by have := HO.out.ge e; omega)⟩
        case measure => simp [intOf]; omega
    · have hie : i = n := by omega
      subst hie
      obtain ⟨ao, cap, rfl, -⟩ := ho.shape
      have HO : Hid (Po _ _ _ _ _) := ho
      have HB : Hid _ := hb
      have HK : Hid _ := hk
      have f0 : wr.frozen? ⟨w.heap.size, 0, none⟩ = false := by simp [World.frozen?, hb]
      have f1 : wr.frozen? ⟨w.heap.size, 1, none⟩ = false := by simp [World.frozen?, hb]
      obtain ⟨c0, c1⟩ := mtwo_cell hb
      clear hb hk ho
      go_wp2_with fail
      refine bodyPost_ret (results_cm rfl _ _ rfl (load_map (mset_at (mset_at HB.out 0 _) 1 _))) rfl ⟨ao, cap, rfl, ?_, (HK.out.setFresh (Nat.le_refl _) _).setFresh (Nat.le_refl _) _⟩
      exact HO.out.kept (p := (· ≠ w.heap.size)) (((Kept.refl _ _).setCell (by simp) _).setCell (by simp) _) (fun k hk e => hne (e ▸ hk))

end Go.Proofs.Ytebpkhemkdgbjaa
