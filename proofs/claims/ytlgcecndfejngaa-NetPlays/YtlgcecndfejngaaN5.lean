/-
  The program's net: Twice, Drop and Take.
-/
import Derived.Test.YtlgcecndfejngaaN4
namespace Go.Proofs.Ytlgcecndfejngaa
open Go.RowKit

theorem erase_map {ps : List (Ms × Value)} {j : Nat} : (ps.map cell3).eraseIdx j = (ps.eraseIdx j).map cell3 := by
  induction ps generalizing j with
  | nil => simp
  | cons p ps ih => cases j with
    | zero => rfl
    | succ j => simp [List.eraseIdx_cons_succ, ih]

section
variable {w : World} {B : Nat} {F : Nat → Prop} {v : Value} {ps : List (Ms × Value)} {n s : Int}

set_option maxHeartbeats 400000 in
theorem twice_empty (h : Net1 w B F v [] n s) (k : Int) :
    Calls Try.prog 10 #[.pointer (some ⟨B, 0, none⟩), .int .i64 k] w fun r w' => r = .returned (.bool false) ∧ w' = w := by
  have c1 := place_none h.nt k
  clear h
  go_enter Try.func10, Try.ntmps10
  go_wp2_with fail
  refine Calls.mono c1 ?_
  rintro e w ⟨rfl, rfl⟩
  go_wp2
  go_ret
  exact ⟨rfl, rfl⟩

set_option maxHeartbeats 400000 in
theorem twice_full (h : Net1 w B F v ps n s) (hl : 512 ≤ ps.length) (k : Int) (hk : I64 k) :
    Calls Try.prog 10 #[.pointer (some ⟨B, 0, none⟩), .int .i64 k] w fun r w' => r = .returned (.bool false) ∧ w' = w := by
  have c1 := place_any h.nt (by rw [List.length_map]; omega) k hk
  have c3 := full_any h.nt
  rw [List.length_map, show decide (512 ≤ ps.length) = true from decide_eq_true hl] at c3
  clear h
  generalize spot k (ps.map cell3).length = j at *
  go_enter Try.func10, Try.ntmps10
  go_wp2_with fail
  refine Calls.mono c1 ?_
  rintro e _ ⟨rfl, rfl⟩
  go_wp2_with fail
  refine Calls.mono c3 ?_
  rintro e w ⟨rfl, rfl⟩
  go_wp2
  go_ret
  exact ⟨rfl, rfl⟩

set_option maxRecDepth 100000 in
set_option maxHeartbeats 1000000 in
theorem twice_any (h : Net1 w B F v ps n s) (hl : ps.length < 512) (k : Int) (hk : I64 k) {p : Ms × Value} (hp : ps[spot k ps.length]? = some p) :
    Calls Try.prog 10 #[.pointer (some ⟨B, 0, none⟩), .int .i64 k] w fun r w' => r = .returned (.bool true) ∧ ∃ F' v', St1 w w' B F F' v' (ps ++ [p]) n s := by
  have h0 : 0 < ps.length := by cases ps with | nil => simp at hp | cons => simp
  have c1 := place_any h.nt (by rw [List.length_map]; omega) k hk
  have c3 := full_any h.nt
  rw [List.length_map, show decide (512 ≤ ps.length) = false from decide_eq_false (by omega)] at c3
  rw [List.length_map] at c1
  have hj := spot_lt k h0
  generalize spot k ps.length = j at *
  have hlt := h.nt.lt
  have hne := h.nt.ne
  have HR : Hid (w.ownsRow 0 30 3 v ps.length (row (ps.map cell3))) := by have := h.nt.own; rwa [List.length_map] at this
  have hpj : ps[j] = p := by simpa [List.getElem?_eq_getElem hj] using hp
  have hmem : p ∈ ps := hpj ▸ List.getElem_mem hj
  have hbody := h.body _ hmem
  obtain ⟨q0, q1, q2, r0, r1, r2⟩ := three_cell h.nt.self
  obtain ⟨ao, cap, rfl, -, -, hg⟩ := h.nt.shape
  obtain ⟨g, rfl⟩ := hg (by rw [List.length_map]; omega)
  obtain ⟨x0, x1, x2⟩ := row_cells3 h.nt.own j (by rw [List.length_map]; exact hj)
  rw [List.getElem_map, hpj] at x0 x1 x2
  have HN : Hid (Net1 w B F (.slice (some ⟨g, 0, none⟩) (ps.map cell3).length cap) ps n s) := h
  rw [List.length_map] at HN HR hne q1
  obtain ⟨⟨f, t, bs⟩, u⟩ := p
  have hbody' : Body w F bs u := hbody
  obtain ⟨uo, uc, rfl⟩ := shape_any hbody'.own
  have x0' : w.cell? ⟨g, j * 3, none⟩ = some (.int .i64 f) := x0
  have x1' : w.cell? ⟨g, j * 3 + 1, none⟩ = some (.int .i64 t) := x1
  have x2' : w.cell? ⟨g, j * 3 + 2, none⟩ = some (.slice uo bs.length uc) := x2
  have HM : Hid (((⟨f, t, bs⟩ : Ms), Value.slice uo bs.length uc) ∈ ps) := hmem
  have HB : Hid (Body w F bs (.slice uo bs.length uc)) := hbody
  clear x0 x1 x2 hg h hk hp hpj hmem hbody hbody'
  have hj1 : (j : Int) < (ps.length : Int) := by omega
  have hj0 : (0 : Int) ≤ (j : Int) := by omega
  go_enter Try.func10, Try.ntmps10
  go_wp2_with fail
  refine Calls.mono c1 ?_
  rintro e _ ⟨rfl, rfl⟩
  go_wp2_with fail
  refine Calls.mono c3 ?_
  rintro e w ⟨rfl, rfl⟩
  clear c1 c3
  have kd : Hid (Kept (fun _ => True) w w.drew) := (Kept.refl _ _).drewN 1
  go_wp2_with fail
  go_region_law
    (refine step_append_msg Try.underlying34 Try.infoMsg Try.cellsMsg (by decide) ?_ (.tmp 23) (.tmp 31) ?_ (.slice (some ⟨g, 0, none⟩) ps.length cap) ps.length (ps.map cell3) ?_ ?_ ?_ w.heap.size ?_ (cell3 (⟨f, t, bs⟩, .slice uo bs.length uc)) (0, 0) ?_ rfl (by omega) ?_; (with_reducible rfl); (with_reducible rfl); (simp [Act.eval]); simp; exact row_kept HR.out (kd.out.alloc _) (fun _ _ => trivial); (simp [Act.eval]); exact heap_alloc_new w.drew _; intro a3 p3 w3 ho3 hg3 hl3; have hlt3 : B < (w.drew.alloc (.cells #[.int .i64 f, .int .i64 t, .slice uo bs.length uc] 30)).heap.size := Nat.lt_of_lt_of_le hlt (kd.out.alloc _).size; have hc1 : w3.cell? ⟨B, 1, none⟩ = some (.slice (some ⟨g, 0, none⟩) ps.length cap) := (hg3.cell_far _ hlt3 (Ne.symm hne)).trans ((kept_cell (kd.out.alloc _) hlt trivial).trans q1); have hf1 : w3.frozen? ⟨B, 1, none⟩ = false := (hg3.frozen_far _ hlt3 (Ne.symm hne)).trans ((kept_frozen (kd.out.alloc _) hlt trivial).trans r1); clear hlt3; have HG3 : Hid (World.grownBy _ w3 _) := hg3; have HL3 : Hid _ := hl3; clear hg3 hl3)
  all_goals
    (go_wp2
     go_ret
     have st := HN.out.put (p := (⟨f, t, bs⟩, .slice uo bs.length uc)) kd.out rfl rfl ho3 HG3.out HL3.out hl
     have st2 := st.after kd.out
     refine ⟨rfl, _, _, HN.out.more st2 (fun G hG _ => (HB.out.kept st2.kept (HN.out.nt.apart (by decide) (by decide) HB.out.own)).wider hG)⟩)

set_option maxHeartbeats 400000 in
theorem drop_empty (h : Net1 w B F v [] n s) (k : Int) :
    Calls Try.prog 11 #[.pointer (some ⟨B, 0, none⟩), .int .i64 k] w fun r w' => r = .returned (.bool false) ∧ w' = w := by
  have c1 := place_none h.nt k
  clear h
  go_enter Try.func11, Try.ntmps11
  go_wp2_with fail
  refine Calls.mono c1 ?_
  rintro e w ⟨rfl, rfl⟩
  go_wp2
  go_ret
  exact ⟨rfl, rfl⟩

set_option maxHeartbeats 400000 in
theorem remove_net (h : Net1 w B F v ps n s) (j : Nat) (hj : j < ps.length) :
    Calls Try.prog 25 #[.pointer (some ⟨B, 0, none⟩), .int .i64 j] w fun r w' => r = .returned (.tuple #[]) ∧ ∃ v', St1 w w' B F F v' (ps.eraseIdx j) n s := by
  have c := remove_any h.nt j (by rw [List.length_map]; exact hj)
  rw [erase_map] at c
  refine c.mono ?_
  rintro e w' ⟨rfl, v', st, hat⟩
  exact ⟨rfl, v', h.less st hat (fun q hq => List.mem_of_mem_eraseIdx hq)⟩

set_option maxHeartbeats 400000 in
theorem drop_any (h : Net1 w B F v ps n s) (h0 : 0 < ps.length) (k : Int) (hk : I64 k) :
    Calls Try.prog 11 #[.pointer (some ⟨B, 0, none⟩), .int .i64 k] w fun r w' => r = .returned (.bool true) ∧ ∃ v', St1 w w' B F F v' (ps.eraseIdx (spot k ps.length)) n s := by
  have c1 := place_any h.nt (by rw [List.length_map]; omega) k hk
  rw [List.length_map] at c1
  have hj := spot_lt k h0
  generalize spot k ps.length = j at *
  have c2 := remove_net h j hj
  clear h
  go_enter Try.func11, Try.ntmps11
  go_wp2_with fail
  refine Calls.mono c1 ?_
  rintro e _ ⟨rfl, rfl⟩
  go_wp2_with fail
  refine Calls.mono c2 ?_
  rintro e w2 ⟨rfl, v', st⟩
  go_wp2
  go_ret
  exact ⟨rfl, v', st⟩

set_option maxHeartbeats 400000 in
theorem take_empty (h : Net1 w B F v [] n s) (k : Int) :
    Calls Try.prog 12 #[.pointer (some ⟨B, 0, none⟩), .int .i64 k] w fun r w' => r = .returned (.tuple #[.agg #[.int .i64 0, .int .i64 0, .slice none 0 0], .bool false]) ∧ Kept (fun _ => True) w w' := by
  obtain ⟨w0, hw0⟩ : ∃ w0, w0 = w.alloc (.cells #[.int .i64 0, .int .i64 0, .slice none 0 0] 30) := ⟨_, rfl⟩
  have k0 : Kept (fun _ => True) w w0 := by rw [hw0]; exact (Kept.refl _ _).alloc _
  have c1 := place_none (h.nt.kept k0 trivial (fun _ _ => trivial)) k
  have hb : w0.heap[w.heap.size]? = some (.cells #[.int .i64 0, .int .i64 0, .slice none 0 0] 30 (0, 0)) := by rw [hw0]; exact heap_alloc_new w _
  obtain ⟨q0, q1, q2, r0, r1, r2⟩ := three_cell hb
  clear h hb
  go_enter Try.func12, Try.ntmps12
  go_wp2_with fail
  rw [← hw0]
  clear hw0
  refine Calls.mono c1 ?_
  rintro e w0 ⟨rfl, rfl⟩
  go_wp2
  refine bodyPost_ret (v := .tuple #[.agg #[.int .i64 0, .int .i64 0, .slice none 0 0], .bool false]) (by simp [results, Try.results12, go_sem, *]) rfl ⟨rfl, ?_⟩
  exact ((k0.setNew (by simp) _).setNew (by simp) _).setNew (by simp) _

end

end Go.Proofs.Ytlgcecndfejngaa
