/-
  The document's net: at, Send and Twice.
-/
import Derived.Test.YtlgcecndfejngaaN8
namespace Go.Proofs.Ytlgcecndfejngaa
open Go.RowKit

theorem Try.infoRef : (Try.prog.info? 46).map (fun i => (i.zero, i.size, i.bytes)) = some (some (.agg #[.int .i64 0, .int .i64 0, .string ⟨#[]⟩]), 3, 32) := by kernel_rfl
theorem Try.cellsRef : (Value.agg #[.int .i64 0, .int .i64 0, .string ⟨#[]⟩]).cells.size = 3 := by simp [Value.cells]
theorem Try.elemRef : Try.prog.elem 39 = 46 := by kernel_rfl
theorem size_ref (w0 : World) : (sizeOf (Try.prog.elem 39)).run Try.prog w0 = .ok 3 w0 := by
  obtain ⟨i, hi, hz0, hz1, hz2⟩ := info_parts Try.infoRef
  rw [Try.elemRef]
  simp [sizeOf, typeInfo, hi, hz1]

/-- A message as three cells. -/
def rcell (m : Ms) : Int × Int × Value := (m.f, m.t, .string ⟨m.b.toArray⟩)
theorem rcell_one (ms : List Ms) : ∀ x ∈ ms.map rcell, x.2.2.oneCell' = true := by
  intro x hx
  obtain ⟨m, _, rfl⟩ := List.mem_map.1 hx
  rfl

/-- The document's net; all its blocks are of F. -/
structure Net2 (w : World) (B : Nat) (F : Nat → Prop) (v : Value) (ms : List Ms) (n s : Int) : Prop where
  nt : Nt 41 46 w B v (ms.map rcell) n s
  fB : F B
  fv : ∀ x, v.ownBlock = some x → F x
  lt : ∀ x, F x → x < w.heap.size

section
variable {w w' : World} {B : Nat} {F F' : Nat → Prop} {v v' : Value} {ms : List Ms} {n s : Int}

theorem Net2.kept {p : Nat → Prop} (h : Net2 w B F v ms n s) (k : Kept p w w') (hp : ∀ x, F x → p x) : Net2 w' B F v ms n s :=
  ⟨h.nt.kept k (hp B h.fB) (fun x hx => hp x (h.fv x hx)), h.fB, h.fv, fun x hx => Nat.lt_of_lt_of_le (h.lt x hx) k.size⟩

structure St2 (w w' : World) (B : Nat) (F F' : Nat → Prop) (v : Value) (ms : List Ms) (n s : Int) : Prop where
  now : Net2 w' B F' v ms n s
  kept : Kept (fun x => ¬ F x) w w'
  new : ∀ x, F' x → F x ∨ w.heap.size ≤ x

/-- Behind a step of the net in memory. -/
theorem Net2.step {ms' : List Ms} {n' s' : Int} (h : Net2 w B F v ms n s) (k : NStep 41 46 w w' B v v' (ms'.map rcell) n' s') :
    St2 w w' B F (fun x => F x ∨ (w.heap.size ≤ x ∧ x < w'.heap.size)) v' ms' n' s' := by
  refine ⟨⟨k.now, .inl h.fB, fun x hx => ?_, fun x hx => ?_⟩, k.kept.mono (fun x _ hx => ⟨fun q => hx (q ▸ h.fB), fun q => hx (h.fv x q)⟩), fun x hx => hx.imp id And.left⟩
  · rcases k.new x hx with q | q
    · exact .inl (h.fv x q)
    · exact .inr ⟨q, k.now.rowlt x hx⟩
  · rcases hx with hx | hx
    · exact Nat.lt_of_lt_of_le (h.lt x hx) k.kept.size
    · exact hx.2

set_option maxHeartbeats 400000 in
theorem rat_none {t e : TypeId} {n s : Int} (h : Nt t e w B v [] n s) (k : Int) :
    Calls Try.prog 26 #[.pointer (some ⟨B, 0, none⟩), .int .i64 k] w fun r w' => r = .returned (.int .i64 (-1)) ∧ w' = w := by
  obtain ⟨c0, c1, c2, f0, f1, f2⟩ := three_cell h.self
  obtain ⟨ao, cap, rfl, -, -, -⟩ := h.shape
  simp only [List.length_nil] at c1
  clear h
  go_enter Try.func26, Try.ntmps26
  go_wp2
  go_ret
  exact ⟨rfl, rfl⟩

set_option maxHeartbeats 400000 in
theorem rat_any {t e : TypeId} {xs : List (Int × Int × Value)} {n s : Int} (h : Nt t e w B v xs n s) (h0 : 0 < xs.length) (k : Int) (hk : I64 k) :
    Calls Try.prog 26 #[.pointer (some ⟨B, 0, none⟩), .int .i64 k] w fun r w' => r = .returned (.int .i64 (spot k xs.length : Nat)) ∧ w' = w := by
  obtain ⟨c0, c1, c2, f0, f1, f2⟩ := three_cell h.self
  obtain ⟨ao, cap, rfl, -, -, -⟩ := h.shape
  have hm := h.most
  clear h
  obtain ⟨k1, k2⟩ := hk
  have g0 : ¬ ((xs.length : Int) = 0) := by omega
  obtain ⟨p, hp⟩ : ∃ p, p = spot k xs.length := ⟨_, rfl⟩
  rw [← hp]
  unfold spot at hp
  by_cases hn : k < 0
  · rw [if_pos hn] at hp
    have w1 : IntKind.i64.wrap (k + 1) = k + 1 := by simp [IntKind.wrap, IntKind.bits, IntKind.signed]; omega
    have w2 : IntKind.i64.wrap (-(k + 1)) = -(k + 1) := by simp [IntKind.wrap, IntKind.bits, IntKind.signed]; omega
    obtain ⟨m, hm2⟩ : ∃ m : Nat, -(k + 1) = (m : Int) := ⟨(-(k + 1)).toNat, by omega⟩
    rw [hm2, Int.toNat_natCast] at hp
    have hr : Int.tmod (-(k + 1)) (xs.length : Int) = (p : Int) := by rw [hm2, hp]; exact Int.ofNat_tmod m xs.length
    have w3 : IntKind.i64.wrap (p : Int) = (p : Int) := by
      have : p < xs.length := by rw [hp]; exact Nat.mod_lt _ h0
      simp [IntKind.wrap, IntKind.bits, IntKind.signed]; omega
    clear hm2 hp
    go_enter Try.func26, Try.ntmps26
    go_wp2
    go_ret
    exact ⟨rfl, rfl⟩
  · rw [if_neg hn] at hp
    obtain ⟨m, rfl⟩ : ∃ m : Nat, k = (m : Int) := ⟨k.toNat, by omega⟩
    rw [Int.toNat_natCast] at hp
    have hr : Int.tmod (m : Int) (xs.length : Int) = (p : Int) := by rw [hp]; exact Int.ofNat_tmod m xs.length
    have w3 : IntKind.i64.wrap (p : Int) = (p : Int) := by
      have : p < xs.length := by rw [hp]; exact Nat.mod_lt _ h0
      simp [IntKind.wrap, IntKind.bits, IntKind.signed]; omega
    clear hp
    go_enter Try.func26, Try.ntmps26
    go_wp2
    go_ret
    exact ⟨rfl, rfl⟩

set_option maxHeartbeats 400000 in
theorem rsend_bad (h : Net2 w B F v ms n s) (f t : Int) (hb : ¬ ((0 ≤ f ∧ f < n) ∧ (0 ≤ t ∧ t < n))) (b : ByteArray) :
    Calls Try.prog 16 #[.pointer (some ⟨B, 0, none⟩), .int .i64 f, .int .i64 t, .string b] w fun r w' => r = .returned (.int .i64 1) ∧ w' = w := by
  obtain ⟨c0, c1, c2, f0, f1, f2⟩ := three_cell h.nt.self
  clear h
  have hc : f < 0 ∨ (¬ f < 0 ∧ n ≤ f) ∨ (¬ f < 0 ∧ ¬ n ≤ f ∧ t < 0) ∨ (¬ f < 0 ∧ ¬ n ≤ f ∧ ¬ t < 0 ∧ n ≤ t) := by omega
  clear hb
  rcases hc with g1 | ⟨g1, g2⟩ | ⟨g1, g2, g3⟩ | ⟨g1, g2, g3, g4⟩
  all_goals
    go_enter Try.func16, Try.ntmps16
    go_wp2
    go_ret
    exact ⟨rfl, rfl⟩

set_option maxHeartbeats 400000 in
theorem rsend_full (h : Net2 w B F v ms n s) (f t : Int) (h1 : 0 ≤ f ∧ f < n) (h2 : 0 ≤ t ∧ t < n) (hl : 512 ≤ ms.length) (b : ByteArray) :
    Calls Try.prog 16 #[.pointer (some ⟨B, 0, none⟩), .int .i64 f, .int .i64 t, .string b] w fun r w' => r = .returned (.int .i64 13) ∧ w' = w := by
  obtain ⟨c0, c1, c2, f0, f1, f2⟩ := three_cell h.nt.self
  obtain ⟨ao, cap, rfl, -, -, -⟩ := h.nt.shape
  rw [List.length_map] at c1
  clear h
  have g1 : ¬ f < 0 := by omega
  have g2 : ¬ n ≤ f := by omega
  have g3 : ¬ t < 0 := by omega
  have g4 : ¬ n ≤ t := by omega
  have g5 : (512 : Int) ≤ (ms.length : Int) := by omega
  clear h1 h2
  go_enter Try.func16, Try.ntmps16
  go_wp2
  go_ret
  exact ⟨rfl, rfl⟩

/-- One message more, in a row that was appended to. -/
theorem Net2.put {w w2 w3 : World} {B : Nat} {F : Nat → Prop} {v nv : Value} {ms : List Ms} {n s : Int} {p : Ms} {o : Obj} {m : Nat} (h : Net2 w B F v ms n s) (k02 : Kept (fun _ => True) w w2) (hm : m = ms.length + 1) (ho3 : w3.ownsRow 0 46 3 nv m (row (ms.map rcell) ++ row [rcell p])) (hg3 : (w2.alloc o).grownBy w3 v.ownBlock) (hat : nv.ownBlock = v.ownBlock ∨ nv.ownBlock = some (w2.alloc o).heap.size) (hl : ms.length < 512) :
    NStep 41 46 w (w3.setCell ⟨B, 1, none⟩ nv) B v nv ((ms ++ [p]).map rcell) n s := by
  have e : (ms ++ [p]).map rcell = ms.map rcell ++ [rcell p] := by simp
  rw [e]
  exact ((h.nt.kept k02 trivial (fun _ _ => trivial)).grow ((Kept.refl _ _).alloc o) (by simpa using hm) (by omega) rfl ho3 hg3 hat).after k02

set_option maxRecDepth 100000 in
set_option maxHeartbeats 1000000 in
theorem rsend_any (h : Net2 w B F v ms n s) (f t : Int) (h1 : 0 ≤ f ∧ f < n) (h2 : 0 ≤ t ∧ t < n) (hl : ms.length < 512) (hs : IntKind.i64.wrap (s + 1) = s + 1) (bs : List UInt8) :
    Calls Try.prog 16 #[.pointer (some ⟨B, 0, none⟩), .int .i64 f, .int .i64 t, .string ⟨bs.toArray⟩] w fun r w' => r = .returned (.int .i64 0) ∧ ∃ F' v', St2 w w' B F F' v' (ms ++ [⟨f, t, bs⟩]) n (s + 1) := by
  obtain ⟨c0, c1, c2, f0, f1, f2⟩ := three_cell h.nt.self
  obtain ⟨ao, cap, rfl, -, -, -⟩ := h.nt.shape
  have hlt := h.nt.lt
  have hne := h.nt.ne
  have HN : Hid (Net2 w B F (.slice ao (ms.map rcell).length cap) ms n s) := h
  have HR : Hid (w.ownsRow 0 46 3 (.slice ao (ms.map rcell).length cap) (ms.map rcell).length (row (ms.map rcell))) := h.nt.own
  rw [List.length_map] at c1 HN HR hne
  clear h
  have g1 : ¬ f < 0 := by omega
  have g2 : ¬ n ≤ f := by omega
  have g3 : ¬ t < 0 := by omega
  have g4 : ¬ n ≤ t := by omega
  have g5 : ¬ ((512 : Int) ≤ (ms.length : Int)) := by omega
  clear h1 h2
  go_enter Try.func16, Try.ntmps16
  go_wp2_with (at_builtin; refine wpList_append_msg Try.underlying39 Try.infoRef Try.cellsRef (by decide) rfl (.tmp 41) (.tmp 46) rfl (.slice ao ms.length cap) ms.length (ms.map rcell) rfl (by simp) (HR.out.alloc _) w.heap.size rfl (rcell ⟨f, t, bs⟩) (0, 0) (heap_alloc_new w _) rfl (by omega) ?_; intro a3 p3 w3 ho3 hg3 hl3; have hlt3 : B < (w.alloc (.cells #[.int .i64 f, .int .i64 t, .string ⟨bs.toArray⟩] 46)).heap.size := Nat.lt_of_lt_of_le hlt (((Kept.refl (fun _ => True) w).alloc _)).size; have hc1 : w3.cell? ⟨B, 1, none⟩ = some (.slice ao ms.length cap) := (hg3.cell_far _ hlt3 (Ne.symm hne)).trans ((kept_cell ((Kept.refl (fun _ => True) w).alloc _) hlt trivial).trans c1); have hf1 : w3.frozen? ⟨B, 1, none⟩ = false := (hg3.frozen_far _ hlt3 (Ne.symm hne)).trans ((kept_frozen ((Kept.refl (fun _ => True) w).alloc _) hlt trivial).trans f1); have hc2 : w3.cell? ⟨B, 2, none⟩ = some (.int .i64 s) := (hg3.cell_far _ hlt3 (Ne.symm hne)).trans ((kept_cell ((Kept.refl (fun _ => True) w).alloc _) hlt trivial).trans c2); have hf2 : w3.frozen? ⟨B, 2, none⟩ = false := (hg3.frozen_far _ hlt3 (Ne.symm hne)).trans ((kept_frozen ((Kept.refl (fun _ => True) w).alloc _) hlt trivial).trans f2); clear hlt3; have HG3 : Hid (World.grownBy _ w3 _) := hg3; have HL3 : Hid _ := hl3; clear hg3 hl3)
  go_ret
  have st := HN.out.put (p := ⟨f, t, bs⟩) (Kept.refl _ _) rfl ho3 HG3.out HL3.out hl
  exact ⟨rfl, _, _, HN.out.step (st.trans (st.now.count (s + 1)))⟩

set_option maxHeartbeats 400000 in
theorem rtwice_empty (h : Net2 w B F v [] n s) (k : Int) :
    Calls Try.prog 20 #[.pointer (some ⟨B, 0, none⟩), .int .i64 k] w fun r w' => r = .returned (.bool false) ∧ w' = w := by
  have c1 := rat_none h.nt k
  clear h
  go_enter Try.func20, Try.ntmps20
  go_wp2_with fail
  refine Calls.mono c1 ?_
  rintro e w ⟨rfl, rfl⟩
  go_wp2
  go_ret
  exact ⟨rfl, rfl⟩

set_option maxRecDepth 100000 in
set_option maxHeartbeats 1000000 in
theorem rtwice_any (h : Net2 w B F v ms n s) (hl : ms.length < 512) (k : Int) (hk : I64 k) {p : Ms} (hp : ms[spot k ms.length]? = some p) :
    Calls Try.prog 20 #[.pointer (some ⟨B, 0, none⟩), .int .i64 k] w fun r w' => r = .returned (.bool true) ∧ ∃ F' v', St2 w w' B F F' v' (ms ++ [p]) n s := by
  have h0 : 0 < ms.length := by cases ms with | nil => simp at hp | cons => simp
  have c1 := rat_any h.nt (by rw [List.length_map]; omega) k hk
  rw [List.length_map] at c1
  have hj := spot_lt k h0
  generalize spot k ms.length = j at *
  have hlt := h.nt.lt
  have hne := h.nt.ne
  have hpj : ms[j] = p := by simpa [List.getElem?_eq_getElem hj] using hp
  obtain ⟨q0, q1, q2, r0, r1, r2⟩ := three_cell h.nt.self
  obtain ⟨ao, cap, rfl, -, -, hg⟩ := h.nt.shape
  obtain ⟨g, rfl⟩ := hg (by rw [List.length_map]; omega)
  obtain ⟨x0, x1, x2⟩ := row_cells3 h.nt.own j (by rw [List.length_map]; exact hj)
  rw [List.getElem_map, hpj] at x0 x1 x2
  have HN : Hid (Net2 w B F (.slice (some ⟨g, 0, none⟩) (ms.map rcell).length cap) ms n s) := h
  have HR : Hid (w.ownsRow 0 46 3 (.slice (some ⟨g, 0, none⟩) (ms.map rcell).length cap) (ms.map rcell).length (row (ms.map rcell))) := h.nt.own
  rw [List.length_map] at HN HR hne q1
  obtain ⟨f, t, bs⟩ := p
  have x0' : w.cell? ⟨g, j * 3, none⟩ = some (.int .i64 f) := x0
  have x1' : w.cell? ⟨g, j * 3 + 1, none⟩ = some (.int .i64 t) := x1
  have x2' : w.cell? ⟨g, j * 3 + 2, none⟩ = some (.string ⟨bs.toArray⟩) := x2
  clear x0 x1 x2 hg h hk hp hpj
  have hj1 : (j : Int) < (ms.length : Int) := by omega
  have hj0 : (0 : Int) ≤ (j : Int) := by omega
  have hj2 : ¬ ((j : Int) < 0) := by omega
  have g5 : ¬ ((512 : Int) ≤ (ms.length : Int)) := by omega
  go_enter Try.func20, Try.ntmps20
  go_wp2_with fail
  refine Calls.mono c1 ?_
  rintro e w ⟨rfl, rfl⟩
  clear c1
  have kd : Hid (Kept (fun _ => True) w w.drew) := (Kept.refl _ _).drewN 1
  go_wp2_with fail
  go_region_law
    (refine step_append_msg Try.underlying39 Try.infoRef Try.cellsRef (by decide) ?_ (.tmp 23) (.tmp 31) ?_ (.slice (some ⟨g, 0, none⟩) ms.length cap) ms.length (ms.map rcell) ?_ ?_ ?_ w.heap.size ?_ (rcell ⟨f, t, bs⟩) (0, 0) ?_ rfl (by omega) ?_; (with_reducible rfl); (with_reducible rfl); (simp [Act.eval]); simp; exact row_kept HR.out (kd.out.alloc _) (fun _ _ => trivial); (simp [Act.eval]); exact heap_alloc_new w.drew _; intro a3 p3 w3 ho3 hg3 hl3; have hlt3 : B < (w.drew.alloc (.cells #[.int .i64 f, .int .i64 t, .string ⟨bs.toArray⟩] 46)).heap.size := Nat.lt_of_lt_of_le hlt (kd.out.alloc _).size; have hc1 : w3.cell? ⟨B, 1, none⟩ = some (.slice (some ⟨g, 0, none⟩) ms.length cap) := (hg3.cell_far _ hlt3 (Ne.symm hne)).trans ((kept_cell (kd.out.alloc _) hlt trivial).trans q1); have hf1 : w3.frozen? ⟨B, 1, none⟩ = false := (hg3.frozen_far _ hlt3 (Ne.symm hne)).trans ((kept_frozen (kd.out.alloc _) hlt trivial).trans r1); clear hlt3; have HG3 : Hid (World.grownBy _ w3 _) := hg3; have HL3 : Hid _ := hl3; clear hg3 hl3)
  all_goals
    (go_wp2
     go_ret
     exact ⟨rfl, _, _, HN.out.step (HN.out.put (p := ⟨f, t, bs⟩) kd.out rfl ho3 HG3.out HL3.out hl)⟩)

end

end Go.Proofs.Ytlgcecndfejngaa
