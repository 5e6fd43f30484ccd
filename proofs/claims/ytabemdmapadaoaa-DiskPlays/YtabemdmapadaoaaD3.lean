/-
  The document's disk: Append, Sync, Cut and Crash.
-/
import Derived.Test.YtabemdmapadaoaaD2
import Derived.Deep.RegionHeldLaw
namespace Go.Proofs.Ytabemdmapadaoaa
open Go.RowKit

theorem own_zero {w : World} {b n : Nat} {v : Value} {xs : List Value} (h : w.ownsRow b 5 1 v n xs) : w.ownsRow 0 5 1 v n xs := by
  refine ⟨h.1, ?_⟩
  rcases h.2 with h0 | ⟨g, cap, cur, rfl, hb, rest⟩
  · exact .inl h0
  · exact .inr ⟨g, cap, cur, rfl, Nat.zero_le _, rest⟩

/-- The slice is another one, of new memory. -/
theorem Dk.swap {t : TypeId} {w w2 : World} {B : Nat} {v nv : Value} {bs ns : List UInt8} {s : Nat} (h : Dk t w B v bs s) (k : Kept (fun _ => True) w w2) (ho : w2.ownsRow w.heap.size 5 1 nv ns.length (cells ns)) (hs : s ≤ ns.length) (hm : ns.length ≤ 4194304) :
    Step t w (w2.setCell ⟨B, 0, none⟩ nv) B v nv ns s := by
  have hge : ∀ x, nv.ownBlock = some x → w.heap.size ≤ x := fun x hx => (ho.lt x hx).1
  have hne : nv.ownBlock ≠ some B := fun e => by have := hge B e; have := h.lt; omega
  have hs1 : w2.heap[B]? = some (.cells #[v, .int .i64 s] t (0, 0)) := (k.block B h.lt trivial).trans h.self
  exact ⟨⟨(two_set hs1 _).1, ownsRow_setCell_other (own_zero ho) (a := ⟨B, 0, none⟩) hne nv, h.ty, hs, hm⟩, (k.mono (fun _ _ _ => trivial)).setCell (by simp) _, fun x hx => .inr (hge x hx)⟩
/-- The same, and the number of safe bytes is written. -/
theorem Dk.swap2 {t : TypeId} {w w2 : World} {B : Nat} {v nv : Value} {bs ns : List UInt8} {s : Nat} (h : Dk t w B v bs s) (k : Kept (fun _ => True) w w2) (ho : w2.ownsRow w.heap.size 5 1 nv ns.length (cells ns)) (s' : Nat) (hs : s' ≤ ns.length) (hm : ns.length ≤ 4194304) :
    Step t w ((w2.setCell ⟨B, 0, none⟩ nv).setCell ⟨B, 1, none⟩ (.int .i64 s')) B v nv ns s' := by
  have hge : ∀ x, nv.ownBlock = some x → w.heap.size ≤ x := fun x hx => (ho.lt x hx).1
  have hne : nv.ownBlock ≠ some B := fun e => by have := hge B e; have := h.lt; omega
  have hs1 : w2.heap[B]? = some (.cells #[v, .int .i64 s] t (0, 0)) := (k.block B h.lt trivial).trans h.self
  exact ⟨⟨(two_set (two_set hs1 _).1 _).2, ownsRow_setCell_other (ownsRow_setCell_other (own_zero ho) (a := ⟨B, 0, none⟩) hne nv) (a := ⟨B, 1, none⟩) hne _, h.ty, hs, hm⟩, ((k.mono (fun _ _ _ => trivial)).setCell (by simp) _).setCell (by simp) _, fun x hx => .inr (hge x hx)⟩

/-- An append at a step of a region that draws its order. -/
theorem step_append_has {w : World} {ops : Array Oper} {o : Oper} {a : Act} {K : Act → World → Prop} {Q : Exit → Act → World → Prop} {E : Prop} (hgd : o.guard = none) (sl x : Operand)
    (ho : o.op = .call { callee := .builtin .append, args := #[sl, x], argTypes := #[27, 27] })
    (base : Nat) (v : Value) (n : Nat) (xs : List Value) (hs : a.eval sl = v) (hown : w.ownsRow base 5 1 v n xs) (hbase : base ≤ w.heap.size) (ao : Option Addr) (m cap : Nat) (hx : a.eval x = .slice ao m cap) (bs : List UInt8) (hm : bs.length = m) (hn : ao = none → cap = 0) (hh : Has w ao bs) (hb : n + m ≤ 140737488355328)
    (h : ∀ ao' cap' w', w'.ownsRow base 5 1 (.slice ao' (n + m) cap') (n + m) (xs ++ cells bs) → w.grownBy w' v.ownBlock → ((Value.slice ao' (n + m) cap').ownBlock = v.ownBlock ∨ (Value.slice ao' (n + m) cap').ownBlock = some w.heap.size) → K (a.put o.dst (.slice ao' (n + m) cap')) w') : if Region.wanted o (yielded ops a.tmps) = true then Oper.wp Try.prog o a w K Q else E := by
  have hw : Region.wanted o (yielded ops a.tmps) = true := by simp [Region.wanted, hgd]
  rw [if_pos hw]
  obtain ⟨v', w', hr, h2, h3, h4⟩ := append_has w o.type base v n xs hown hbase ao m cap bs hm hn hh hb
  obtain ⟨ao', cap', rfl⟩ := own_shape h2
  unfold Oper.wp execOp
  simp only [ho, resolve, invoke, builtin, Sem.run_bind, Sem.run_pure, Result.andThen_ok, List.map_toArray, List.map_cons, List.map_nil, hs, hx, hr]
  exact h ao' cap' w' h2 h3 h4

set_option maxHeartbeats 400000 in
theorem rsync_any {w : World} {B : Nat} {v : Value} {bs : List UInt8} {s : Nat} (h : Dk 35 w B v bs s) :
    Calls Try.prog 19 #[.pointer (some ⟨B, 0, none⟩)] w fun e w' => e = .returned (.tuple #[]) ∧ Step 35 w w' B v v bs bs.length := by
  obtain ⟨ao, cap, rfl, hcap, hn⟩ := h.shape
  obtain ⟨c0, c1, f0, f1⟩ := two_cell h.self
  have hm := h.mark bs.length (Nat.le_refl _)
  clear h
  go_enter Try.func19, Try.ntmps19
  go_wp2
  go_end0
  exact ⟨rfl, hm⟩

set_option maxHeartbeats 400000 in
theorem rappend_any {w : World} {B : Nat} {v : Value} {bs : List UInt8} {s : Nat} {ao : Option Addr} {cap : Nat} {xs : List UInt8} (h : Dk 35 w B v bs s) (hh : Has w ao xs) (hn : ao = none → cap = 0) (hl : bs.length + xs.length ≤ 4194304) :
    Calls Try.prog 17 #[.pointer (some ⟨B, 0, none⟩), .slice ao xs.length cap] w fun e w' => e = .returned (.int .i64 0) ∧ ∃ v', Step 35 w w' B v v' (bs ++ xs) s := by
  obtain ⟨bo, bcap, rfl, hcap, hbn⟩ := h.shape
  obtain ⟨c0, c1, f0, f1⟩ := two_cell h.self
  have hd : decide ((xs.length : Int) > 4194304 - (bs.length : Int)) = false := by simp; omega
  have hw : IntKind.i64.wrap (4194304 - (bs.length : Int)) = 4194304 - (bs.length : Int) := by have := h.most; simp [IntKind.wrap, IntKind.bits, IntKind.signed]; omega
  have hlt := h.lt
  have HD : Hid (Dk 35 w B (.slice bo bs.length bcap) bs s) := h
  have HH : Hid (Has w ao xs) := hh
  have HB : Hid (bo = none → bcap = 0) := hbn
  have HN : Hid (ao = none → cap = 0) := hn
  clear h hh hbn hn
  go_enter Try.func17, Try.ntmps17
  go_wp2_with (first
    | (at_builtin; refine wpList_append_has rfl (.tmp 15) (.tmp 19) rfl w.heap.size (.slice (some ⟨w.heap.size, 0, none⟩) 0 0) 0 [] rfl (own_new w _ (Nat.le_refl _)) (by simp) bo bs.length bcap rfl bs rfl HB.out (HD.out.has.kept ((Kept.refl (fun _ => True) w).alloc _) (fun _ _ => trivial)) (by omega) ?_; intro a1 p1 w1 ho1 hg1 hl1; simp only [Nat.zero_add, List.nil_append] at ho1 hl1; have k1 := fresh_one hg1)
    | (at_builtin; refine wpList_append_has rfl (.tmp 20) (.tmp 21) rfl w.heap.size _ bs.length (cells bs) rfl ho1 (by have := k1.size; omega) ao xs.length cap rfl xs rfl HN.out (HH.out.kept k1 (fun _ _ => trivial)) (by omega) ?_; intro a2 p2 w2 ho2 hg2 hl2; have k2 : Kept (fun _ => True) w w2 := k1.grown hg2 (fun k hk e => by have := (ho1.lt k e).1; omega); have hc2 : w2.cell? ⟨B, 0, none⟩ = some (.slice bo bs.length bcap) := (kept_cell k2 hlt trivial).trans c0; have hf2 : w2.frozen? ⟨B, 0, none⟩ = false := (kept_frozen k2 hlt trivial).trans f0))
  go_ret
  rw [← cells_append] at ho2
  have e : bs.length + xs.length = (bs ++ xs).length := by simp
  rw [e] at ho2
  refine ⟨rfl, .slice a2 (bs.length + xs.length) p2, ?_⟩
  rw [e]
  exact HD.out.swap k2 ho2 (by have := HD.out.safe; simp; omega) (by simpa using hl)

set_option maxHeartbeats 400000 in
theorem rappend_full {w : World} {B : Nat} {v : Value} {bs : List UInt8} {s : Nat} {ao : Option Addr} {cap n : Nat} (h : Dk 35 w B v bs s) (hl : 4194304 < bs.length + n) :
    Calls Try.prog 17 #[.pointer (some ⟨B, 0, none⟩), .slice ao n cap] w fun e w' => e = .returned (.int .i64 13) ∧ w' = w := by
  obtain ⟨bo, bcap, rfl, hcap, hbn⟩ := h.shape
  obtain ⟨c0, c1, f0, f1⟩ := two_cell h.self
  have hd : decide ((n : Int) > 4194304 - (bs.length : Int)) = true := by simp; omega
  have hw : IntKind.i64.wrap (4194304 - (bs.length : Int)) = 4194304 - (bs.length : Int) := by have := h.most; simp [IntKind.wrap, IntKind.bits, IntKind.signed]; omega
  clear h
  go_enter Try.func17, Try.ntmps17
  go_wp2
  go_ret
  exact ⟨rfl, rfl⟩

set_option maxHeartbeats 400000 in
theorem rcut_bad {w : World} {B : Nat} {v : Value} {bs : List UInt8} {s : Nat} (h : Dk 35 w B v bs s) (n : Int) (hn : n < 0 ∨ (bs.length : Int) < n) :
    Calls Try.prog 20 #[.pointer (some ⟨B, 0, none⟩), .int .i64 n] w fun e w' => e = .returned (.int .i64 1) ∧ w' = w := by
  obtain ⟨bo, bcap, rfl, hcap, hbn⟩ := h.shape
  obtain ⟨c0, c1, f0, f1⟩ := two_cell h.self
  clear h
  by_cases h0 : n < 0
  · go_enter Try.func20, Try.ntmps20
    go_wp2
    go_ret
    exact ⟨rfl, rfl⟩
  · have h1 : (bs.length : Int) < n := by omega
    go_enter Try.func20, Try.ntmps20
    go_wp2
    go_ret
    exact ⟨rfl, rfl⟩

set_option maxHeartbeats 400000 in
theorem rcut_any {w : World} {B : Nat} {v : Value} {bs : List UInt8} {s : Nat} (h : Dk 35 w B v bs s) (k : Nat) (hk : k ≤ bs.length) :
    Calls Try.prog 20 #[.pointer (some ⟨B, 0, none⟩), .int .i64 k] w fun e w' => e = .returned (.int .i64 0) ∧ ∃ v', Step 35 w w' B v v' (bs.take k) (min s k) := by
  obtain ⟨bo, bcap, rfl, hcap, ho, hsl⟩ := own_cut h.own hk
  obtain ⟨c0, c1, f0, f1⟩ := two_cell h.self
  have hm := h.most
  have lt : (bs.take k).length = k := by simp; omega
  have HB : Hid (bo = none → bcap = 0) := by
    obtain ⟨x, y, e, _, hy⟩ := h.shape
    cases e
    exact hy
  have HH : Hid (Has w bo (bs.take k)) := own_has (cap := bcap) (n := k) (by rw [cells_take] at ho; rw [lt]; exact ho)
  have hlt := h.lt
  have HD : Hid (Dk 35 w B (.slice bo bs.length bcap) bs s) := h
  have h0 : ¬ ((k : Int) < 0) := by omega
  have h1 : ¬ ((bs.length : Int) < (k : Int)) := by omega
  clear h ho
  by_cases hs : k < s
  · have hs' : (k : Int) < (s : Int) := by omega
    go_enter Try.func20, Try.ntmps20
    go_wp2_with (at_builtin; refine wpList_append_has rfl (.tmp 17) (.tmp 23) rfl w.heap.size (.slice (some ⟨w.heap.size, 0, none⟩) 0 0) 0 [] rfl (own_new w _ (Nat.le_refl _)) (by simp) bo k bcap rfl (bs.take k) lt HB.out (HH.out.kept ((Kept.refl (fun _ => True) w).alloc _) (fun _ _ => trivial)) (by omega) ?_; intro a1 p1 w1 ho1 hg1 hl1; simp only [Nat.zero_add, List.nil_append] at ho1; have k1 := fresh_one hg1; have hc2 : w1.cell? ⟨B, 0, none⟩ = some (.slice bo bs.length bcap) := (kept_cell k1 hlt trivial).trans c0; have hf2 : w1.frozen? ⟨B, 0, none⟩ = false := (kept_frozen k1 hlt trivial).trans f0; have hc3 : w1.cell? ⟨B, 1, none⟩ = some (.int .i64 s) := (kept_cell k1 hlt trivial).trans c1; have hf3 : w1.frozen? ⟨B, 1, none⟩ = false := (kept_frozen k1 hlt trivial).trans f1)
    go_ret
    refine ⟨rfl, .slice a1 k p1, ?_⟩
    rw [Nat.min_eq_right (Nat.le_of_lt hs)]
    exact HD.out.swap2 k1 (by rw [lt]; exact ho1) k (by omega) (by omega)
  · have hs' : ¬ ((k : Int) < (s : Int)) := by omega
    go_enter Try.func20, Try.ntmps20
    go_wp2_with (at_builtin; refine wpList_append_has rfl (.tmp 17) (.tmp 23) rfl w.heap.size (.slice (some ⟨w.heap.size, 0, none⟩) 0 0) 0 [] rfl (own_new w _ (Nat.le_refl _)) (by simp) bo k bcap rfl (bs.take k) lt HB.out (HH.out.kept ((Kept.refl (fun _ => True) w).alloc _) (fun _ _ => trivial)) (by omega) ?_; intro a1 p1 w1 ho1 hg1 hl1; simp only [Nat.zero_add, List.nil_append] at ho1; have k1 := fresh_one hg1; have hc2 : w1.cell? ⟨B, 0, none⟩ = some (.slice bo bs.length bcap) := (kept_cell k1 hlt trivial).trans c0; have hf2 : w1.frozen? ⟨B, 0, none⟩ = false := (kept_frozen k1 hlt trivial).trans f0; have hc3 : w1.cell? ⟨B, 1, none⟩ = some (.int .i64 s) := (kept_cell k1 hlt trivial).trans c1; have hf3 : w1.frozen? ⟨B, 1, none⟩ = false := (kept_frozen k1 hlt trivial).trans f1)
    go_ret
    refine ⟨rfl, .slice a1 k p1, ?_⟩
    rw [Nat.min_eq_left (Nat.le_of_not_lt hs)]
    exact HD.out.swap k1 (by rw [lt]; exact ho1) (by omega) (by omega)

set_option maxRecDepth 100000 in
set_option maxHeartbeats 1000000 in
theorem rcrash_any {w : World} {B : Nat} {v : Value} {bs : List UInt8} {s : Nat} (h : Dk 35 w B v bs s) (keep : Int) :
    Calls Try.prog 21 #[.pointer (some ⟨B, 0, none⟩), .int .i64 keep] w fun e w' => e = .returned (.tuple #[]) ∧ ∃ v', Step 35 w w' B v v' (bs.take (left bs.length s keep)) (left bs.length s keep) := by
  have hk := left_le h.safe keep
  have hsk := le_left bs.length s keep
  obtain ⟨bo, bcap, rfl, hcap, ho, hsl⟩ := own_cut h.own hk
  obtain ⟨c0, c1, f0, f1⟩ := two_cell h.self
  have hm := h.most
  have hsf := h.safe
  have hlt := h.lt
  have hl : (left bs.length s keep : Int) = s + min (max keep 0) (bs.length - s) := by unfold left; omega
  generalize left bs.length s keep = k at *
  have lt : (bs.take k).length = k := by simp; omega
  have HB : Hid (bo = none → bcap = 0) := by
    obtain ⟨x, y, e, _, hy⟩ := h.shape
    cases e
    exact hy
  have HH : Hid (Has w bo (bs.take k)) := own_has (cap := bcap) (n := k) (by rw [cells_take] at ho; rw [lt]; exact ho)
  have HD : Hid (Dk 35 w B (.slice bo bs.length bcap) bs s) := h
  have w1 : IntKind.i64.wrap ((bs.length : Int) - s) = (bs.length : Int) - s := by simp [IntKind.wrap, IntKind.bits, IntKind.signed]; omega
  clear h ho
  have hsum : ∃ M : Int, (s : Int) + M = k ∧ IntKind.i64.wrap (s + M) = k ∧ M = min (max keep 0) (bs.length - s) := ⟨_, hl.symm, by rw [← hl]; simp [IntKind.wrap, IntKind.bits, IntKind.signed]; omega, rfl⟩
  obtain ⟨M, hsum, w2, hM⟩ := hsum
  clear hl
  have w3 : IntKind.i64.wrap (k : Int) = k := by simp [IntKind.wrap, IntKind.bits, IntKind.signed]; omega
  have b1 : (0 : Int) ≤ k := by omega
  have b2 : (k : Int) ≤ bcap := by omega
  have ha0 : ∀ m, ((w.drewN m).alloc (.cells #[] 5)).cell? ⟨B, 0, none⟩ = some (.slice bo bs.length bcap) := fun m => (kept_cell (((Kept.refl (fun _ => True) w).drewN m).alloc _) hlt trivial).trans c0
  have ha1 : ∀ m, ((w.drewN m).alloc (.cells #[] 5)).cell? ⟨B, 1, none⟩ = some (.int .i64 s) := fun m => (kept_cell (((Kept.refl (fun _ => True) w).drewN m).alloc _) hlt trivial).trans c1
  by_cases h0 : keep < 0
  · have h1 : ¬ ((bs.length : Int) - s < 0) := by omega
    obtain rfl : k = s := by omega
    clear hsum w2 hM hk
    go_enter Try.func21, Try.ntmps21
    go_wp2
    go_quiet (fail)
    go_wp2
    go_region_law
      ((refine step_append_has ?_ (.tmp 29) (.tmp 40) ?_ w.heap.size (.slice (some ⟨w.heap.size, 0, none⟩) 0 0) 0 [] ?_ ?_ ?_ bo k bcap ?_ (bs.take k) lt HB.out ?_ ?_ ?_; rfl; rfl; rfl; exact own_new _ _ (Nat.le_refl _); simp; rfl; exact HH.out.kept (((Kept.refl (fun _ => True) w).drewN _).alloc _) (fun _ _ => trivial); omega; intro a1 p1 w1 ho1 hg1 hl1; simp only [Nat.zero_add, List.nil_append] at ho1 ⊢; have k1 : Kept (fun _ => True) w w1 := ((Kept.refl _ w).drewN _).trans (fresh_one hg1); have hc2 : w1.cell? ⟨B, 0, none⟩ = some (.slice bo bs.length bcap) := (kept_cell k1 hlt trivial).trans c0; have hf2 : w1.frozen? ⟨B, 0, none⟩ = false := (kept_frozen k1 hlt trivial).trans f0; have hc3 : w1.cell? ⟨B, 1, none⟩ = some (.int .i64 k) := (kept_cell k1 hlt trivial).trans c1; have hf3 : w1.frozen? ⟨B, 1, none⟩ = false := (kept_frozen k1 hlt trivial).trans f1))
    all_goals
      (go_wp2
       go_end0
       exact ⟨rfl, .slice a1 k p1, HD.out.swap2 k1 (by rw [lt]; exact ho1) k (by omega) (by omega)⟩)
  · by_cases h1 : (bs.length : Int) - s < keep
    · have hM' : (bs.length : Int) - s = M := by omega
      have w1' : IntKind.i64.wrap M = M := by rw [← hM']; exact w1
      have h1' : M < keep := by omega
      clear hM hk w1 h1
      go_enter Try.func21, Try.ntmps21
      go_wp2
      go_quiet (fail)
      go_wp2
      go_quiet (fail)
      go_wp2
      go_region_law
        ((refine step_append_has ?_ (.tmp 29) (.tmp 40) ?_ w.heap.size (.slice (some ⟨w.heap.size, 0, none⟩) 0 0) 0 [] ?_ ?_ ?_ bo k bcap ?_ (bs.take k) lt HB.out ?_ ?_ ?_; rfl; rfl; rfl; exact own_new _ _ (Nat.le_refl _); simp; rfl; exact HH.out.kept (((Kept.refl (fun _ => True) w).drewN _).alloc _) (fun _ _ => trivial); omega; intro a1 p1 w1 ho1 hg1 hl1; simp only [Nat.zero_add, List.nil_append] at ho1 ⊢; have k1 : Kept (fun _ => True) w w1 := ((Kept.refl _ w).drewN _).trans (fresh_one hg1); have hc2 : w1.cell? ⟨B, 0, none⟩ = some (.slice bo bs.length bcap) := (kept_cell k1 hlt trivial).trans c0; have hf2 : w1.frozen? ⟨B, 0, none⟩ = false := (kept_frozen k1 hlt trivial).trans f0; have hc3 : w1.cell? ⟨B, 1, none⟩ = some (.int .i64 s) := (kept_cell k1 hlt trivial).trans c1; have hf3 : w1.frozen? ⟨B, 1, none⟩ = false := (kept_frozen k1 hlt trivial).trans f1))
      all_goals
        (go_wp2
         go_end0
         exact ⟨rfl, .slice a1 k p1, HD.out.swap2 k1 (by rw [lt]; exact ho1) k (by omega) (by omega)⟩)
    · obtain rfl : M = keep := by omega
      clear hM hk
      go_enter Try.func21, Try.ntmps21
      go_wp2
      go_quiet (fail)
      go_wp2
      go_region_law
        ((refine step_append_has ?_ (.tmp 29) (.tmp 40) ?_ w.heap.size (.slice (some ⟨w.heap.size, 0, none⟩) 0 0) 0 [] ?_ ?_ ?_ bo k bcap ?_ (bs.take k) lt HB.out ?_ ?_ ?_; rfl; rfl; rfl; exact own_new _ _ (Nat.le_refl _); simp; rfl; exact HH.out.kept (((Kept.refl (fun _ => True) w).drewN _).alloc _) (fun _ _ => trivial); omega; intro a1 p1 w1 ho1 hg1 hl1; simp only [Nat.zero_add, List.nil_append] at ho1 ⊢; have k1 : Kept (fun _ => True) w w1 := ((Kept.refl _ w).drewN _).trans (fresh_one hg1); have hc2 : w1.cell? ⟨B, 0, none⟩ = some (.slice bo bs.length bcap) := (kept_cell k1 hlt trivial).trans c0; have hf2 : w1.frozen? ⟨B, 0, none⟩ = false := (kept_frozen k1 hlt trivial).trans f0; have hc3 : w1.cell? ⟨B, 1, none⟩ = some (.int .i64 s) := (kept_cell k1 hlt trivial).trans c1; have hf3 : w1.frozen? ⟨B, 1, none⟩ = false := (kept_frozen k1 hlt trivial).trans f1))
      all_goals
        (go_wp2
         go_end0
         exact ⟨rfl, .slice a1 k p1, HD.out.swap2 k1 (by rw [lt]; exact ho1) k (by omega) (by omega)⟩)

end Go.Proofs.Ytabemdmapadaoaa
