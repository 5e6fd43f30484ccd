/-
  Fair: a clock is judged.
-/
import Derived.Test.YtmppejhcjnodhaaGRow
import Derived.Test.YtmppejhcjnodhaaGLay
namespace Go.Proofs.Ytmppejhcjnodhaa
open Go.Proofs Go.Shelf Go.RowKit Go.Lib Go.Sort

set_option maxHeartbeats 1000000 in
theorem less_any (x y : Int × Int) (W : World) : Calls Try.prog 37 #[.agg #[.int .i64 x.1, .int .i64 x.2], .agg #[.int .i64 y.1, .int .i64 y.2]] W fun e w' => e = .returned (.int .i64 (Lib.compareInt x.1 y.1)) ∧ ∃ q os', w' = grow (W.drewN q) os' := by
  have hcon := fun W' => AnyG.cmp_Compare_int cmpInt x.1 y.1 W'
  change ∀ W', Calls Try.prog 38 _ _ _ at hcon
  generalize Lib.compareInt x.1 y.1 = r at hcon ⊢
  go_enter Try.func37, Try.ntmps37
  go_wp2_with (go_at_call 38; refine (hcon _).mono ?_; rintro e w' ⟨rfl, rfl⟩)
  go_ret
  exact ⟨rfl, 0, _, by rw [alloc_eq_grow, alloc_eq_grow, grow_grow]; rfl⟩

theorem lessLays (blk off size : Nat) (w : World) : CmpLays Try.prog 37 #[] rlay 2 (fun x y : Int × Int => Lib.compareInt x.1 y.1) blk off size w :=
  fun _ _ _ _ x y => less_any x y _

theorem lt_real (x y : Int × Int) : ltOf (fun x y : Int × Int => Lib.compareInt x.1 y.1) x y = decide (x.1 < y.1) := by
  unfold ltOf Lib.compareInt
  by_cases h1 : x.1 < y.1
  · simp [h1]
  · by_cases h2 : y.1 < x.1 <;> simp [h1, h2]
theorem swo_real : SWO (ltOf fun x y : Int × Int => Lib.compareInt x.1 y.1) :=
  ⟨fun x => by rw [lt_real]; simp, fun x y z h1 h2 => by rw [lt_real] at *; simp at *; omega, fun x y z h1 h2 => by rw [lt_real] at *; simp at *; omega⟩

theorem sort_kept (w : World) (blk off n : Nat) (d : Array (Int × Int)) (os : Array Obj) : Kept (· ≠ blk) w (sortWorldK rlay 2 w blk off n d os) := by
  refine ⟨rfl, rfl, rfl, size_sortWorldK_c rlay 2 w blk off n d os, fun k hk hp => ?_⟩
  unfold sortWorldK
  rw [heap_grow_old _ _ (by simpa [putRowK] using hk)]
  unfold putRowK putRow mapBlock
  show ((Sort.ahead w n).heap.modify blk _)[k]? = _
  rw [Array.getElem?_modify, if_neg (Ne.symm hp)]
  rfl

theorem get_list (xs : List (Int × Int)) (i : Nat) (h : i < xs.length) : xs.toArray[i]! = xs[i] := by
  rw [getElem!_pos _ i (by simpa using h)]
  simp
theorem get_array (d : Array (Int × Int)) (i : Nat) (h : i < d.size) : d[i]! = d.toList[i]'(by simpa using h) := by
  rw [getElem!_pos _ i h]
  simp

/-- A row of readings, as the library has it. -/
theorem own_holds {w : World} {b blk cap : Nat} {xs : List (Int × Int)} (h : w.ownsRow b 35 2 (.slice (some ⟨blk, 0, none⟩) xs.length cap) xs.length (rrow xs)) : HoldsK rlay 2 w blk 0 xs.toArray ∧ blk < w.heap.size := by
  have h' := h
  rcases h.2 with ⟨hv, _⟩ | ⟨g, cap', cur, hv, hb, hg, hc, hm, hs, ht⟩
  · simp at hv
  · simp only [Value.slice.injEq, Option.some.injEq, Addr.mk.injEq, and_true] at hv
    obtain ⟨rfl, _, rfl⟩ := hv
    refine ⟨fun j hj => ?_, lt_of_block hg⟩
    rw [size_flatK] at hj
    have hj2 : j < xs.length * 2 := by simpa using hj
    rw [get_flatK _ _ _ _ hj, get_list xs (j / 2) (by omega), Nat.zero_add]
    refine ⟨?_, by simp [World.frozen?, hg]⟩
    have hg2 := rrow_get xs (j / 2) (by omega) (j % 2) (by omega)
    rw [show j / 2 * 2 + j % 2 = j by omega] at hg2
    rw [h'.cellAt j (by omega), hg2]
    rcases Nat.mod_two_eq_zero_or_one j with e | e <;> rw [e] <;> rfl

/-- slices.SortFunc at readings: the same ones, by their real times. -/
theorem sort_any {w : World} {b blk cap : Nat} {xs : List (Int × Int)} (h : w.ownsRow b 35 2 (.slice (some ⟨blk, 0, none⟩) xs.length cap) xs.length (rrow xs)) (hm : xs.length ≤ 1000) :
    Calls Try.prog 36 #[.slice (some ⟨blk, 0, none⟩) xs.length cap, .func (.func 37) #[] #[]] w fun e w' => e = .returned (.tuple #[]) ∧ ∃ ys : List (Int × Int), ys.length = xs.length ∧ ys.Perm xs ∧ (∀ i j (_ : i < j) (hj : j < ys.length), ys[i].1 ≤ ys[j].1) ∧ Rd w' (some ⟨blk, 0, none⟩) ys ∧ Kept (· ≠ blk) w w' := by
  have eg : ∀ args w, (callFunc 37 args).run Try.prog w = .ok (.enter 37 args) w := enters_of Try.func37 (by kernel_rfl) rfl
  obtain ⟨hH, hblk⟩ := own_holds h
  have hcon := AnyQ.slices_SortFunc sortRd 2 Try.isAgg35 Try.sizeOf35 rlay (fun _ => rfl) (fun x v hv => by simp [rlay] at hv; rcases hv with rfl | rfl <;> rfl) (fun x y => Lib.compareInt x.1 y.1) swo_real 37 #[] blk 0 cap xs.toArray w eg (lessLays blk 0 xs.toArray.size w) hH hblk (by simp; omega)
  change Calls Try.prog 36 _ _ _ at hcon
  refine hcon.mono ?_
  rintro e w' ⟨rfl, d', n, os, hp, hs, rfl⟩
  have hsz : d'.size = xs.length := by simpa using hp.1
  refine ⟨rfl, d'.toList, by simpa using hsz, ?_, fun i j hij hj => ?_, ⟨fun h0 => ⟨blk, 0, rfl, Nat.lt_of_lt_of_le hblk (size_sortWorldK_c ..), fun i hi => ?_⟩⟩, sort_kept ..⟩
  · have h2 := hp.2.2
    have e1 : d'.extract 0 xs.toArray.size = d' := by
      rw [← hp.1, Array.extract_size]
    have e2 : xs.toArray.extract 0 xs.toArray.size = xs.toArray := Array.extract_size
    rw [e1, e2] at h2
    simpa using h2
  · have hj' : j < d'.size := by simpa using hj
    have q := hs i j (Nat.zero_le _) hij (by simp; omega)
    rw [lt_real, get_array d' j hj', get_array d' i (by omega)] at q
    simp at q ⊢
    omega
  · have hi' : i < d'.size := by simpa using hi
    have hK := holdsK_sortWorldK_c rlay 2 w blk 0 xs.toArray d' n os hH hblk hp.1
    have c0 := (hK.cell hi' (c := 0) (by omega)).1
    have c1 := (hK.cell hi' (c := 1) (by omega)).1
    rw [get_array d' i hi'] at c0 c1
    exact ⟨by simpa [rlay] using c0, by simpa [rlay] using c1⟩

/-- Of nothing. -/
theorem insert_none {w : World} : Calls Try.prog 55 #[.slice none 0 0, .int .i64 0, .int .i64 0, .func (.func 37) #[] #[]] w fun e w' => e = .returned (.tuple #[]) ∧ w' = w := by
  go_enter Try.func55, Try.ntmps55
  go_wp2_with fail
  go_loopw [8] (fun t wr => t = .int .i64 1 ∧ wr = w) (fun _ _ => 0)
  case atStart => exact ⟨rfl, rfl⟩
  case round =>
    obtain ⟨rfl, rfl⟩ := hrel
    go_wp2
    go_end0
    exact ⟨rfl, rfl⟩
set_option maxHeartbeats 1000000 in
theorem pdq_none {w : World} (l : Int) : Calls Try.prog 46 #[.slice none 0 0, .int .i64 0, .int .i64 0, .int .i64 l, .func (.func 37) #[] #[]] w fun e w' => e = .returned (.tuple #[]) ∧ w' = w := by
  go_enter Try.func46, Try.ntmps46
  go_wp2_with fail
  go_loopw [1, 2] (fun s t wr => s = .int .i64 0 ∧ t = .int .i64 0 ∧ wr = w) (fun _ _ _ => 0)
  case atStart => exact ⟨rfl, rfl, rfl⟩
  case round =>
    obtain ⟨rfl, rfl, rfl⟩ := hrel
    go_wp2_with fail
    refine insert_none.mono ?_
    rintro e w1 ⟨rfl, rfl⟩
    go_wp2
    exact bodyPost_ret (v := .tuple #[]) (by simp [results, Try.results46, go_sem]) rfl ⟨rfl, rfl⟩
theorem sort_none {w : World} : Calls Try.prog 36 #[.slice none 0 0, .func (.func 37) #[] #[]] w fun e w' => e = .returned (.tuple #[]) ∧ w' = w := by
  have hl : ∀ W, Calls Try.prog 47 #[.int .u64 0] W fun e w' => e = .returned (.int .i64 (Lib.bitLen 0 : Nat)) ∧ w' = W := fun W => Any.bits_Len (SlLaysF0.n15.bits (P := Try.prog) (ρ := sortRd_ren) { sortRd with }) 0 W (by omega) (by omega)
  generalize ((Lib.bitLen 0 : Nat) : Int) = q at hl
  go_enter Try.func36, Try.ntmps36
  go_wp2_with fail
  refine (hl _).mono ?_
  rintro e w1 ⟨rfl, rfl⟩
  go_wp2_with fail
  refine (pdq_none q).mono ?_
  rintro e w1 ⟨rfl, rfl⟩
  go_wp2
  go_end0
  exact ⟨rfl, rfl⟩

set_option maxRecDepth 100000 in
/-- slices.Clone at readings. -/
theorem clone_any {w : World} {ao : Option Addr} {cap : Nat} {xs : List (Int × Int)} (h : Rd w ao xs) (hn : ao = none → cap = 0 ∧ xs = []) (hm : xs.length ≤ 1000) :
    Calls Try.prog 35 #[.slice ao xs.length cap] w fun e w' => ∃ v, e = .returned v ∧ w'.ownsRow w.heap.size 35 2 v xs.length (rrow xs) ∧ Kept (fun _ => True) w w' := by
  cases ao with
  | none =>
    obtain ⟨rfl, rfl⟩ := hn rfl
    clear hn h hm
    have qT : ∀ W : World, (binOp .eql 36 (.slice none 0 0) (.slice none 0 0)).run Try.prog W = .ok (.bool true) W := fun W => run_eql_nil_slice W 36 35 none 0 0 0 0 Try.underlying36
    go_enter Try.func35, Try.ntmps35
    go_wp2
    go_ret
    exact ⟨_, rfl, World.ownsRow_nil _ _ _ _, Kept.refl _ _⟩
  | some ad =>
    have HR : Hid (Rd w (some ad) xs) := h
    clear hn h
    have qT : ∀ W : World, (binOp .eql 36 (.slice (some ad) xs.length cap) (.slice none 0 0)).run Try.prog W = .ok (.bool false) W := fun W => Lib.run_eql_slice_nil W 36 35 (some ad) xs.length cap 0 0 Try.underlying36
    go_enter Try.func35, Try.ntmps35
    go_wp2_with (at_builtin; refine wpList_append_rd Try.underlying36 Try.infoRd (by simp [Value.cells]) (by omega) rfl (.tmp 5) (.tmp 6) rfl w.heap.size (.slice (some ⟨w.heap.size, 0, none⟩) 0 0) 0 [] rfl (own_new2 _ w _ (Nat.le_refl _)) (by simp) ad xs.length cap xs rfl rfl (HR.out.kept ((Kept.refl (fun _ => True) _).alloc _) (fun _ _ => trivial)) (by omega) ?_; intro ao1 cap1 w1 t1 gr1 at1)
    go_ret
    refine ⟨_, rfl, ?_, ((Kept.refl _ _).alloc _).grown gr1 (fun j hj e _ => ?_)⟩
    · rw [Nat.zero_add, List.nil_append] at t1
      exact t1
    · simp [Value.ownBlock] at e
      omega

end Go.Proofs.Ytmppejhcjnodhaa
