/-
  Texts of the proofs, 4 of 52.
-/
import Derived.Test.YtmcaoimgmgjjiaaWC
import Derived.Laws.IdiomStrings
import Derived.Laws.BytesString
import Derived.Deep.RegionHeld
namespace Go.Proofs.Ytmcaoimgmgjjiaa
open Go.RowKit

structure Rs (w : World) (B R : Nat) (bs : List UInt8) (cap : Nat) (s : RS) : Prop where
  rd : Rd w B R bs cap s.pos s.why
  pos : s.pos ≤ bs.length
  big : (bs.length : Int) ≤ 140737488355328

theorem Rs.kept {p : Nat → Prop} {w w' : World} {B R : Nat} {bs : List UInt8} {cap : Nat} {s : RS} (h : Rs w B R bs cap s) (hk : Kept p w w') (hB : p B) (hR : p R) : Rs w' B R bs cap s := ⟨h.rd.kept hk hB hR, h.pos, h.big⟩
theorem Rs.lt {w : World} {B R : Nat} {bs : List UInt8} {cap : Nat} {s : RS} (h : Rs w B R bs cap s) : B < w.heap.size := h.rd.lt
theorem Rs.rowlt {w : World} {B R : Nat} {bs : List UInt8} {cap : Nat} {s : RS} (h : Rs w B R bs cap s) : R < w.heap.size := h.rd.rowlt

set_option maxRecDepth 100000 in
set_option maxHeartbeats 400000 in
theorem number_no {w : World} {B R : Nat} {bs : List UInt8} {cap at_ : Nat} {why : Int} (k : Nat) (h : Rd w B R bs cap at_ why) (hn : (bs.length : Int) ≤ 140737488355328) (ha : at_ ≤ bs.length) (hl : leftOf bs.length at_ why < (k : Int)) :
    Calls Try.prog 76 #[.pointer (some ⟨B, 0, none⟩), .int .i64 k] w fun e w' => e = .returned (.int .u64 0) ∧
      (why = 0 → Rd w' B R bs cap bs.length 10) ∧ (why ≠ 0 → Rd w' B R bs cap at_ why) ∧ Kept (· ≠ B) w w' := by
  have HL : Hid (leftOf bs.length at_ why < (k : Int)) := hl
  clear hl
  go_enter Try.func76, Try.ntmps76
  go_wp2
  refine wp_scope_jumps 0 (fun _ _ => False) (fun _ _ => 0) rfl ?_ (fun _ _ hf => hf.elim)
  go_wp2_with (go_at_call 77; refine (has_no _ h hn ha HL.out).mono ?_; rintro e w' ⟨rfl, h1, h2, h3⟩)
  simp only [Exit.jump]
  go_ret
  exact ⟨rfl, h1, h2, h3⟩

theorem number_any {w : World} {B R : Nat} {bs : List UInt8} {cap : Nat} {s : RS} (k : Nat) (h : Rs w B R bs cap s) (hk1 : 1 ≤ k) (hk8 : k ≤ 8) :
    Calls Try.prog 76 #[.pointer (some ⟨B, 0, none⟩), .int .i64 k] w fun e w' => e = .returned (.int .u64 ((s.num bs k).1 : Nat)) ∧ Rs w' B R bs cap (s.num bs k).2 ∧ Kept (· ≠ B) w w' := by
  obtain ⟨pos, why⟩ := s
  obtain ⟨hr, hp, hbig⟩ := h
  simp only at hr hp
  by_cases hw : why = 0
  · subst hw
    by_cases hl : pos + k ≤ bs.length
    · refine (number_yes k hr hbig hk1 hk8 hl).mono ?_
      rintro e w' ⟨rfl, h1, h2⟩
      simp only [RS.num, if_pos hl, if_true]
      exact ⟨trivial, ⟨h1, hl, hbig⟩, h2⟩
    · refine (number_no k hr hbig hp (by simp [leftOf]; omega)).mono ?_
      rintro e w' ⟨rfl, h1, h2, h3⟩
      simp only [RS.num, if_neg hl, if_true]
      exact ⟨by simp, ⟨h1 rfl, by simp, hbig⟩, h3⟩
  · refine (number_no k hr hbig hp (by simp [leftOf, hw]; omega)).mono ?_
    rintro e w' ⟨rfl, h1, h2, h3⟩
    simp only [RS.num, if_neg hw]
    exact ⟨by simp, ⟨h2 hw, hp, hbig⟩, h3⟩

set_option maxRecDepth 100000 in
set_option maxHeartbeats 400000 in
theorem byte_any {w : World} {B R : Nat} {bs : List UInt8} {cap : Nat} {s : RS} (h : Rs w B R bs cap s) :
    Calls Try.prog 42 #[.pointer (some ⟨B, 0, none⟩)] w fun e w' => e = .returned (.int .i64 ((s.num bs 1).1 : Nat)) ∧ Rs w' B R bs cap (s.num bs 1).2 ∧ Kept (· ≠ B) w w' := by
  have hlt := s.num_lt1 bs
  have c := number_any 1 h (by decide) (by decide)
  generalize s.num bs 1 = r at *
  go_enter Try.func42, Try.ntmps42
  go_wp2_with (go_at_call 76; refine Calls.mono c ?_; rintro e w' ⟨rfl, h1, h2⟩)
  go_ret
  exact ⟨by simp, h1, h2⟩

set_option maxRecDepth 100000 in
set_option maxHeartbeats 400000 in
theorem four_any {w : World} {B R : Nat} {bs : List UInt8} {cap : Nat} {s : RS} (h : Rs w B R bs cap s) :
    Calls Try.prog 89 #[.pointer (some ⟨B, 0, none⟩)] w fun e w' => e = .returned (.int .i64 ((s.num bs 4).1 : Nat)) ∧ Rs w' B R bs cap (s.num bs 4).2 ∧ Kept (· ≠ B) w w' := by
  have hlt := s.num_lt4 bs
  have c := number_any 4 h (by decide) (by decide)
  generalize s.num bs 4 = r at *
  go_enter Try.func89, Try.ntmps89
  go_wp2_with (go_at_call 76; refine Calls.mono c ?_; rintro e w' ⟨rfl, h1, h2⟩)
  go_ret
  exact ⟨by simp, h1, h2⟩

set_option maxRecDepth 100000 in
set_option maxHeartbeats 400000 in
theorem fail_any {w : World} {B R : Nat} {bs : List UInt8} {cap : Nat} {s : RS} (why : Int) (h : Rs w B R bs cap s) :
    Calls Try.prog 73 #[.pointer (some ⟨B, 0, none⟩), .int .i64 why] w fun e w' => e = .returned (.tuple #[]) ∧ Rs w' B R bs cap (s.fail why) ∧ Kept (· ≠ B) w w' := by
  obtain ⟨pos, y⟩ := s
  obtain ⟨hr, hp, hbig⟩ := h
  simp only at hr hp
  obtain ⟨c0, c1, c2, hf⟩ := wthree_cell hr.self
  by_cases hc : y = 0 ∧ why ≠ 0
  · obtain ⟨rfl, hw⟩ := hc
    have c := refuse_yes why pos hr hw
    have HW : Hid (why ≠ 0) := hw
    clear hw
    go_enter Try.func73, Try.ntmps73
    go_wp2_with (go_at_call 90; refine Calls.mono c ?_; rintro e w' ⟨rfl, h1, h2⟩)
    go_end0
    have e : (⟨pos, 0⟩ : RS).fail why = ⟨pos, why⟩ := if_pos ⟨rfl, HW.out⟩
    rw [e]
    exact ⟨rfl, ⟨h1, hp, hbig⟩, h2⟩
  · have c := refuse_no why pos hr (by omega)
    have HC : Hid (¬ (y = 0 ∧ why ≠ 0)) := hc
    clear hc
    go_enter Try.func73, Try.ntmps73
    go_wp2_with (go_at_call 90; refine Calls.mono c ?_; rintro e w' ⟨rfl, rfl⟩)
    go_end0
    have e : (⟨pos, y⟩ : RS).fail why = ⟨pos, y⟩ := if_neg HC.out
    rw [e]
    exact ⟨rfl, ⟨hr, hp, hbig⟩, Kept.refl _ _⟩

set_option maxRecDepth 100000 in
set_option maxHeartbeats 400000 in
theorem end_any {w : World} {B R : Nat} {bs : List UInt8} {cap : Nat} {s : RS} (h : Rs w B R bs cap s) :
    Calls Try.prog 44 #[.pointer (some ⟨B, 0, none⟩)] w fun e w' => e = .returned (.tuple #[.int .i64 (s.end_ bs).1, .int .i64 (s.end_ bs).2]) ∧ ∃ n, w' = w.drewN n := by
  obtain ⟨pos, y⟩ := s
  obtain ⟨hr, hp, hbig⟩ := h
  simp only at hr hp
  obtain ⟨c0, c1, c2, hf⟩ := wthree_cell hr.self
  by_cases hy : y = 0
  · subst hy
    have c := left_any hr hbig hp
    by_cases hl : pos < bs.length
    · have hL : (0 : Int) < leftOf bs.length pos 0 := by simp [leftOf]; omega
      have HL : Hid (pos < bs.length) := hl
      generalize leftOf bs.length pos 0 = L at *
      go_enter Try.func44, Try.ntmps44
      go_wp2_with (go_at_call 71; refine Calls.mono c ?_; rintro e w' ⟨rfl, nd, rfl⟩)
      go_quiet (fail)
      go_wp2
      go_ret2
      exact ⟨by simp [RS.end_, HL.out], nd + nq, by simp [World.drewN, Nat.add_assoc]⟩
    · have hL : leftOf bs.length pos 0 = 0 := by simp [leftOf]; omega
      rw [hL] at c
      have HL : Hid (¬ pos < bs.length) := hl
      clear hL
      go_enter Try.func44, Try.ntmps44
      go_wp2_with (go_at_call 71; refine Calls.mono c ?_; rintro e w' ⟨rfl, nd, rfl⟩)
      go_ret2
      exact ⟨by simp [RS.end_, HL.out], _, rfl⟩
  · have hy' : (y == 0) = false := by simp [hy]
    go_enter Try.func44, Try.ntmps44
    go_wp2
    go_quiet (fail)
    go_wp2
    go_ret2
    exact ⟨by simp [RS.end_, hy], _, rfl⟩

theorem left_is {w : World} {B R : Nat} {bs : List UInt8} {cap : Nat} {s : RS} (h : Rs w B R bs cap s) :
    Calls Try.prog 71 #[.pointer (some ⟨B, 0, none⟩)] w fun e w' => e = .returned (.int .i64 (s.left bs)) ∧ ∃ n, w' = w.drewN n := left_any h.rd h.big h.pos

end Go.Proofs.Ytmcaoimgmgjjiaa

namespace Go.Proofs.Ytmcaoimgmgjjiaa
open Go.RowKit

set_option maxRecDepth 100000 in
theorem wcut_any {w : World} {R : Nat} {cur : Array Value} {t : TypeId} {fr : Nat × Nat} {bs : List UInt8} {cap : Nat} (hc : w.heap[R]? = some (.cells cur t fr)) (ht : cur.toList.take bs.length = cells bs) (hcap : bs.length ≤ cap) (p n : Nat) (hpn : p + n ≤ bs.length) :
    ∃ SV : Value, (∀ w0, (Instr.slice 25 (.slice (some ⟨R, 0, none⟩) bs.length cap) (some (.int .i64 (p : Int))) (some (.int .i64 ((p : Int) + (n : Int)))) none).run Try.prog w0 = .ok SV w0) ∧
      ∀ k, (convert 25 9 SV).run Try.prog (w.drewN k) = .ok (.string ⟨((bs.drop p).take n).toArray⟩) (w.drewN k) := by
  refine ⟨.slice (some (if cap = p then ⟨R, 0, none⟩ else ⟨R, p, none⟩)) n (cap - p), fun w0 => ?_, fun k => ?_⟩
  · rw [run_slice_lh (P := Try.prog) w0 25 (some ⟨R, 0, none⟩) bs.length cap Try.underlying25 .i64 .i64 p (p + n) (by omega) (by omega) (by omega)]
    have e1 : ((p : Int) + (n : Int)).toNat = p + n := by omega
    rw [size_u8]
    simp only [Result.andThen, sliced, e1, Int.toNat_natCast, Nat.add_sub_cancel_left]
    by_cases hp : cap = p
    · simp [hp]
    · simp [hp, Addr.add]; omega
  · have hl : ((bs.drop p).take n).length = n := by simp; omega
    have := conv_run (w.drewN k) (if cap = p then ⟨R, 0, none⟩ else ⟨R, p, none⟩) (cap - p) ((bs.drop p).take n) (fun j hj => by
      rw [hl] at hj
      rw [if_neg (by omega)]
      have e : (⟨R, p, none⟩ : Addr).add j = ⟨R, p + j, none⟩ := by simp [Addr.add]
      rw [e, List.getElem_take, List.getElem_drop]
      exact row_cells (w := w) hc ht (p + j) (by omega))
    rw [hl] at this
    exact this

end Go.Proofs.Ytmcaoimgmgjjiaa

namespace Go.Proofs.Ytmcaoimgmgjjiaa
open Go.RowKit

set_option maxRecDepth 100000 in
set_option maxHeartbeats 400000 in
theorem count_any {w : World} {B R : Nat} {bs : List UInt8} {cap : Nat} {s : RS} (most : Int) (h : Rs w B R bs cap s) :
    Calls Try.prog 70 #[.pointer (some ⟨B, 0, none⟩), .int .i64 most] w fun e w' => e = .returned (.int .i64 ((s.count bs most).1 : Nat)) ∧ Rs w' B R bs cap (s.count bs most).2 ∧ Kept (· ≠ B) w w' := by
  have hlt := s.num_lt4 bs
  have hno := s.num_no bs 4
  have c := four_any h
  obtain ⟨c0, c1, c2, hf⟩ := wthree_cell h.rd.self
  have hpos := h.pos
  have hbig := h.big
  unfold RS.count
  generalize s.num bs 4 = r at *
  obtain ⟨n, t⟩ := r
  simp only at *
  by_cases hm : max most 0 < (n : Int)
  · rw [if_pos hm]
    have ht : t.why = 0 := by
      by_cases h0 : t.why = 0
      · exact h0
      · have := hno h0; omega
    clear hno
    have HT : Hid (t.why = 0) := ht
    clear ht
    by_cases h0 : 0 ≤ most
    · have hm' : most < (n : Int) := by omega
      clear hm
      go_enter Try.func70, Try.ntmps70
      go_wp2_with (first
        | (go_at_call 89; refine Calls.mono c ?_; rintro e w1 ⟨rfl, h1, h2⟩)
        | (go_at_call 90; refine (refuse_yes 3 _ (by have := h1.rd; rw [HT.out] at this; exact this) (by decide)).mono ?_; rintro e w2 ⟨rfl, h3, h4⟩))
      go_ret
      exact ⟨by simp, ⟨h3, hpos, hbig⟩, h2.trans h4⟩
    · have hm' : (0 : Int) < (n : Int) := by omega
      clear hm
      go_enter Try.func70, Try.ntmps70
      go_wp2_with (first
        | (go_at_call 89; refine Calls.mono c ?_; rintro e w1 ⟨rfl, h1, h2⟩)
        | (go_at_call 90; refine (refuse_yes 3 _ (by have := h1.rd; rw [HT.out] at this; exact this) (by decide)).mono ?_; rintro e w2 ⟨rfl, h3, h4⟩))
      go_ret
      exact ⟨by simp, ⟨h3, hpos, hbig⟩, h2.trans h4⟩
  · rw [if_neg hm]
    clear hno
    have hm' : (n : Int) ≤ max most 0 := by omega
    clear hm
    go_enter Try.func70, Try.ntmps70
    go_wp2_with (go_at_call 89; refine Calls.mono c ?_; rintro e w1 ⟨rfl, h1, h2⟩)
    all_goals (go_ret; exact ⟨by simp, h1, h2⟩)

set_option maxRecDepth 100000 in
set_option maxHeartbeats 400000 in
theorem text_any {w : World} {B R : Nat} {bs : List UInt8} {cap : Nat} {s : RS} (most : Int) (h : Rs w B R bs cap s)  :
    Calls Try.prog 43 #[.pointer (some ⟨B, 0, none⟩), .int .i64 most] w fun e w' => e = .returned (.string ⟨(s.text bs most).1.toArray⟩) ∧ Rs w' B R bs cap (s.text bs most).2 ∧ Kept (· ≠ B) w w' := by
  have hno := s.count_no bs most
  have hlt := s.count_lt bs most
  have c := count_any most h
  unfold RS.text
  generalize s.count bs most = r at *
  obtain ⟨n, t⟩ := r
  simp only at *
  by_cases hl : t.left bs < (n : Int)
  · rw [if_pos hl]
    have hw : t.why = 0 := by
      by_cases hw : t.why = 0
      · exact hw
      · have h1 := hno hw
        unfold RS.left leftOf at hl
        rw [if_neg hw] at hl
        omega
    have HW : Hid (t.why = 0) := hw
    have HL : Hid (leftOf bs.length t.pos t.why < (n : Int)) := hl
    clear hl hw hno
    go_enter Try.func43, Try.ntmps43
    go_wp2_with (first
      | (go_at_call 70; refine Calls.mono c ?_; rintro e w1 ⟨rfl, h1, h2⟩)
      | (go_at_call 77; refine (has_no _ h1.rd h1.big h1.pos HL.out).mono ?_; rintro e w2 ⟨rfl, h3, h4, h5⟩))
    go_ret
    exact ⟨by simp, ⟨h3 HW.out, Nat.le_refl _, h1.big⟩, h2.trans h5⟩
  · rw [if_neg hl]
    have HL : Hid ((n : Int) ≤ leftOf bs.length t.pos t.why) := Int.not_lt.1 hl
    clear hl
    go_enter Try.func43, Try.ntmps43
    go_wp2_with (first
      | (go_at_call 70; refine Calls.mono c ?_; rintro e w1 ⟨rfl, h1, h2⟩)
      | (go_at_call 77; refine (has_yes _ h1.rd h1.big h1.pos HL.out).mono ?_; rintro e w2 ⟨rfl, nd, rfl⟩))
    obtain ⟨c0, c1, c2, hf⟩ := wthree_cell h1.rd.self
    have hp := h1.pos
    have hb := h1.big
    have hn' : t.pos + n ≤ bs.length := by
      have := HL.out
      unfold leftOf at this
      by_cases hw : t.why = 0
      · rw [if_pos hw] at this; omega
      · have := hno hw; omega
    have hn'' : (t.pos : Int) + (n : Int) ≤ (bs.length : Int) := by omega
    obtain ⟨cur, hcu, htk, hcap⟩ := h1.rd.row
    obtain ⟨SV, hsl, hcv⟩ := wcut_any hcu htk hcap t.pos n hn'
    clear hno hcu htk hcap
    go_quiet (fail)
    go_wp2
    go_ret
    exact ⟨rfl, ⟨(h1.rd.drewN _).setAt _, hn', hb⟩, h2.trans (((Kept.refl _ _).drewN _).setCell (by simp) _)⟩

end Go.Proofs.Ytmcaoimgmgjjiaa

namespace Go.Proofs.Ytmcaoimgmgjjiaa
open Go.RowKit

set_option maxRecDepth 100000 in
set_option maxHeartbeats 400000 in
theorem newReader_any {w : World} {bs : List UInt8} {cap : Nat} {ao : Option Addr} (hb : (bs.length : Int) ≤ 140737488355328) (hc : Has w ao bs) :
    Calls Try.prog 41 #[.slice ao bs.length cap] w fun e w' => ∃ B R, e = .returned (.pointer (some ⟨B, 0, none⟩)) ∧ Rs w' B R bs bs.length ⟨0, 0⟩ ∧ Kept (fun _ => True) w w' ∧ w.heap.size ≤ B ∧ w.heap.size ≤ R := by
  obtain ⟨i, hi, hz0, hz1, hz2⟩ := info_parts Try.infoU8
  have hb' : i.bytes * bs.length ≤ 281474976710656 := by rw [hz2]; omega
  have hb2 : bs.length ≤ maxLen := by unfold maxLen; omega
  have HC : Hid (Has w ao bs) := hc
  clear hc
  go_enter Try.func41, Try.ntmps41
  go_wp2_with (at_make; refine wpList_make_full _ rfl _ _ _ rfl w.heap.size 5 i (.int .u8 0) 1 Try.underlying25 hi hz0 hz1 _ _ _ _ bs.length rfl rfl rfl rfl hb' hb2 (Nat.le_refl _) ?_; intro w1 hown hg; obtain ⟨cur, hrow, hcs⟩ := made_row hown)
  have hk1 : Kept (fun _ => True) w w1 := (Kept.refl _ _).grown hg (fun k _ h => by cases h)
  have hlt : w.heap.size < w1.heap.size := lt_of_block hrow
  obtain ⟨w3, hrun, hrow3, hk3, hs3⟩ := copy_fill (w1.alloc (.cells #[.slice (some ⟨w.heap.size, 0, none⟩) bs.length bs.length, .int .i64 0, .int .i64 0] 137)) w.heap.size cur bs ao cap (by rw [Below.heap_alloc _ _ _ hlt]; exact hrow) hcs (HC.out.kept (hk1.alloc _) (fun _ _ => trivial))
  rw [hrun]
  go_wp2
  go_ret
  refine ⟨w1.heap.size, w.heap.size, rfl, ⟨⟨?_, (cells bs).toArray, hrow3, List.take_of_length_le (by simp [cells_length]), Nat.le_refl _⟩, Nat.zero_le _, hb⟩, ?_, by omega, Nat.le_refl _⟩
  · rw [hk3.block w1.heap.size (by simp) (by omega)]
    exact heap_alloc_new w1 _
  · exact (hk1.alloc _).then hk3 (fun i hi _ => by omega)

set_option maxRecDepth 100000 in
set_option maxHeartbeats 400000 in
theorem newWriter_any {w : World} :
    Calls Try.prog 51 #[] w fun e w' => e = .returned (.pointer (some ⟨w.heap.size, 0, none⟩)) ∧ Wr w' w.heap.size none (.slice none 0 0) [] ∧ Kept (fun _ => True) w w' ∧ w.heap.size < w'.heap.size := by
  go_enter Try.func51, Try.ntmps51
  go_wp2
  go_ret
  exact ⟨rfl, ⟨heap_alloc_new w _, World.ownsRow_nil _ _ _ _, rfl⟩, (Kept.refl _ _).alloc _, by simp⟩

end Go.Proofs.Ytmcaoimgmgjjiaa

namespace Go.Proofs.Ytmcaoimgmgjjiaa
open Go

section
variable {P : Program} {md : Region.Mode} {ops : Array Oper} {Q : Exit → Act → World → Prop} {S : World → Prop} {late : Nat → Bool}

/-- Whatever order is picked: behind each operation that is not late, S. -/
def Gz (P : Program) (md : Region.Mode) (ops : Array Oper) (Q : Exit → Act → World → Prop) (S : World → Prop) (late : Nat → Bool) : Nat → Array Bool → Act → World → Prop
  | 0, done, a, w => Region.ready md ops done = [] ∧ Q .normal a w
  | n + 1, done, a, w => (Region.ready md ops done = [] → Q .normal a w) ∧
      ∀ i ∈ Region.ready md ops done, wpOp P ops Q i (fun a' w' => (late i = false → S w') ∧ Gz P md ops Q S late n (done.setIfInBounds i true) a' w') a w
theorem Gz.any : ∀ (n : Nat) (done : Array Bool) (a : Act) (w : World), Gz P md ops Q S late n done a w → wpAny P md ops Q n done a w
  | 0, _, _, _, h => h
  | n + 1, _, _, _, h => ⟨h.1, fun i hi => wpOp_mono (fun a' w' q => Gz.any n _ a' w' q.2) (h.2 i hi)⟩

/-- Each late one that is still to come waits for i. -/
def waits (md : Region.Mode) (ops : Array Oper) (late : Nat → Bool) (done : Array Bool) (i : Nat) : Bool :=
  (List.range ops.size).all fun j => !(late j) || done.getD j true || (match ops[j]? with
    | none => true
    | some o => o.after.any fun e => Region.binds md e && e.on == i)
theorem waits_spec {done : Array Bool} {i : Nat} (h : waits md ops late done i = true) (j : Nat) (oj : Oper) (hj : ops[j]? = some oj) (hl : late j = true) (hd : done.getD j true = false) : ∃ e ∈ oj.after, Region.binds md e = true ∧ e.on = i := by
  have hlt : j < ops.size := by
    rcases Nat.lt_or_ge j ops.size with h | h
    · exact h
    · rw [Array.getElem?_eq_none h] at hj; cases hj
  have := List.all_eq_true.1 h j (List.mem_range.2 hlt)
  simp only [hl, hd, hj, Bool.not_true, Bool.false_or] at this
  obtain ⟨e, he, hb⟩ := Array.any_eq_true'.1 this
  simp only [Bool.and_eq_true, beq_iff_eq] at hb
  exact ⟨e, he, hb.1, hb.2⟩

theorem not_done {done : Array Bool} {i : Nat} (h0 : done.getD i true = false) (h1 : done.getD i false = true) : False := by
  rcases Nat.lt_or_ge i done.size with h | h
  · simp [h] at h0 h1
    rw [h0] at h1
    cases h1
  · simp [Array.getElem?_eq_none h] at h1
/-- An operation that may come up, and yields v in every world that meets S, may be taken first: what may come ahead of it is not late, so S holds behind that. -/
theorem Gz.first {i : Nat} {oi : Oper} {v : Value} (hi : ops[i]? = some oi) (hs : Region.noSelect ops = true) (hQ : ∀ c a w, Q (.panic c) (a.put oi.dst v) w → Q (.panic c) a w) (n : Nat) :
    ∀ (done : Array Bool) (a : Act) (w : World), (∀ j oj, ops[j]? = some oj → j ≠ i → done.getD j true = false → (∀ e ∈ oj.after, Region.binds md e = true → e.on ≠ i) → oi.apart ops oj = true) →
      (∀ j oj, ops[j]? = some oj → late j = true → done.getD j true = false → ∃ e ∈ oj.after, Region.binds md e = true ∧ e.on = i) →
      i ∈ Region.ready md ops done → YieldsIf P ops S oi v a → S w → Gz P md ops Q S late n (done.setIfInBounds i true) (a.put oi.dst v) w → Gz P md ops Q S late (n + 1) done a w := by
  have sel := Region.noSelect_spec hs
  induction n with
  | zero =>
    intro done a w _ _ hr hy hS H
    refine ⟨fun h => ?_, fun j hj => ?_⟩
    · rw [h] at hr
      cases hr
    · rcases Decidable.em (j = i) with rfl | hne
      · exact hy.wpOp hi hS ⟨fun _ => hS, H⟩
      · have := ready_mono hj hne
        rw [H.1] at this
        cases this
  | succ n ih =>
    intro done a w hfree hlate hr hy hS H
    refine ⟨fun h => ?_, fun j hj => ?_⟩
    · rw [h] at hr
      cases hr
    · rcases Decidable.em (j = i) with rfl | hne
      · exact hy.wpOp hi hS ⟨fun _ => hS, H⟩
      · have hiu := (mem_ready.1 hr).1
        obtain ⟨hju, oj, hoj, hjr⟩ := mem_ready.1 hj
        have hno : ∀ e ∈ oj.after, Region.binds md e = true → e.on ≠ i := fun e he hb q => not_done hiu (by rw [← q]; exact hjr e he hb)
        have hearly : late j = false := by
          cases hl : late j with
          | false => rfl
          | true =>
            obtain ⟨e, he, hb, q⟩ := hlate j oj hoj hl hju
            exact absurd q (hno e he hb)
        have step := wpOp_putIf hoj (hfree j oj hoj hne hju hno) (fun cs b => sel i oi cs b hi) (fun cs b => sel j oj cs b hoj) hQ hy (H.2 j (ready_mono hj hne))
        have less : ∀ k, (done.setIfInBounds j true).getD k true = false → done.getD k true = false := fun k hk => by
          rcases Decidable.em (j = k) with rfl | h
          · exact hju
          · rwa [getD_set_ne true h] at hk
        refine wpOp_mono (fun a' w' q => ⟨q.2.1, ih _ a' w' (fun k ok hk hki hun hn => hfree k ok hk hki (less k hun) hn) (fun k ok hk hl hun => hlate k ok hk hl (less k hun)) (ready_mono hr (Ne.symm hne)) q.1 (q.2.1 hearly) ?_⟩) step
        rw [Array.setIfInBounds_comm _ _ hne]
        exact q.2.2
theorem Gz.take {i : Nat} {oi : Oper} {v : Value} {n : Nat} {done : Array Bool} {a : Act} {w : World} (hi : ops[i]? = some oi) (hs : Region.noSelect ops = true) (hf : Region.free md ops done i = true) (hr : (Region.ready md ops done).contains i = true) (hl : waits md ops late done i = true)
    (hQ : ∀ c a w, Q (.panic c) (a.put oi.dst v) w → Q (.panic c) a w) (hy : YieldsIf P ops S oi v a) (hS : S w) (h : Gz P md ops Q S late n (done.setIfInBounds i true) (a.put oi.dst v) w) : Gz P md ops Q S late (n + 1) done a w :=
  Gz.first hi hs hQ n done a w (Region.free_spec hi hf) (waits_spec hl) (by simpa using hr) hy hS h
theorem Gz.tk {i : Nat} {oi : Oper} {v : Value} {n : Nat} {done : Array Bool} {a : Act} {w : World} (hi : ops[i]? = some oi) (hb : (((Region.noSelect ops && Region.free md ops done i) && (Region.ready md ops done).contains i) && waits md ops late done i) = true)
    (hQ : ∀ c a w, Q (.panic c) (a.put oi.dst v) w → Q (.panic c) a w) (hy : YieldsIf P ops S oi v a) (hS : S w) (h : Gz P md ops Q S late n (done.setIfInBounds i true) (a.put oi.dst v) w) : Gz P md ops Q S late (n + 1) done a w := by
  simp only [Bool.and_eq_true] at hb
  exact Gz.take hi hb.1.1.1 hb.1.1.2 hb.1.2 hb.2 hQ hy hS h
/-- The only one that may come up. -/
theorem Gz.one {i : Nat} {o : Oper} {n : Nat} {done : Array Bool} {a : Act} {w : World} (hr : Region.ready md ops done = [i]) (ho : ops[i]? = some o)
    (h : ∀ K' : Act → World → Prop, Shut (∀ a w, (late i = false → S w) → Gz P md ops Q S late n (done.setIfInBounds i true) a w → K' a w) → if Region.wanted o (yielded ops a.tmps) = true then Oper.wp P o a w K' Q else K' (a.put o.dst undef) w) : Gz P md ops Q S late (n + 1) done a w := by
  refine ⟨fun h0 => ?_, fun j hj => ?_⟩
  · rw [hr] at h0
    cases h0
  · rw [hr] at hj
    obtain rfl := List.mem_singleton.1 hj
    exact wpOp_step ho (fun K' hK => h K' (fun a w hS hW => hK a w ⟨hS, hW⟩))
theorem Gz.done {done : Array Bool} {a : Act} {w : World} (hr : Region.ready md ops done = []) (h : Q .normal a w) : ∀ n, Gz P md ops Q S late n done a w
  | 0 => ⟨hr, h⟩
  | _ + 1 => ⟨fun _ => h, by rw [hr]; simp⟩
theorem Gz.begin {id : Nat} {a : Act} {w : World} (S : World → Prop) (late : Nat → Bool) (hm : P.follows .mixedOrders = true) (h : Gz P .any ops Q S late ops.size (Array.replicate ops.size false) a w.drew) : (Code.region id ops true).wp P Q a w :=
  wp_region_any hm (h.any)

end
theorem lyA {α : Type} {l : List α} {i : Nat} {a : α} : l.toArray.setIfInBounds i a = (l.set i a).toArray := List.setIfInBounds_toArray ..
theorem ly0 {α : Type} {l : List α} {a b : α} : (a :: l).set 0 b = b :: l := rfl
theorem ly1 {α : Type} {l : List α} {a b : α} {n : Nat} : (a :: l).set (n + 1) b = a :: l.set n b := rfl

end Go.Proofs.Ytmcaoimgmgjjiaa
