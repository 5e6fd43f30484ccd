/-
  The document's own Reader (conclaveref1) in memory: refuse, Left, Fail, End.
-/
import Derived.Test.YtbooeabmpdpgpaaXRef1
import Derived.Deep.RegionLaw
import Derived.BigRegion
namespace Go.Proofs.Ytbooeabmpdpgpaa
open Go.RowKit

/-- The document's Reader in block B over the slice vb of the bytes bs, in the state s. -/
structure Rf (w : World) (B : Nat) (vb : Value) (bs : List UInt8) (s : RS) : Prop where
  self : ∃ at_ why wh : Int, w.heap[B]? = some (.cells #[vb, .int .i64 at_, .bool (decide (s.why ≠ 0)), .int .i64 why, .int .i64 wh] 97 (0, 0)) ∧ (s.why = 0 → at_ = s.pos) ∧ (s.why ≠ 0 → why = s.why ∧ wh = s.pos)
  pos : s.pos ≤ bs.length
  big : (bs.length : Int) ≤ 140737488355328

theorem Rf.lt {w : World} {B : Nat} {vb : Value} {bs : List UInt8} {s : RS} (h : Rf w B vb bs s) : B < w.heap.size := by
  obtain ⟨_, _, _, h, _⟩ := h.self; exact lt_of_block h
theorem Rf.kept {p : Nat → Prop} {w w' : World} {B : Nat} {vb : Value} {bs : List UInt8} {s : RS} (h : Rf w B vb bs s) (hk : Kept p w w') (hB : p B) : Rf w' B vb bs s := by
  have hl := h.lt
  obtain ⟨a, y, z, h1, h2⟩ := h.self
  exact ⟨⟨a, y, z, (hk.block B hl hB).trans h1, h2⟩, h.pos, h.big⟩

theorem five_cell {w : World} {b : Nat} {x0 x1 x2 x3 x4 : Value} {t : TypeId} (h : w.heap[b]? = some (.cells #[x0, x1, x2, x3, x4] t (0, 0))) :
    w.cell? ⟨b, 0, none⟩ = some x0 ∧ w.cell? ⟨b, 1, none⟩ = some x1 ∧ w.cell? ⟨b, 2, none⟩ = some x2 ∧ w.cell? ⟨b, 3, none⟩ = some x3 ∧ w.cell? ⟨b, 4, none⟩ = some x4 ∧ (∀ k, w.frozen? ⟨b, k, none⟩ = false) := by
  refine ⟨by simp [World.cell?, h], by simp [World.cell?, h], by simp [World.cell?, h], by simp [World.cell?, h], by simp [World.cell?, h], fun k => by simp [World.frozen?, h]⟩
theorem five_set1 {w : World} {b : Nat} {x0 x1 x2 x3 x4 : Value} {t : TypeId} (h : w.heap[b]? = some (.cells #[x0, x1, x2, x3, x4] t (0, 0))) (u : Value) : (w.setCell ⟨b, 1, none⟩ u).heap[b]? = some (.cells #[x0, u, x2, x3, x4] t (0, 0)) := by
  have := heap_setCell_same w b 1 _ t u h; simpa using this
theorem five_set2 {w : World} {b : Nat} {x0 x1 x2 x3 x4 : Value} {t : TypeId} (h : w.heap[b]? = some (.cells #[x0, x1, x2, x3, x4] t (0, 0))) (u : Value) : (w.setCell ⟨b, 2, none⟩ u).heap[b]? = some (.cells #[x0, x1, u, x3, x4] t (0, 0)) := by
  have := heap_setCell_same w b 2 _ t u h; simpa using this
theorem five_set3 {w : World} {b : Nat} {x0 x1 x2 x3 x4 : Value} {t : TypeId} (h : w.heap[b]? = some (.cells #[x0, x1, x2, x3, x4] t (0, 0))) (u : Value) : (w.setCell ⟨b, 3, none⟩ u).heap[b]? = some (.cells #[x0, x1, x2, u, x4] t (0, 0)) := by
  have := heap_setCell_same w b 3 _ t u h; simpa using this
theorem five_set4 {w : World} {b : Nat} {x0 x1 x2 x3 x4 : Value} {t : TypeId} (h : w.heap[b]? = some (.cells #[x0, x1, x2, x3, x4] t (0, 0))) (u : Value) : (w.setCell ⟨b, 4, none⟩ u).heap[b]? = some (.cells #[x0, x1, x2, x3, u] t (0, 0)) := by
  have := heap_setCell_same w b 4 _ t u h; simpa using this

set_option maxHeartbeats 400000 in
theorem frefuse_yes {w : World} {B : Nat} {vb : Value} {bs : List UInt8} {s : RS} (why : Int) (p : Nat) (h : Rf w B vb bs s) (hs : s.why = 0) (hw : why ≠ 0) (hp : p ≤ bs.length) :
    Calls Try.prog 87 #[.pointer (some ⟨B, 0, none⟩), .int .i64 why, .int .i64 p] w fun e w' => e = .returned (.tuple #[]) ∧ Rf w' B vb bs ⟨p, why⟩ ∧ Kept (· ≠ B) w w' := by
  obtain ⟨⟨a, y, z, hh, h1, h2⟩, hpos, hbig⟩ := h
  have e0 : decide (s.why ≠ 0) = false := by simp [hs]
  rw [e0] at hh
  obtain ⟨c0, c1, c2, c3, c4, hf⟩ := five_cell hh
  have g1 := five_set2 hh (.bool true)
  obtain ⟨_, _, _, d3, _, _⟩ := five_cell g1
  have g2 := five_set3 g1 (.int .i64 why)
  obtain ⟨_, _, _, _, d4, _⟩ := five_cell g2
  have g3 := five_set4 g2 (.int .i64 (p : Int))
  have HW : Hid (why ≠ 0) := hw
  have G3 := g3
  clear h1 h2 hs e0 hw g1 g2 g3
  go_enter Try.func87, Try.ntmps87
  go_wp2
  go_end0
  refine ⟨rfl, ⟨⟨a, why, p, ?_, fun h => absurd h HW.out, fun _ => ⟨rfl, rfl⟩⟩, hp, hbig⟩, (((Kept.refl _ _).setCell (by simp) _).setCell (by simp) _).setCell (by simp) _⟩
  have e1 : decide ((⟨p, why⟩ : RS).why ≠ 0) = true := by simpa using HW.out
  rw [e1]
  exact G3

set_option maxHeartbeats 400000 in
theorem frefuse_no {w : World} {B : Nat} {vb : Value} {bs : List UInt8} {s : RS} (why p : Int) (h : Rf w B vb bs s) (hs : s.why ≠ 0) :
    Calls Try.prog 87 #[.pointer (some ⟨B, 0, none⟩), .int .i64 why, .int .i64 p] w fun e w' => e = .returned (.tuple #[]) ∧ w' = w := by
  obtain ⟨⟨a, y, z, hh, h1, h2⟩, hpos, hbig⟩ := h
  have e0 : decide (s.why ≠ 0) = true := by simpa using hs
  rw [e0] at hh
  obtain ⟨c0, c1, c2, c3, c4, hf⟩ := five_cell hh
  clear h1 h2 hs e0
  go_enter Try.func87, Try.ntmps87
  go_wp2
  go_end0
  exact ⟨rfl, rfl⟩

set_option maxHeartbeats 400000 in
theorem fend_any {w : World} {B : Nat} {ao : Option Addr} {cap : Nat} {bs : List UInt8} {s : RS} (h : Rf w B (.slice ao bs.length cap) bs s) :
    Calls Try.prog 48 #[.pointer (some ⟨B, 0, none⟩)] w fun e w' => e = .returned (.tuple #[.int .i64 (s.end_ bs).1, .int .i64 (s.end_ bs).2]) ∧ ∃ n, w' = w.drewN n := by
  obtain ⟨⟨a, y, z, hh, h1, h2⟩, hpos, hbig⟩ := h
  by_cases hs : s.why = 0
  · have e0 : decide (s.why ≠ 0) = false := by simp [hs]
    rw [e0] at hh
    obtain ⟨c0, c1, c2, c3, c4, hf⟩ := five_cell hh
    have ha := h1 hs
    subst ha
    have HS : Hid (s.why = 0) := hs
    clear h1 h2 hs e0
    by_cases hl : s.pos < bs.length
    · have hl' : (s.pos : Int) < (bs.length : Int) := by omega
      have HL : Hid (s.pos < bs.length) := hl
      clear hl
      go_enter Try.func48, Try.ntmps48
      go_wp2
      go_quiet (fail)
      go_wp2
      go_quiet (fail)
      go_wp2
      go_ret2
      exact ⟨by simp [RS.end_, HS.out, HL.out], _, drew_two _ _ _⟩
    · have hl' : ¬ ((s.pos : Int) < (bs.length : Int)) := by omega
      have HL : Hid (¬ s.pos < bs.length) := hl
      clear hl
      go_enter Try.func48, Try.ntmps48
      go_wp2
      go_quiet (fail)
      go_wp2
      go_ret2
      exact ⟨by simp [RS.end_, HS.out, HL.out], _, rfl⟩
  · have e0 : decide (s.why ≠ 0) = true := by simpa using hs
    rw [e0] at hh
    obtain ⟨rfl, rfl⟩ := h2 hs
    obtain ⟨c0, c1, c2, c3, c4, hf⟩ := five_cell hh
    have HS : Hid (s.why ≠ 0) := hs
    clear h1 h2 hs e0
    go_enter Try.func48, Try.ntmps48
    go_wp2
    go_quiet (fail)
    go_wp2
    go_ret2
    exact ⟨by simp [RS.end_, HS.out], _, rfl⟩

end Go.Proofs.Ytbooeabmpdpgpaa

namespace Go.Proofs.Ytbooeabmpdpgpaa
open Go.RowKit

set_option maxRecDepth 100000 in
/-- A cut of a slice of bytes, as a slice of bytes. -/
theorem cut_has {w : World} {ao : Option Addr} {bs : List UInt8} {cap : Nat} (hh : Has w ao bs) (hn : ao = none → cap = 0) (hcap : bs.length ≤ cap) (p n : Nat) (hpn : p + n ≤ bs.length) :
    ∃ ao' cap', (∀ w0, (Instr.slice 25 (.slice ao bs.length cap) (some (.int .i64 (p : Int))) (some (.int .i64 ((p : Int) + (n : Int)))) none).run Try.prog w0 = .ok (.slice ao' n cap') w0) ∧ (ao' = none → cap' = 0) ∧
      ∀ w', (∀ b, b < w.heap.size → w'.heap[b]? = w.heap[b]?) → Has w' ao' ((bs.drop p).take n) := by
  refine ⟨if cap = p then ao else ao.map (·.add p), cap - p, fun w0 => ?_, fun h => ?_, fun w' hw => ?_⟩
  · rw [run_slice_lh (P := Try.prog) w0 25 ao bs.length cap Try.underlying25 .i64 .i64 p (p + n) (by omega) (by omega) (by omega)]
    have e1 : ((p : Int) + (n : Int)).toNat = p + n := by omega
    rw [size_u8]
    simp only [Result.andThen, sliced, e1, Int.toNat_natCast, Nat.add_sub_cancel_left, Nat.mul_one]
  · by_cases hc : cap = p
    · omega
    · rw [if_neg hc] at h
      have : ao = none := by simpa using h
      have := hn this
      omega
  · intro h0
    have hl : ((bs.drop p).take n).length = n := by simp; omega
    rw [hl] at h0
    obtain ⟨ad, rfl, hc⟩ := hh (by omega)
    rw [if_neg (by omega)]
    refine ⟨ad.add p, rfl, fun j hj => ?_⟩
    rw [hl] at hj
    rw [List.getElem_take, List.getElem_drop]
    have e : (ad.add p).add j = ad.add (p + j) := by
      unfold Addr.add
      by_cases hp : p = 0 <;> by_cases hj : j = 0 <;> simp [hp, hj, Nat.add_assoc]
    rw [e]
    have hb : (ad.add (p + j)).block = ad.block := by unfold Addr.add; split <;> rfl
    have hlt : ad.block < w.heap.size := by
      have := World.block_lt_of_cell? w _ (hc (p + j) (by omega))
      rwa [hb] at this
    rw [World.cell?_of_block (w := w) (by rw [hb]; exact hw _ hlt)]
    exact hc (p + j) (by omega)

/-- append of a slice of bytes, at a step of a region that draws its order. -/
theorem step_append_has {w : World} {ops : Array Oper} {o : Oper} {a : Act} {K : Act → World → Prop} {Q : Exit → Act → World → Prop} {E : Prop} (hgd : o.guard = none) (sl x : Operand)
    (ho : o.op = .call { callee := .builtin .append, args := #[sl, x], argTypes := #[25, 25] })
    (base : Nat) (v : Value) (n : Nat) (xs : List Value) (hs : a.eval sl = v) (hown : w.ownsRow base 5 1 v n xs) (hbase : base ≤ w.heap.size) (ao : Option Addr) (m cap : Nat) (hx : a.eval x = .slice ao m cap) (bs : List UInt8) (hm : bs.length = m) (hn : ao = none → cap = 0) (hh : Has w ao bs) (hb : n + m ≤ 140737488355328)
    (h : ∀ ao' cap' w', w'.ownsRow base 5 1 (.slice ao' (n + m) cap') (n + m) (xs ++ cells bs) → w.grownBy w' v.ownBlock → ((Value.slice ao' (n + m) cap').ownBlock = v.ownBlock ∨ (Value.slice ao' (n + m) cap').ownBlock = some w.heap.size) → K (a.put o.dst (.slice ao' (n + m) cap')) w') :
    if Region.wanted o (yielded ops a.tmps) = true then Oper.wp Try.prog o a w K Q else E := by
  have hw : Region.wanted o (yielded ops a.tmps) = true := by simp [Region.wanted, hgd]
  rw [if_pos hw]
  obtain ⟨v', w', hr, h2, h3, h4⟩ := append_has w o.type base v n xs hown hbase ao m cap bs hm hn hh hb
  obtain ⟨ao', cap', rfl⟩ := own_shape h2
  unfold Oper.wp execOp
  simp only [ho, resolve, invoke, builtin, Sem.run_bind, Sem.run_pure, Result.andThen_ok, List.map_toArray, List.map_cons, List.map_nil, hs, hx, hr]
  exact h ao' cap' w' h2 h3 h4

set_option maxRecDepth 100000 in
set_option maxHeartbeats 1000000 in
theorem fraw_any {w : World} {B : Nat} {ao : Option Addr} {cap : Nat} {bs : List UInt8} {s : RS} (n : Nat) (h : Rf w B (.slice ao bs.length cap) bs s) (hh : Has w ao bs) (hn : ao = none → cap = 0) (hcap : bs.length ≤ cap) (hsmall : (n : Int) ≤ 4294967296) :
    Calls Try.prog 67 #[.pointer (some ⟨B, 0, none⟩), .int .i64 n] w fun e w' => ∃ r, e = .returned r ∧ w'.ownsRow w.heap.size 5 1 r (s.raw bs n).1.length (cells (s.raw bs n).1) ∧ Rf w' B (.slice ao bs.length cap) bs (s.raw bs n).2 ∧ Kept (· ≠ B) w w' := by
  have hrf := h
  have hBlt := h.lt
  obtain ⟨⟨a, y, z, hh5, h1, h2⟩, hpos, hbig⟩ := h
  by_cases hs : s.why = 0
  · have e0 : decide (s.why ≠ 0) = false := by simp [hs]
    rw [e0] at hh5
    obtain ⟨c0, c1, c2, c3, c4, hf⟩ := five_cell hh5
    have ha := h1 hs
    subst ha
    have hpos' : (s.pos : Int) ≤ (bs.length : Int) := by omega
    by_cases hl : s.pos + n ≤ bs.length
    · have e : s.raw bs n = ((bs.drop s.pos).take n, ⟨s.pos + n, 0⟩) := by simp only [RS.raw, if_pos hs, if_pos hl]
      rw [e]
      obtain ⟨ao', cap', hsl, hn', hcut⟩ := cut_has hh hn hcap s.pos n hl
      have hnl : ¬ ((bs.length : Int) - (s.pos : Int) < (n : Int)) := by omega
      have HC := hcut
      have HN : Hid (ao' = none → cap' = 0) := hn'
      have HCUT : Hid (∀ w', (∀ b, b < w.heap.size → w'.heap[b]? = w.heap[b]?) → Has w' ao' ((bs.drop s.pos).take n)) := hcut
      have hlen : ((bs.drop s.pos).take n).length = n := by simp; omega
      have HL : Hid (((bs.drop s.pos).take n).length = n) := hlen
      generalize (bs.drop s.pos).take n = out at *
      have hp5 : (s.pos : Int) + (n : Int) ≤ (bs.length : Int) := by omega
      clear h1 h2 hs e0 e hl hn' hcut HC hlen hh hn hrf
      go_enter Try.func67, Try.ntmps67
      go_wp2
      go_quiet (fail)
      go_wp2
      have fw : IntKind.i64.wrap ((s.pos : Int) + (n : Int)) = (s.pos : Int) + (n : Int) := by simp [IntKind.wrap, IntKind.bits, IntKind.signed]; omega
      have b0 : ∀ m o, ((w.drewN m).alloc o).cell? ⟨B, 0, none⟩ = some (.slice ao bs.length cap) := fun m o => (World.cell?_alloc_past (w := w.drewN m) o B 0 (by simpa using hBlt)).trans (by simpa using c0)
      have b1 : ∀ m o, ((w.drewN m).alloc o).cell? ⟨B, 1, none⟩ = some (.int .i64 s.pos) := fun m o => (World.cell?_alloc_past (w := w.drewN m) o B 1 (by simpa using hBlt)).trans (by simpa using c1)
      go_region_law
        ((refine step_append_has rfl (.tmp 29) (.tmp 44) rfl w.heap.size (.slice (some ⟨w.heap.size, 0, none⟩) 0 0) 0 [] (by rfl) (own_new (w.drewN (nq + 1)) w.heap.size (by simp)) (by simp) ao' n cap' (by rfl) out HL.out HN.out (HCUT.out _ (fun b hb => Below.heap_alloc (w.drewN (nq + 1)) _ b (by simpa using hb))) (by omega) ?_; intro a2 c2 w2 ho hg hat; simp only [Nat.zero_add, List.nil_append] at ho; have k2 : Kept (fun _ => True) w w2 := ((Kept.refl _ w).drewN (nq + 1)).trans (fresh_one (w := w.drewN (nq + 1)) hg); have d1 : w2.cell? ⟨B, 1, none⟩ = some (.int .i64 s.pos) := (kept_cell k2 hBlt trivial).trans c1; have df : w2.frozen? ⟨B, 1, none⟩ = false := (kept_frozen k2 hBlt trivial).trans (hf 1)))
      all_goals
        clear b0 b1 hsl hg
        go_wp2
        go_ret
        refine ⟨_, rfl, ?_, ⟨⟨(s.pos : Int) + n, y, z, ?_, fun _ => by simp, fun h => absurd rfl h⟩, by (show s.pos + n ≤ bs.length); omega, hbig⟩, (k2.mono (fun _ _ _ => trivial)).setCell (by simp) _⟩
        · have hB2 : (Value.slice a2 n c2).ownBlock ≠ some B := fun h => by have := (ho.lt B h).1; omega
          rw [HL.out]
          exact ownsRow_setCell_other ho (a := ⟨B, 1, none⟩) hB2 _
        · have e1 : decide ((⟨s.pos + n, 0⟩ : RS).why ≠ 0) = false := by simp
          rw [e1]
          exact five_set1 ((k2.block B hBlt trivial).trans hh5) _
    · have e : s.raw bs n = ([], ⟨bs.length, 10⟩) := by simp only [RS.raw, if_pos hs, if_neg hl]
      rw [e]
      have hnl : (bs.length : Int) - (s.pos : Int) < (n : Int) := by omega
      have c := frefuse_yes (w := w) 10 bs.length hrf hs (by decide) (Nat.le_refl _)
      have HC : Hid (∀ m, Calls Try.prog 87 #[.pointer (some ⟨B, 0, none⟩), .int .i64 10, .int .i64 bs.length] (w.drewN m) fun e w' => e = .returned (.tuple #[]) ∧ Rf w' B (.slice ao bs.length cap) bs ⟨bs.length, 10⟩ ∧ Kept (· ≠ B) (w.drewN m) w') := fun m => frefuse_yes 10 bs.length (hrf.kept ((Kept.refl (fun _ => True) w).drewN m) trivial) hs (by decide) (Nat.le_refl _)
      clear h1 h2 hs e0 e hl c hh hn hrf
      go_enter Try.func67, Try.ntmps67
      go_wp2
      go_quiet (fail)
      go_wp2_with fail
      refine Calls.mono (HC.out _) ?_
      rintro e w2 ⟨rfl, g1, g2⟩
      go_wp2
      go_ret
      exact ⟨_, rfl, World.ownsRow_nil _ _ _ _, g1, ((Kept.refl _ w).drewN nq).trans g2⟩
  · have e : s.raw bs n = ([], s) := by simp only [RS.raw, if_neg hs]
    rw [e]
    have e0 : decide (s.why ≠ 0) = true := by simpa using hs
    rw [e0] at hh5
    obtain ⟨c0, c1, c2, c3, c4, hf⟩ := five_cell hh5
    clear h1 h2 hs e0 e hh hn
    go_enter Try.func67, Try.ntmps67
    go_wp2
    go_ret
    exact ⟨_, rfl, World.ownsRow_nil _ _ _ _, hrf, Kept.refl _ _⟩

end Go.Proofs.Ytbooeabmpdpgpaa

namespace Go.Proofs.Ytbooeabmpdpgpaa
open Go.RowKit

theorem RS.raw_num (s : RS) (bs : List UInt8) (n : Nat) : s.num bs n = (be (s.raw bs n).1, (s.raw bs n).2) := by
  unfold RS.num RS.raw
  split
  · split <;> simp [be]
  · simp [be]
theorem RS.raw_len (s : RS) (bs : List UInt8) (n : Nat) : (s.raw bs n).1.length ≤ n := by
  unfold RS.raw
  split
  · split <;> simp <;> omega
  · simp
theorem RS.text_raw (s : RS) (bs : List UInt8) (m : Int) : s.text bs m = ((s.count bs m).2.raw bs (s.count bs m).1) := by
  have hc := s.count_no bs m
  unfold RS.text RS.raw
  by_cases hw : (s.count bs m).2.why = 0
  · by_cases hl : (s.count bs m).2.pos + (s.count bs m).1 ≤ bs.length
    · rw [if_neg (by unfold RS.left leftOf; rw [if_pos hw]; omega), if_pos hw, if_pos hl]
      rw [hw]
    · rw [if_pos (by unfold RS.left leftOf; rw [if_pos hw]; omega), if_pos hw, if_neg hl]
  · have h0 := hc hw
    rw [if_neg (by unfold RS.left leftOf; rw [if_neg hw]; omega), if_neg hw, h0]
    simp

/-- What a Reader of the document stands on. -/
structure Rg (w : World) (B : Nat) (ao : Option Addr) (cap : Nat) (bs : List UInt8) (s : RS) : Prop where
  rf : Rf w B (.slice ao bs.length cap) bs s
  has : Has w ao bs
  nil : ao = none → cap = 0
  cap : bs.length ≤ cap
  far : ∀ ad, ao = some ad → 0 < bs.length → ad.block ≠ B

theorem Rg.kept {p : Nat → Prop} {w w' : World} {B : Nat} {ao : Option Addr} {cap : Nat} {bs : List UInt8} {s : RS} (h : Rg w B ao cap bs s) (hk : Kept p w w') (hB : p B) (ha : ∀ ad, ao = some ad → 0 < bs.length → p ad.block) : Rg w' B ao cap bs s := by
  refine ⟨h.rf.kept hk hB, fun h0 => ?_, h.nil, h.cap, h.far⟩
  exact Has.kept h.has hk (fun x hx => ha x hx h0) h0
theorem Rg.mine {w w' : World} {B : Nat} {ao : Option Addr} {cap : Nat} {bs : List UInt8} {s s' : RS} (h : Rg w B ao cap bs s) (hr : Rf w' B (.slice ao bs.length cap) bs s') (hk : Kept (· ≠ B) w w') : Rg w' B ao cap bs s' := by
  refine ⟨hr, fun h0 => ?_, h.nil, h.cap, h.far⟩
  exact Has.kept h.has hk (fun x hx => h.far x hx h0) h0

theorem be_take_succ (l : List UInt8) (j : Nat) (h : j < l.length) : be (l.take (j + 1)) = be (l.take j) * 256 + (l[j]).toNat := by
  rw [List.take_succ_eq_append_getElem h, be_snoc]

set_option maxRecDepth 100000 in
set_option maxHeartbeats 1000000 in
theorem fnumber_any {w : World} {B : Nat} {ao : Option Addr} {cap : Nat} {bs : List UInt8} {s : RS} (n : Nat) (h : Rg w B ao cap bs s) (hn : n ≤ 8) :
    Calls Try.prog 79 #[.pointer (some ⟨B, 0, none⟩), .int .i64 n] w fun e w' => e = .returned (.int .u64 ((s.num bs n).1 : Nat)) ∧ Rg w' B ao cap bs (s.num bs n).2 ∧ Kept (· ≠ B) w w' := by
  have c := fraw_any n h.rf h.has h.nil h.cap (by omega)
  have hl := s.raw_len bs n
  rw [s.raw_num bs n]
  generalize s.raw bs n = r at *
  obtain ⟨out, t⟩ := r
  simp only at *
  go_enter Try.func79, Try.ntmps79
  go_wp2_with fail
  refine Calls.mono c ?_
  rintro e w1 ⟨r, rfl, g1, g2, g3⟩
  have hg := h.mine g2 g3
  obtain ⟨ro, rc, rfl⟩ := own_shape g1
  have hh := own_has g1
  have HH : Hid (Has w1 ro out) := hh
  clear hh g1 c
  go_wp2
  go_loop [6, 7] (fun x t => ∃ k : Nat, k ≤ out.length ∧ t = .int .i64 k ∧ x = .int .u64 (be (out.take k))) (fun _ t => out.length - (intOf t).toNat)
  case atStart => exact ⟨0, Nat.zero_le _, rfl, by simp [be]⟩
  case round =>
    obtain ⟨k, hk, rfl, rfl⟩ := hrel
    by_cases hlt : k < out.length
    · obtain ⟨ad, rfl, hc⟩ := HH.out (by omega)
      obtain ⟨b, off, spot⟩ := ad
      have hspot : spot = none := by simpa [Addr.add] using World.cell?_spot (hc 0 (by omega))
      subst hspot
      have hck := hc k hlt
      rw [WideShapes.add_plain] at hck
      have hN : be (out.take k) < 72057594037927936 := be_lt56 _ (by simp; omega)
      have S := or_byte (be (out.take k)) (out[k]) hN
      rw [← be_take_succ out k hlt] at S
      have hkl : (k : Int) < (out.length : Int) := by omega
      generalize be (out.take k) = N at *
      generalize hM : be (out.take (k + 1)) = M at *
      have HM : Hid (be (out.take (k + 1)) = M) := hM
      clear hM hc
      go_wp2
      go_round
      case rel => exact ⟨k + 1, by omega, by go_num, by rw [HM.out]⟩
      case measure => simp [intOf]; omega
    · have hkl : ¬ ((k : Int) < (out.length : Int)) := by omega
      obtain rfl : k = out.length := by omega
      rw [List.take_length]
      go_wp2
      go_ret
      exact ⟨rfl, hg, g3⟩

set_option maxHeartbeats 400000 in
theorem fbyte_any {w : World} {B : Nat} {ao : Option Addr} {cap : Nat} {bs : List UInt8} {s : RS} (h : Rg w B ao cap bs s) :
    Calls Try.prog 46 #[.pointer (some ⟨B, 0, none⟩)] w fun e w' => e = .returned (.int .i64 ((s.num bs 1).1 : Nat)) ∧ Rg w' B ao cap bs (s.num bs 1).2 ∧ Kept (· ≠ B) w w' := by
  have hlt := s.num_lt1 bs
  have c := fnumber_any 1 h (by decide)
  generalize s.num bs 1 = r at *
  go_enter Try.func46, Try.ntmps46
  go_wp2_with (go_at_call 79; refine Calls.mono c ?_; rintro e w' ⟨rfl, h1, h2⟩)
  go_ret
  exact ⟨by simp, h1, h2⟩

set_option maxHeartbeats 400000 in
theorem ffour_any {w : World} {B : Nat} {ao : Option Addr} {cap : Nat} {bs : List UInt8} {s : RS} (h : Rg w B ao cap bs s) :
    Calls Try.prog 86 #[.pointer (some ⟨B, 0, none⟩)] w fun e w' => e = .returned (.int .i64 ((s.num bs 4).1 : Nat)) ∧ Rg w' B ao cap bs (s.num bs 4).2 ∧ Kept (· ≠ B) w w' := by
  have hlt := s.num_lt4 bs
  have c := fnumber_any 4 h (by decide)
  generalize s.num bs 4 = r at *
  go_enter Try.func86, Try.ntmps86
  go_wp2_with (go_at_call 79; refine Calls.mono c ?_; rintro e w' ⟨rfl, h1, h2⟩)
  go_ret
  exact ⟨by simp, h1, h2⟩

set_option maxHeartbeats 400000 in
theorem fcount_any {w : World} {B : Nat} {ao : Option Addr} {cap : Nat} {bs : List UInt8} {s : RS} (most : Int) (h : Rg w B ao cap bs s) :
    Calls Try.prog 66 #[.pointer (some ⟨B, 0, none⟩), .int .i64 most] w fun e w' => e = .returned (.int .i64 ((s.count bs most).1 : Nat)) ∧ Rg w' B ao cap bs (s.count bs most).2 ∧ Kept (· ≠ B) w w' := by
  have hlt := s.num_lt4 bs
  have hno := s.num_no bs 4
  have c := ffour_any h
  obtain ⟨a, y, z, hh5, hp, _⟩ := h.rf.self
  obtain ⟨c0, c1, c2, c3, c4, hf⟩ := five_cell hh5
  have hpos := h.rf.pos
  have hnum : (s.num bs 4).2.why = 0 → s.why = 0 := by
    intro h
    by_cases hs : s.why = 0
    · exact hs
    · have e : s.num bs 4 = (0, s) := by simp only [RS.num, if_neg hs]
      rw [e] at h; exact h
  unfold RS.count
  generalize s.num bs 4 = r at *
  obtain ⟨n, t⟩ := r
  simp only at *
  by_cases hm : max most 0 < (n : Int)
  · rw [if_pos hm]
    have ht : t.why = 0 := by
      by_cases h0 : t.why = 0
      · exact h0
      · have := hno h0; omega
    have ha := hp (hnum ht)
    subst ha
    have HT : Hid (t.why = 0) := ht
    clear hno hnum hp ht c0 c2 c3 c4 hh5
    by_cases h0 : 0 ≤ most
    all_goals
      first | (have hm' : most < (n : Int) := by omega) | skip
      have hm2 : (0 : Int) < (n : Int) := by omega
      first | (have hq : ¬ (most < 0) := by omega) | (have hq : most < 0 := by omega)
      clear hm
      go_enter Try.func66, Try.ntmps66
      go_wp2_with (first
        | (go_at_call 86; refine Calls.mono c ?_; rintro e w1 ⟨rfl, h1, h2⟩; obtain ⟨a', y', z', hh', _, _⟩ := h1.rf.self; rw [show decide (t.why ≠ 0) = false from by simp [HT.out]] at hh'; obtain ⟨_, _, d2, _, _, _⟩ := five_cell hh')
        | (go_at_call 87; refine Calls.mono (frefuse_yes 3 s.pos h1.rf HT.out (by decide) hpos) ?_; rintro e w2 ⟨rfl, h3, h4⟩))
      go_ret
      exact ⟨by simp, h1.mine h3 h4, h2.trans h4⟩
  · rw [if_neg hm]
    have hm' : (n : Int) ≤ max most 0 := by omega
    clear hno hnum hp c0 c2 c3 c4 hh5 hm
    by_cases ht : t.why = 0
    · by_cases h0 : most < 0
      · have hn0 : (n : Int) ≤ 0 := by omega
        clear hm'
        go_enter Try.func66, Try.ntmps66
        go_wp2_with (go_at_call 86; refine Calls.mono c ?_; rintro e w1 ⟨rfl, h1, h2⟩; obtain ⟨a', y', z', hh', _, _⟩ := h1.rf.self; rw [show decide (t.why ≠ 0) = false from by simp [ht]] at hh'; obtain ⟨_, _, d2, _, _, _⟩ := five_cell hh')
        go_ret
        exact ⟨by simp, h1, h2⟩
      · have hn0 : (n : Int) ≤ most := by omega
        clear hm'
        go_enter Try.func66, Try.ntmps66
        go_wp2_with (go_at_call 86; refine Calls.mono c ?_; rintro e w1 ⟨rfl, h1, h2⟩; obtain ⟨a', y', z', hh', _, _⟩ := h1.rf.self; rw [show decide (t.why ≠ 0) = false from by simp [ht]] at hh'; obtain ⟨_, _, d2, _, _, _⟩ := five_cell hh')
        go_ret
        exact ⟨by simp, h1, h2⟩
    · clear hm'
      by_cases h0 : most < 0
      all_goals
        go_enter Try.func66, Try.ntmps66
        go_wp2_with (go_at_call 86; refine Calls.mono c ?_; rintro e w1 ⟨rfl, h1, h2⟩; obtain ⟨a', y', z', hh', _, _⟩ := h1.rf.self; rw [show decide (t.why ≠ 0) = true from by simpa using ht] at hh'; obtain ⟨_, _, d2, _, _, _⟩ := five_cell hh')
        go_ret
        exact ⟨by simp, h1, h2⟩

set_option maxHeartbeats 400000 in
theorem ftext_any {w : World} {B : Nat} {ao : Option Addr} {cap : Nat} {bs : List UInt8} {s : RS} (most : Int) (h : Rg w B ao cap bs s) :
    Calls Try.prog 47 #[.pointer (some ⟨B, 0, none⟩), .int .i64 most] w fun e w' => e = .returned (.string ⟨(s.text bs most).1.toArray⟩) ∧ Rg w' B ao cap bs (s.text bs most).2 ∧ Kept (· ≠ B) w w' := by
  have hlt := s.count_lt bs most
  have c := fcount_any most h
  rw [s.text_raw bs most]
  generalize s.count bs most = r at *
  obtain ⟨n, t⟩ := r
  simp only at *
  go_enter Try.func47, Try.ntmps47
  go_wp2_with (first
    | (go_at_call 66; refine Calls.mono c ?_; rintro e w1 ⟨rfl, h1, h2⟩)
    | (go_at_call 67; refine Calls.mono (fraw_any n h1.rf h1.has h1.nil h1.cap (by omega)) ?_; rintro e w2 ⟨r, rfl, g1, g2, g3⟩; have hcv := conv_own g1))
  go_ret
  exact ⟨rfl, h1.mine g2 g3, h2.trans g3⟩

end Go.Proofs.Ytbooeabmpdpgpaa
