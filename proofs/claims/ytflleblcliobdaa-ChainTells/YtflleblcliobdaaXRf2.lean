/-
  The document's own Reader (conclaveref1): Raw and number.
-/
import Derived.Test.YtflleblcliobdaaXRef1
import Derived.Deep.RegionLaw
import Derived.BigRegion
namespace Go.Proofs.Ytflleblcliobdaa
open Go.RowKit

set_option maxRecDepth 100000 in
/-- A cut of a slice of bytes, as a slice of bytes. -/
theorem cut_has {w : World} {ao : Option Addr} {bs : List UInt8} {cap : Nat} (hh : Has w ao bs) (hn : ao = none → cap = 0) (hcap : bs.length ≤ cap) (p n : Nat) (hpn : p + n ≤ bs.length) :
    ∃ ao' cap', (∀ w0, (Instr.slice 31 (.slice ao bs.length cap) (some (.int .i64 (p : Int))) (some (.int .i64 ((p : Int) + (n : Int)))) none).run Try.prog w0 = .ok (.slice ao' n cap') w0) ∧ (ao' = none → cap' = 0) ∧
      ∀ w', (∀ b, b < w.heap.size → w'.heap[b]? = w.heap[b]?) → Has w' ao' ((bs.drop p).take n) := by
  refine ⟨if cap = p then ao else ao.map (·.add p), cap - p, fun w0 => ?_, fun h => ?_, fun w' hw => ?_⟩
  · rw [run_slice_lh (P := Try.prog) w0 31 ao bs.length cap Try.underlying31 .i64 .i64 p (p + n) (by omega) (by omega) (by omega)]
    have e1 : ((p : Int) + (n : Int)).toNat = p + n := by omega
    rw [size_u8]
    simp only [Result.andThen, sliced, e1, Int.toNat_natCast, Nat.add_sub_cancel_left, Nat.mul_one]
  · by_cases hc : cap = p
    · omega
    · rw [if_neg hc] at h
      have : ao = none := by simpa using h
      have := hn this
      omega
  · intro h0
    have hl : ((bs.drop p).take n).length = n := by simp; omega
    rw [hl] at h0
    obtain ⟨ad, rfl, hc⟩ := hh (by omega)
    rw [if_neg (by omega)]
    refine ⟨ad.add p, rfl, fun j hj => ?_⟩
    rw [hl] at hj
    rw [List.getElem_take, List.getElem_drop]
    have e : (ad.add p).add j = ad.add (p + j) := by
      unfold Addr.add
      by_cases hp : p = 0 <;> by_cases hj : j = 0 <;> simp [hp, hj, Nat.add_assoc]
    rw [e]
    have hb : (ad.add (p + j)).block = ad.block := by unfold Addr.add; split <;> rfl
    have hlt : ad.block < w.heap.size := by
      have := World.block_lt_of_cell? w _ (hc (p + j) (by omega))
      rwa [hb] at this
    rw [World.cell?_of_block (w := w) (by rw [hb]; exact hw _ hlt)]
    exact hc (p + j) (by omega)

/-- append of a slice of bytes, at a step of a region that draws its order. -/
theorem step_append_has {w : World} {ops : Array Oper} {o : Oper} {a : Act} {K : Act → World → Prop} {Q : Exit → Act → World → Prop} {E : Prop} (hgd : o.guard = none) (sl x : Operand)
    (ho : o.op = .call { callee := .builtin .append, args := #[sl, x], argTypes := #[31, 31] })
    (base : Nat) (v : Value) (n : Nat) (xs : List Value) (hs : a.eval sl = v) (hown : w.ownsRow base 5 1 v n xs) (hbase : base ≤ w.heap.size) (ao : Option Addr) (m cap : Nat) (hx : a.eval x = .slice ao m cap) (bs : List UInt8) (hm : bs.length = m) (hn : ao = none → cap = 0) (hh : Has w ao bs) (hb : n + m ≤ 140737488355328)
    (h : ∀ ao' cap' w', w'.ownsRow base 5 1 (.slice ao' (n + m) cap') (n + m) (xs ++ cells bs) → w.grownBy w' v.ownBlock → ((Value.slice ao' (n + m) cap').ownBlock = v.ownBlock ∨ (Value.slice ao' (n + m) cap').ownBlock = some w.heap.size) → K (a.put o.dst (.slice ao' (n + m) cap')) w') :
    if Region.wanted o (yielded ops a.tmps) = true then Oper.wp Try.prog o a w K Q else E := by
  have hw : Region.wanted o (yielded ops a.tmps) = true := by simp [Region.wanted, hgd]
  rw [if_pos hw]
  obtain ⟨v', w', hr, h2, h3, h4⟩ := append_has w o.type base v n xs hown hbase ao m cap bs hm hn hh hb
  obtain ⟨ao', cap', rfl⟩ := own_shape h2
  unfold Oper.wp execOp
  simp only [ho, resolve, invoke, builtin, Sem.run_bind, Sem.run_pure, Result.andThen_ok, List.map_toArray, List.map_cons, List.map_nil, hs, hx, hr]
  exact h ao' cap' w' h2 h3 h4

set_option maxRecDepth 100000 in
set_option maxHeartbeats 1000000 in
theorem fraw_any {w : World} {B : Nat} {ao : Option Addr} {cap : Nat} {bs : List UInt8} {s : RS} (n : Nat) (h : Rf w B (.slice ao bs.length cap) bs s) (hh : Has w ao bs) (hn : ao = none → cap = 0) (hcap : bs.length ≤ cap) (hsmall : (n : Int) ≤ 4294967296) :
    Calls Try.prog 46 #[.pointer (some ⟨B, 0, none⟩), .int .i64 n] w fun e w' => ∃ r, e = .returned r ∧ w'.ownsRow w.heap.size 5 1 r (s.raw bs n).1.length (cells (s.raw bs n).1) ∧ Rf w' B (.slice ao bs.length cap) bs (s.raw bs n).2 ∧ Kept (· ≠ B) w w' := by
  have hrf := h
  have hBlt := h.lt
  obtain ⟨⟨a, y, z, hh5, h1, h2⟩, hpos, hbig⟩ := h
  by_cases hs : s.why = 0
  · have e0 : decide (s.why ≠ 0) = false := by simp [hs]
    rw [e0] at hh5
    obtain ⟨c0, c1, c2, c3, c4, hf⟩ := five_cell hh5
    have ha := h1 hs
    subst ha
    have hpos' : (s.pos : Int) ≤ (bs.length : Int) := by omega
    by_cases hl : s.pos + n ≤ bs.length
    · have e : s.raw bs n = ((bs.drop s.pos).take n, ⟨s.pos + n, 0⟩) := by simp only [RS.raw, if_pos hs, if_pos hl]
      rw [e]
      obtain ⟨ao', cap', hsl, hn', hcut⟩ := cut_has hh hn hcap s.pos n hl
      have hnl : ¬ ((bs.length : Int) - (s.pos : Int) < (n : Int)) := by omega
      have HC := hcut
      have HN : Hid (ao' = none → cap' = 0) := hn'
      have HCUT : Hid (∀ w', (∀ b, b < w.heap.size → w'.heap[b]? = w.heap[b]?) → Has w' ao' ((bs.drop s.pos).take n)) := hcut
      have hlen : ((bs.drop s.pos).take n).length = n := by simp; omega
      have HL : Hid (((bs.drop s.pos).take n).length = n) := hlen
      generalize (bs.drop s.pos).take n = out at *
      have hp5 : (s.pos : Int) + (n : Int) ≤ (bs.length : Int) := by omega
      clear h1 h2 hs e0 e hl hn' hcut HC hlen hh hn hrf
      go_enter Try.func46, Try.ntmps46
      go_wp2
      go_quiet (fail)
      go_wp2
      have fw : IntKind.i64.wrap ((s.pos : Int) + (n : Int)) = (s.pos : Int) + (n : Int) := by simp [IntKind.wrap, IntKind.bits, IntKind.signed]; omega
      have b0 : ∀ m o, ((w.drewN m).alloc o).cell? ⟨B, 0, none⟩ = some (.slice ao bs.length cap) := fun m o => (World.cell?_alloc_past (w := w.drewN m) o B 0 (by simpa using hBlt)).trans (by simpa using c0)
      have b1 : ∀ m o, ((w.drewN m).alloc o).cell? ⟨B, 1, none⟩ = some (.int .i64 s.pos) := fun m o => (World.cell?_alloc_past (w := w.drewN m) o B 1 (by simpa using hBlt)).trans (by simpa using c1)
      go_region_law
        ((refine step_append_has rfl (.tmp 29) (.tmp 44) rfl w.heap.size (.slice (some ⟨w.heap.size, 0, none⟩) 0 0) 0 [] (by rfl) (own_new (w.drewN (nq + 1)) w.heap.size (by simp)) (by simp) ao' n cap' (by rfl) out HL.out HN.out (HCUT.out _ (fun b hb => Below.heap_alloc (w.drewN (nq + 1)) _ b (by simpa using hb))) (by omega) ?_; intro a2 c2 w2 ho hg hat; simp only [Nat.zero_add, List.nil_append] at ho; have k2 : Kept (fun _ => True) w w2 := ((Kept.refl _ w).drewN (nq + 1)).trans (fresh_one (w := w.drewN (nq + 1)) hg); have d1 : w2.cell? ⟨B, 1, none⟩ = some (.int .i64 s.pos) := (kept_cell k2 hBlt trivial).trans c1; have df : w2.frozen? ⟨B, 1, none⟩ = false := (kept_frozen k2 hBlt trivial).trans (hf 1)))
      all_goals
        clear b0 b1 hsl hg
        go_wp2
        go_ret
        refine ⟨_, rfl, ?_, ⟨⟨(s.pos : Int) + n, y, z, ?_, fun _ => by simp, fun h => absurd rfl h⟩, by (show s.pos + n ≤ bs.length); omega, hbig⟩, (k2.mono (fun _ _ _ => trivial)).setCell (by simp) _⟩
        · have hB2 : (Value.slice a2 n c2).ownBlock ≠ some B := fun h => by have := (ho.lt B h).1; omega
          rw [HL.out]
          exact ownsRow_setCell_other ho (a := ⟨B, 1, none⟩) hB2 _
        · have e1 : decide ((⟨s.pos + n, 0⟩ : RS).why ≠ 0) = false := by simp
          rw [e1]
          exact five_set1 ((k2.block B hBlt trivial).trans hh5) _
    · have e : s.raw bs n = ([], ⟨bs.length, 10⟩) := by simp only [RS.raw, if_pos hs, if_neg hl]
      rw [e]
      have hnl : (bs.length : Int) - (s.pos : Int) < (n : Int) := by omega
      have c := frefuse_yes (w := w) 10 bs.length hrf hs (by decide) (Nat.le_refl _)
      have HC : Hid (∀ m, Calls Try.prog 58 #[.pointer (some ⟨B, 0, none⟩), .int .i64 10, .int .i64 bs.length] (w.drewN m) fun e w' => e = .returned (.tuple #[]) ∧ Rf w' B (.slice ao bs.length cap) bs ⟨bs.length, 10⟩ ∧ Kept (· ≠ B) (w.drewN m) w') := fun m => frefuse_yes 10 bs.length (hrf.kept ((Kept.refl (fun _ => True) w).drewN m) trivial) hs (by decide) (Nat.le_refl _)
      clear h1 h2 hs e0 e hl c hh hn hrf
      go_enter Try.func46, Try.ntmps46
      go_wp2
      go_quiet (fail)
      go_wp2_with fail
      refine Calls.mono (HC.out _) ?_
      rintro e w2 ⟨rfl, g1, g2⟩
      go_wp2
      go_ret
      exact ⟨_, rfl, World.ownsRow_nil _ _ _ _, g1, ((Kept.refl _ w).drewN nq).trans g2⟩
  · have e : s.raw bs n = ([], s) := by simp only [RS.raw, if_neg hs]
    rw [e]
    have e0 : decide (s.why ≠ 0) = true := by simpa using hs
    rw [e0] at hh5
    obtain ⟨c0, c1, c2, c3, c4, hf⟩ := five_cell hh5
    clear h1 h2 hs e0 e hh hn
    go_enter Try.func46, Try.ntmps46
    go_wp2
    go_ret
    exact ⟨_, rfl, World.ownsRow_nil _ _ _ _, hrf, Kept.refl _ _⟩

end Go.Proofs.Ytflleblcliobdaa
