/-
  Texts of the proofs, 32 of 52.
-/
import Derived.Test.YtmcaoimgmgjjiaaWAE
import Derived.Deep.RegionLaw
import Derived.BigRegion
import Derived.Test.YtmcaoimgmgjjiaaWN
namespace Go.Proofs.Ytmcaoimgmgjjiaa
open Go.RowKit

set_option maxRecDepth 100000 in
theorem cut_has {w : World} {ao : Option Addr} {bs : List UInt8} {cap : Nat} (hh : Has w ao bs) (hn : ao = none → cap = 0) (hcap : bs.length ≤ cap) (p n : Nat) (hpn : p + n ≤ bs.length) :
    ∃ ao' cap', (∀ w0, (Instr.slice 25 (.slice ao bs.length cap) (some (.int .i64 (p : Int))) (some (.int .i64 ((p : Int) + (n : Int)))) none).run Try.prog w0 = .ok (.slice ao' n cap') w0) ∧ (ao' = none → cap' = 0) ∧
      ∀ w', (∀ b, b < w.heap.size → w'.heap[b]? = w.heap[b]?) → Has w' ao' ((bs.drop p).take n) := by
  refine ⟨if cap = p then ao else ao.map (·.add p), cap - p, fun w0 => ?_, fun h => ?_, fun w' hw => ?_⟩
  · rw [run_slice_lh (P := Try.prog) w0 25 ao bs.length cap Try.underlying25 .i64 .i64 p (p + n) (by omega) (by omega) (by omega)]
    have e1 : ((p : Int) + (n : Int)).toNat = p + n := by omega
    rw [size_u8]
    simp only [Result.andThen, sliced, e1, Int.toNat_natCast, Nat.add_sub_cancel_left, Nat.mul_one]
  · by_cases hc : cap = p
    · omega
    · rw [if_neg hc] at h
      have : ao = none := by simpa using h
      have := hn this
      omega
  · intro h0
    have hl : ((bs.drop p).take n).length = n := by simp; omega
    rw [hl] at h0
    obtain ⟨ad, rfl, hc⟩ := hh (by omega)
    rw [if_neg (by omega)]
    refine ⟨ad.add p, rfl, fun j hj => ?_⟩
    rw [hl] at hj
    rw [List.getElem_take, List.getElem_drop]
    have e : (ad.add p).add j = ad.add (p + j) := by
      unfold Addr.add
      by_cases hp : p = 0 <;> by_cases hj : j = 0 <;> simp [hp, hj, Nat.add_assoc]
    rw [e]
    have hb : (ad.add (p + j)).block = ad.block := by unfold Addr.add; split <;> rfl
    have hlt : ad.block < w.heap.size := by
      have := World.block_lt_of_cell? w _ (hc (p + j) (by omega))
      rwa [hb] at this
    rw [World.cell?_of_block (w := w) (by rw [hb]; exact hw _ hlt)]
    exact hc (p + j) (by omega)

theorem step_append_has {w : World} {ops : Array Oper} {o : Oper} {a : Act} {K : Act → World → Prop} {Q : Exit → Act → World → Prop} {E : Prop} (hgd : o.guard = none) (sl x : Operand)
    (ho : o.op = .call { callee := .builtin .append, args := #[sl, x], argTypes := #[25, 25] })
    (base : Nat) (v : Value) (n : Nat) (xs : List Value) (hs : a.eval sl = v) (hown : w.ownsRow base 5 1 v n xs) (hbase : base ≤ w.heap.size) (ao : Option Addr) (m cap : Nat) (hx : a.eval x = .slice ao m cap) (bs : List UInt8) (hm : bs.length = m) (hn : ao = none → cap = 0) (hh : Has w ao bs) (hb : n + m ≤ 140737488355328)
    (h : ∀ ao' cap' w', w'.ownsRow base 5 1 (.slice ao' (n + m) cap') (n + m) (xs ++ cells bs) → w.grownBy w' v.ownBlock → ((Value.slice ao' (n + m) cap').ownBlock = v.ownBlock ∨ (Value.slice ao' (n + m) cap').ownBlock = some w.heap.size) → K (a.put o.dst (.slice ao' (n + m) cap')) w') :
    if Region.wanted o (yielded ops a.tmps) = true then Oper.wp Try.prog o a w K Q else E := by
  have hw : Region.wanted o (yielded ops a.tmps) = true := by simp [Region.wanted, hgd]
  rw [if_pos hw]
  obtain ⟨v', w', hr, h2, h3, h4⟩ := append_has w o.type base v n xs hown hbase ao m cap bs hm hn hh hb
  obtain ⟨ao', cap', rfl⟩ := own_shape h2
  unfold Oper.wp execOp
  simp only [ho, resolve, invoke, builtin, Sem.run_bind, Sem.run_pure, Result.andThen_ok, List.map_toArray, List.map_cons, List.map_nil, hs, hx, hr]
  exact h ao' cap' w' h2 h3 h4

set_option maxRecDepth 100000 in
set_option maxHeartbeats 1000000 in
theorem fraw_any {w : World} {B : Nat} {ao : Option Addr} {cap : Nat} {bs : List UInt8} {s : RS} (n : Nat) (h : Rf w B (.slice ao bs.length cap) bs s) (hh : Has w ao bs) (hn : ao = none → cap = 0) (hcap : bs.length ≤ cap) (hsmall : (n : Int) ≤ 4294967296) :
    Calls Try.prog 67 #[.pointer (some ⟨B, 0, none⟩), .int .i64 n] w fun e w' => ∃ r, e = .returned r ∧ w'.ownsRow w.heap.size 5 1 r (s.raw bs n).1.length (cells (s.raw bs n).1) ∧ Rf w' B (.slice ao bs.length cap) bs (s.raw bs n).2 ∧ Kept (· ≠ B) w w' := by
  have hrf := h
  have hBlt := h.lt
  obtain ⟨⟨a, y, z, hh5, h1, h2⟩, hpos, hbig⟩ := h
  by_cases hs : s.why = 0
  · have e0 : decide (s.why ≠ 0) = false := by simp [hs]
    rw [e0] at hh5
    obtain ⟨c0, c1, c2, c3, c4, hf⟩ := five_cell hh5
    have ha := h1 hs
    subst ha
    have hpos' : (s.pos : Int) ≤ (bs.length : Int) := by omega
    by_cases hl : s.pos + n ≤ bs.length
    · have e : s.raw bs n = ((bs.drop s.pos).take n, ⟨s.pos + n, 0⟩) := by simp only [RS.raw, if_pos hs, if_pos hl]
      rw [e]
      obtain ⟨ao', cap', hsl, hn', hcut⟩ := cut_has hh hn hcap s.pos n hl
      have hnl : ¬ ((bs.length : Int) - (s.pos : Int) < (n : Int)) := by omega
      have HC := hcut
      have HN : Hid (ao' = none → cap' = 0) := hn'
      have HCUT : Hid (∀ w', (∀ b, b < w.heap.size → w'.heap[b]? = w.heap[b]?) → Has w' ao' ((bs.drop s.pos).take n)) := hcut
      have hlen : ((bs.drop s.pos).take n).length = n := by simp; omega
      have HL : Hid (((bs.drop s.pos).take n).length = n) := hlen
      generalize (bs.drop s.pos).take n = out at *
      have hp5 : (s.pos : Int) + (n : Int) ≤ (bs.length : Int) := by omega
      clear h1 h2 hs e0 e hl hn' hcut HC hlen hh hn hrf
      go_enter Try.func67, Try.ntmps67
      go_wp2
      go_quiet (fail)
      go_wp2
      have fw : IntKind.i64.wrap ((s.pos : Int) + (n : Int)) = (s.pos : Int) + (n : Int) := by simp [IntKind.wrap, IntKind.bits, IntKind.signed]; omega
      have b0 : ∀ m o, ((w.drewN m).alloc o).cell? ⟨B, 0, none⟩ = some (.slice ao bs.length cap) := fun m o => (World.cell?_alloc_past (w := w.drewN m) o B 0 (by simpa using hBlt)).trans (by simpa using c0)
      have b1 : ∀ m o, ((w.drewN m).alloc o).cell? ⟨B, 1, none⟩ = some (.int .i64 s.pos) := fun m o => (World.cell?_alloc_past (w := w.drewN m) o B 1 (by simpa using hBlt)).trans (by simpa using c1)
      go_region_law
        ((refine step_append_has rfl (.tmp 29) (.tmp 44) rfl w.heap.size (.slice (some ⟨w.heap.size, 0, none⟩) 0 0) 0 [] (by rfl) (own_new (w.drewN (nq + 1)) w.heap.size (by simp)) (by simp) ao' n cap' (by rfl) out HL.out HN.out (HCUT.out _ (fun b hb => Below.heap_alloc (w.drewN (nq + 1)) _ b (by simpa using hb))) (by omega) ?_; intro a2 c2 w2 ho hg hat; simp only [Nat.zero_add, List.nil_append] at ho; have k2 : Kept (fun _ => True) w w2 := ((Kept.refl _ w).drewN (nq + 1)).trans (fresh_one (w := w.drewN (nq + 1)) hg); have d1 : w2.cell? ⟨B, 1, none⟩ = some (.int .i64 s.pos) := (kept_cell k2 hBlt trivial).trans c1; have df : w2.frozen? ⟨B, 1, none⟩ = false := (kept_frozen k2 hBlt trivial).trans (hf 1)))
      all_goals
        clear b0 b1 hsl hg
        go_wp2
        go_ret
        refine ⟨_, rfl, ?_, ⟨⟨(s.pos : Int) + n, y, z, ?_, fun _ => by simp, fun h => absurd rfl h⟩, by (show s.pos + n ≤ bs.length); omega, hbig⟩, (k2.mono (fun _ _ _ => trivial)).setCell (by simp) _⟩
        · have hB2 : (Value.slice a2 n c2).ownBlock ≠ some B := fun h => by have := (ho.lt B h).1; omega
          rw [HL.out]
          exact ownsRow_setCell_other ho (a := ⟨B, 1, none⟩) hB2 _
        · have e1 : decide ((⟨s.pos + n, 0⟩ : RS).why ≠ 0) = false := by simp
          rw [e1]
          exact five_set1 ((k2.block B hBlt trivial).trans hh5) _
    · have e : s.raw bs n = ([], ⟨bs.length, 10⟩) := by simp only [RS.raw, if_pos hs, if_neg hl]
      rw [e]
      have hnl : (bs.length : Int) - (s.pos : Int) < (n : Int) := by omega
      have c := frefuse_yes (w := w) 10 bs.length hrf hs (by decide) (Nat.le_refl _)
      have HC : Hid (∀ m, Calls Try.prog 87 #[.pointer (some ⟨B, 0, none⟩), .int .i64 10, .int .i64 bs.length] (w.drewN m) fun e w' => e = .returned (.tuple #[]) ∧ Rf w' B (.slice ao bs.length cap) bs ⟨bs.length, 10⟩ ∧ Kept (· ≠ B) (w.drewN m) w') := fun m => frefuse_yes 10 bs.length (hrf.kept ((Kept.refl (fun _ => True) w).drewN m) trivial) hs (by decide) (Nat.le_refl _)
      clear h1 h2 hs e0 e hl c hh hn hrf
      go_enter Try.func67, Try.ntmps67
      go_wp2
      go_quiet (fail)
      go_wp2_with fail
      refine Calls.mono (HC.out _) ?_
      rintro e w2 ⟨rfl, g1, g2⟩
      go_wp2
      go_ret
      exact ⟨_, rfl, World.ownsRow_nil _ _ _ _, g1, ((Kept.refl _ w).drewN nq).trans g2⟩
  · have e : s.raw bs n = ([], s) := by simp only [RS.raw, if_neg hs]
    rw [e]
    have e0 : decide (s.why ≠ 0) = true := by simpa using hs
    rw [e0] at hh5
    obtain ⟨c0, c1, c2, c3, c4, hf⟩ := five_cell hh5
    clear h1 h2 hs e0 e hh hn
    go_enter Try.func67, Try.ntmps67
    go_wp2
    go_ret
    exact ⟨_, rfl, World.ownsRow_nil _ _ _ _, hrf, Kept.refl _ _⟩

end Go.Proofs.Ytmcaoimgmgjjiaa

namespace Go.Proofs.Ytmcaoimgmgjjiaa
open Go.RowKit

theorem has_range {w : World} {b o : Nat} {bs : List UInt8} (h : w.rangeAt b o (cells bs)) : Has w (some ⟨b, o, none⟩) bs := by
  intro _
  refine ⟨_, rfl, fun j hj => ?_⟩
  rw [WideShapes.add_plain]
  exact h j _ (by rw [cells_getElem bs j hj])
theorem slice_at (B o : Nat) (w0 : World) : (Instr.sliceAt 78 (.pointer (some ⟨B, o, none⟩)) none none none).run Try.prog w0 = .ok (.slice (some ⟨B, o, none⟩) 32 32) w0 := by
  have hu : Try.prog.underlying 78 = some (.array (Try.prog.arrayLen 78) (Try.prog.elem 78)) := by kernel_rfl
  have hn : Try.prog.arrayLen 78 = 32 := by kernel_rfl
  have he : Try.prog.elem 78 = Try.prog.elem 25 := by kernel_rfl
  rw [run_sliceAt_array_all (P := Try.prog) w0 78 ⟨B, o, none⟩ hu, he, size_u8, hn]
  simp [Result.andThen, slicedAt, Addr.add]
def Ob (w : World) (base : Nat) (v : Value) (bs : List UInt8) : Prop := w.ownsRow base 5 1 v bs.length (cells bs)
theorem Ob.all {w w' : World} {base : Nat} {v : Value} {bs : List UInt8} (h : Ob w base v bs) (hk : Kept (fun _ => True) w w') : Ob w' base v bs := ownL_kept h hk (fun _ _ => trivial)

set_option maxRecDepth 100000 in
set_option maxHeartbeats 2000000 in
theorem rencode_any {w : World} {ao : Option Addr} {cap : Nat} {xs : List Li} (h : Lv w ao xs) (hn : xs.length ≤ 100000) (hw : wgt xs ≤ 100000000000) :
    Calls Try.prog 25 #[.slice ao xs.length cap] w fun e w' => ∃ a' c', e = .returned (.slice a' (encL xs).length c') ∧ Ob w' w.heap.size (.slice a' (encL xs).length c') (encL xs) ∧ Kept (fun _ => True) w w' := by
  have HV : Hid (Lv w ao xs) := h
  have HW : Hid (wgt xs ≤ 100000000000) := hw
  have c4 := rfour_any (w := w) (v := .slice none 0 0) (bs := []) (xs.length : Int) ⟨none, 0, rfl, fun _ => rfl, fun h => by simp at h⟩ (by simp)
  rw [u64_nat (by omega), List.nil_append] at c4
  clear h hw
  go_enter Try.func25, Try.ntmps25
  go_wp2_with (go_at_call 55; (with_reducible refine Calls.mono c4 ?_); rintro e w1 ⟨r1, rfl, h1, k1⟩; obtain ⟨a1, c1, rfl⟩ := own_shape h1)
  have H1 : Hid (Ob w1 w.heap.size (.slice a1 (enc (xs.length : Nat) 4).length c1) (enc (xs.length : Nat) 4)) := by
    exact h1
  have K1 : Hid (Kept (fun _ => True) w w1) := k1
  clear h1 k1 c4
  go_loopw [3, 4] (fun v t wr => ∃ (k : Nat) (a' : Option Addr) (c' : Nat), k ≤ xs.length ∧ t = .int .i64 k ∧ v = .slice a' (enc (xs.length : Nat) 4 ++ encB (xs.take k)).length c' ∧ Ob wr w.heap.size (.slice a' (enc (xs.length : Nat) 4 ++ encB (xs.take k)).length c') (enc (xs.length : Nat) 4 ++ encB (xs.take k)) ∧ Kept (fun _ => True) w wr) (fun _ t _ => xs.length - (intOf t).toNat)
  case atStart => exact ⟨0, a1, c1, Nat.zero_le _, rfl, by simp [encB], by simpa [encB] using H1.out, K1.out⟩
  case round =>
    obtain ⟨k, a', c', hk, rfl, rfl, ho, kr⟩ := hrel
    have lcur : (enc (xs.length : Nat) 4 ++ encB (xs.take k)).length ≤ 100000000004 := by
      rw [List.length_append, enc_length, encB_len]
      have := wgt_take_le xs k
      have := HW.out
      omega
    by_cases hlt : k < xs.length
    · obtain ⟨b, off, rfl, hb, hc⟩ := HV.out.row (by omega)
      have HR : Hid (wr.rangeAt b (off + k * 33) (lcell xs[k])) := range_kept (hc k hlt) kr hb trivial
      have i0 : (0 : Int) ≤ (k : Int) := by omega
      have i1 : (k : Int) < (xs.length : Int) := by omega
      have hS2 : (enc (xs.length : Nat) 4 ++ encB (xs.take (k + 1))).length ≤ 100000000004 := by
        rw [List.length_append, enc_length, encB_len]
        have := wgt_take_le xs (k + 1)
        have := HW.out
        omega
      have HS : Hid (enc (xs.length : Nat) 4 ++ encB (xs.take (k + 1)) = enc (xs.length : Nat) 4 ++ encB (xs.take k) ++ encI xs[k]) := by
        show _ = _
        rw [encB_take_succ xs k hlt, List.append_assoc]
      rw [HS.out, List.length_append, encI_len] at hS2
      have hbr : b < wr.heap.size := Nat.lt_of_lt_of_le hb kr.size
      have KR : Hid (Kept (fun _ => True) w wr) := kr
      have HO : Hid (Ob wr w.heap.size (.slice a' (enc (xs.length : Nat) 4 ++ encB (xs.take k)).length c') (enc (xs.length : Nat) 4 ++ encB (xs.take k))) := ho
      clear hc ho kr
      generalize enc (xs.length : Nat) 4 ++ encB (xs.take k) = cur at *
      generalize hnx : enc (xs.length : Nat) 4 ++ encB (xs.take (k + 1)) = nxt' at *
      have HNX : Hid (enc (xs.length : Nat) 4 ++ encB (xs.take (k + 1)) = nxt') := hnx
      clear hnx
      generalize xs[k] = x at *
      have LX : Hid (x.h.length = 32) := x.len
      obtain ⟨cur1, hcur1⟩ : ∃ c, c = cur ++ enc (x.t.length : Nat) 4 ++ x.t := ⟨_, rfl⟩
      obtain ⟨n1, hn1⟩ : ∃ n, n = cur1.length := ⟨_, rfl⟩
      have lc1 : n1 = cur.length + 4 + x.t.length := by rw [hn1, hcur1]; simp only [List.length_append, enc_length]
      have HF : Hid (nxt' = cur1 ++ x.h) := by
        show _ = _
        rw [HS.out, hcur1]
        unfold encI
        simp only [List.append_assoc]
      have HB2 : Hid (n1 + 32 ≤ 140737488355328) := by show _ ≤ _; omega
      have HN1 : Hid (n1 = cur1.length) := hn1
      have CT : ∀ W, Ob W w.heap.size (.slice a' cur.length c') cur → Calls Try.prog 50 #[.slice a' cur.length c', .string ⟨x.t.toArray⟩] W fun e w' => ∃ a5 c5, e = .returned (.slice a5 n1 c5) ∧ w'.ownsRow W.heap.size 5 1 (.slice a5 n1 c5) n1 (cells cur1) ∧ Kept (fun _ => True) W w' := fun W hW => by
        have es : ((⟨x.t.toArray⟩ : ByteArray).size : Int) = ((x.t.length : Nat) : Int) := by simp [ByteArray.size]
        have := rtext_any (w := W) (v := .slice a' cur.length c') (bs := cur) ⟨x.t.toArray⟩ (own_sl hW) (by simp [ByteArray.size]; omega)
        rw [es, u64_nat (by omega)] at this
        refine this.mono ?_
        rintro e w' ⟨r, rfl, h2, k2⟩
        have h3 : w'.ownsRow W.heap.size 5 1 r n1 (cells cur1) := by rw [hn1, hcur1]; exact h2
        have h4 : w'.ownsRow W.heap.size 5 1 r cur1.length (cells cur1) := by rw [← hn1]; exact h3
        obtain ⟨a5, c5, e5, _, _⟩ := own_sl h4
        rw [← hn1] at e5
        subst e5
        exact ⟨a5, c5, rfl, h3, k2⟩
      have hsl := fun (w0 : World) => slice_at b (off + k * 33 + 1) w0
      have ct : ∀ W, Kept (fun _ => True) wr W → W.cell? ⟨b, off + k * 33, none⟩ = some (.string ⟨x.t.toArray⟩) := fun W hW => range_text (range_kept HR.out hW hbr trivial)
      clear hS2 hcur1 hn1 lc1 lcur
      go_wp2
      refine Gz.begin (fun W => Kept (fun _ => True) wr W) (fun _ => false) (by kernel_rfl) ?_
      refine Gz.tk (i := 0) (oi := ⟨some 14, .move (.tmp 3), 25, _, _, none⟩) (v := ?_) rfl (by kernel_rfl) (fun _ _ _ h => h) (Or.inl ⟨by rfl, ?hy0⟩) (Kept.refl _ _).drew ?_
      case hy0 => (intro W hS; (try dsimp only at hS); go_simp; try with_reducible rfl)
      try simp only [Act.put, lyA, ly0, ly1]
      refine Gz.tk (i := 1) (oi := ⟨some 15, .move (.tmp 0), 65, _, _, none⟩) (v := ?_) rfl (by kernel_rfl) (fun _ _ _ h => h) (Or.inl ⟨by rfl, ?hy1⟩) (Kept.refl _ _).drew ?_
      case hy1 => (intro W hS; (try dsimp only at hS); go_simp; try with_reducible rfl)
      try simp only [Act.put, lyA, ly0, ly1]
      refine Gz.tk (i := 2) (oi := ⟨some 16, .move (.tmp 4), 3, _, _, none⟩) (v := ?_) rfl (by kernel_rfl) (fun _ _ _ h => h) (Or.inl ⟨by rfl, ?hy2⟩) (Kept.refl _ _).drew ?_
      case hy2 => (intro W hS; (try dsimp only at hS); go_simp; try with_reducible rfl)
      try simp only [Act.put, lyA, ly0, ly1]
      refine Gz.tk (i := 3) (oi := ⟨some 17, .indexAddr 65 (.tmp 15) (.tmp 16), 0, _, _, none⟩) (v := ?_) rfl (by kernel_rfl) (fun _ _ _ h => h) (Or.inl ⟨by rfl, ?hy3⟩) (Kept.refl _ _).drew ?_
      case hy3 => (intro W hS; (try dsimp only at hS); go_simp; try with_reducible rfl)
      try simp only [Act.put, lyA, ly0, ly1]
      refine Gz.tk (i := 4) (oi := ⟨some 18, .fieldAddr 80 (.tmp 17) 0, 0, _, _, none⟩) (v := ?_) rfl (by kernel_rfl) (fun _ _ _ h => h) (Or.inl ⟨by rfl, ?hy4⟩) (Kept.refl _ _).drew ?_
      case hy4 => (intro W hS; (try dsimp only at hS); go_simp; try with_reducible rfl)
      try simp only [Act.put, lyA, ly0, ly1]
      refine Gz.tk (i := 5) (oi := ⟨some 19, .load 9 (.tmp 18), 9, _, _, none⟩) (v := ?_) rfl (by kernel_rfl) (fun _ _ _ h => h) (Or.inl ⟨by rfl, ?hy5⟩) (Kept.refl _ _).drew ?_
      case hy5 => (intro W hS; (try dsimp only at hS); go_simp; try with_reducible rfl)
      try simp only [Act.put, lyA, ly0, ly1]
      refine Gz.tk (i := 7) (oi := ⟨some 21, .move (.tmp 0), 65, _, _, none⟩) (v := ?_) rfl (by kernel_rfl) (fun _ _ _ h => h) (Or.inl ⟨by rfl, ?hy7⟩) (Kept.refl _ _).drew ?_
      case hy7 => (intro W hS; (try dsimp only at hS); go_simp; try with_reducible rfl)
      try simp only [Act.put, lyA, ly0, ly1]
      refine Gz.tk (i := 8) (oi := ⟨some 22, .move (.tmp 4), 3, _, _, none⟩) (v := ?_) rfl (by kernel_rfl) (fun _ _ _ h => h) (Or.inl ⟨by rfl, ?hy8⟩) (Kept.refl _ _).drew ?_
      case hy8 => (intro W hS; (try dsimp only at hS); go_simp; try with_reducible rfl)
      try simp only [Act.put, lyA, ly0, ly1]
      refine Gz.tk (i := 9) (oi := ⟨some 23, .indexAddr 65 (.tmp 21) (.tmp 22), 0, _, _, none⟩) (v := ?_) rfl (by kernel_rfl) (fun _ _ _ h => h) (Or.inl ⟨by rfl, ?hy9⟩) (Kept.refl _ _).drew ?_
      case hy9 => (intro W hS; (try dsimp only at hS); go_simp; try with_reducible rfl)
      try simp only [Act.put, lyA, ly0, ly1]
      refine Gz.tk (i := 10) (oi := ⟨some 24, .fieldAddr 80 (.tmp 23) 1, 0, _, _, none⟩) (v := ?_) rfl (by kernel_rfl) (fun _ _ _ h => h) (Or.inl ⟨by rfl, ?hy10⟩) (Kept.refl _ _).drew ?_
      case hy10 => (intro W hS; (try dsimp only at hS); go_simp; try with_reducible rfl)
      try simp only [Act.put, lyA, ly0, ly1]
      refine Gz.tk (i := 11) (oi := ⟨some 25, .slice 78 (.tmp 24) none none none, 25, _, _, none⟩) (v := ?_) rfl (by kernel_rfl) (fun _ _ _ h => h) (Or.inl ⟨by rfl, ?hy11⟩) (Kept.refl _ _).drew ?_
      case hy11 => (intro W hS; (try dsimp only at hS); go_simp; try with_reducible rfl)
      try simp only [Act.put, lyA, ly0, ly1]
      refine Gz.one (i := 6) (o := ⟨some 20, .call { callee := .value (.func 50), args := #[.tmp 14, .tmp 19], argTypes := #[25, 9] }, 25, _, _, none⟩) (by kernel_rfl) rfl (fun K hK => ?_)
      go_simp
      with_reducible refine Calls.mono (CT _ (HO.out.all (Kept.refl (fun _ => True) wr).drew)) ?_
      rintro e w5 ⟨a5, c5, rfl, ho5, k5⟩
      have s5 : Kept (fun _ => True) wr w5 := (Kept.refl _ _).drew.trans k5
      have HO5 : Hid (w5.ownsRow wr.heap.size 5 1 (.slice a5 n1 c5) n1 (cells cur1)) := ho5
      have HH5 : Hid (Has w5 (some ⟨b, off + k * 33 + 1, none⟩) x.h) := has_range (range_head (range_kept HR.out s5 hbr trivial))
      clear ho5 k5
      try go_wp2_with fail
      refine hK.out _ _ (fun _ => s5) ?_
      clear hK K
      try simp only [Act.put, lyA, ly0, ly1]
      refine Gz.one (i := 12) (o := ⟨some 26, .call { callee := .builtin Builtin.append, args := #[.tmp 20, .tmp 25], argTypes := #[25, 25] }, 25, _, _, none⟩) (by kernel_rfl) rfl (fun K hK => ?_)
      refine step_append_has rfl (.tmp 20) (.tmp 25) rfl wr.heap.size (.slice a5 n1 c5) n1 (cells cur1) rfl HO5.out s5.size (some ⟨b, off + k * 33 + 1, none⟩) 32 32 rfl x.h LX.out (by simp) HH5.out HB2.out ?_
      intro a7 c7 w7 ho7 hg7 at7
      have k7 : Kept (fun _ => True) wr w7 := s5.grown hg7 (fun i hi e => by have := (World.ownsRow.lt HO5.out i e).1; omega)
      have HO7 : Hid (w7.ownsRow wr.heap.size 5 1 (.slice a7 (n1 + 32) c7) (n1 + 32) (cells cur1 ++ cells x.h)) := ho7
      clear ho7 hg7 at7
      refine hK.out _ _ (fun _ => k7) ?_
      clear hK K
      try simp only [Act.put, lyA, ly0, ly1]
      refine Gz.tk (i := 13) (oi := ⟨some 3, .assign (.tmp 26), 25, _, _, none⟩) (v := ?_) rfl (by kernel_rfl) (fun _ _ _ h => h) (Or.inl ⟨by rfl, ?hy13⟩) k7 ?_
      case hy13 => (intro W hS; (try dsimp only at hS); go_simp; try with_reducible rfl)
      try simp only [Act.put, lyA, ly0, ly1]
      refine Gz.done (by kernel_rfl) ?_ _
      go_wp2_with fail
      go_roundw
      case rel =>
        have hl : nxt'.length = n1 + 32 := by rw [HF.out, List.length_append, LX.out, HN1.out]
        refine ⟨k + 1, a7, c7, by omega, by go_num, by rw [HNX.out, hl], ?_, KR.out.trans k7⟩
        rw [HNX.out]
        unfold Ob
        rw [hl]
        have := HO7.out
        rw [← cells_append, ← HF.out] at this
        exact World.ownsRow.mono this KR.out.size
      case measure => simp [intOf]; omega
    · have i1 : ¬ (k : Int) < (xs.length : Int) := by omega
      have hke : k = xs.length := by omega
      subst hke
      rw [List.take_length] at ho ⊢
      have HX : Hid (Ob wr w.heap.size (.slice a' (encL xs).length c') (encL xs)) := ho
      have HE : Hid (enc (xs.length : Nat) 4 ++ encB xs = encL xs) := rfl
      clear ho lcur
      rw [HE.out]
      go_wp2
      go_ret
      exact ⟨a', c', rfl, HX.out, kr⟩

end Go.Proofs.Ytmcaoimgmgjjiaa
