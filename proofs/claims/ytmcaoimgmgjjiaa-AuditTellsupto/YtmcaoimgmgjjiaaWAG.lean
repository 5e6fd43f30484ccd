/-
  Texts of the proofs, 33 of 52.
-/
import Derived.Test.YtmcaoimgmgjjiaaWZ
import Derived.Test.YtmcaoimgmgjjiaaWT
import Derived.Test.YtmcaoimgmgjjiaaWAA
import Derived.Test.YtmcaoimgmgjjiaaWAE
import Derived.Test.YtmcaoimgmgjjiaaWAF
import Derived.Test.YtmcaoimgmgjjiaaWE
namespace Go.Proofs.Ytmcaoimgmgjjiaa
open Go.RowKit

set_option maxHeartbeats 400000 in
theorem rbyte_any {w : World} {v : Value} {bs : List UInt8} (n : Int) (h : Sl w v bs) (hb : bs.length + 1 ≤ 140737488355328) :
    Calls Try.prog 49 #[v, .int .i64 n] w fun e w' => ∃ r, e = .returned r ∧ w'.ownsRow w.heap.size 5 1 r (bs ++ enc (u64 n) 1).length (cells (bs ++ enc (u64 n) 1)) ∧ Kept (fun _ => True) w w' := by
  obtain ⟨ao, cap, rfl, hn, hh⟩ := h
  have HN : Hid (ao = none → cap = 0) := hn
  have HH : Hid (Has w ao bs) := hh
  have HW0 := byte0 n
  clear hn hh
  go_enter Try.func49, Try.ntmps49
  go_wp2_with (first
    | (at_builtin; refine wpList_append_has rfl (.tmp 5) (.tmp 6) rfl w.heap.size (.slice (some ⟨w.heap.size, 0, none⟩) 0 0) 0 [] rfl (own_new w _ (Nat.le_refl _)) (by simp) ao bs.length cap rfl bs rfl HN.out (HH.out.kept ((Kept.refl (fun _ => True) w).alloc _) (fun _ _ => trivial)) (by omega) ?_; intro a1 c1 w1 ho1 hg1 hl1; simp only [List.nil_append, Nat.zero_add] at ho1 hl1 ⊢)
    | (at_builtin; refine wpList_append_has rfl (.tmp 7) (.tmp 10) rfl w.heap.size (.slice a1 bs.length c1) bs.length (cells bs) rfl (ho1.alloc _) (by have := hg1.size; simp at this ⊢; omega) _ 1 1 rfl [byteAt (u64 n) 0] rfl (by simp) (has_row (heap_alloc_new w1 _)) (by omega) ?_; intro a2 c2 w2 ho2 hg2 hl2))
  go_ret
  refine ⟨_, rfl, ?_, ?_⟩
  · rw [cells_append]
    simpa [enc, List.length_append] using ho2
  · exact fresh_two hg1 hg2 hl1

theorem sl_nil (w : World) : Sl w (.slice none 0 0) [] := by
  unfold Sl
  exact ⟨none, 0, rfl, fun _ => rfl, fun h => by simp at h⟩
theorem rb_any {w : World} {v : Value} {bs : List UInt8} (n : Int) (h : Sl w v bs) (hb : bs.length + 1 ≤ 140737488355328) :
    Calls Try.prog 49 #[v, .int .i64 n] w fun e w' => ∃ r, e = .returned r ∧ Sl w' r (bs ++ enc (u64 n) 1) ∧ Kept (fun _ => True) w w' :=
  (rbyte_any n h hb).mono fun _ _ ⟨r, he, ho, hk⟩ => ⟨r, he, own_sl ho, hk⟩
theorem rt_any {w : World} {v : Value} {bs : List UInt8} (s : List UInt8) (h : Sl w v bs) (hb : bs.length + 4 + s.length ≤ 140737488355328) :
    Calls Try.prog 50 #[v, .string ⟨s.toArray⟩] w fun e w' => ∃ r, e = .returned r ∧ Sl w' r (bs ++ enc (u64 s.length) 4 ++ s) ∧ Kept (fun _ => True) w w' := by
  have hs : (⟨s.toArray⟩ : ByteArray).size = s.length := by simp [ByteArray.size]
  have := rtext_any ⟨s.toArray⟩ h (by rw [hs]; exact hb)
  rw [hs] at this
  refine this.mono fun e w' ⟨r, he, ho, hk⟩ => ⟨r, he, ?_, hk⟩
  have := own_sl ho
  simpa using this
set_option maxRecDepth 100000 in
set_option maxHeartbeats 4000000 in
theorem rtextR_any {w : World} {r : Ui} {ao : Option Addr} {cap : Nat} (h : Gi w ao r.gs) (hn : r.gs.length ≤ 1000000) (h1 : r.tx.length ≤ 70368744177664) (h2 : r.bd.length ≤ 35184372088832) :
    Calls Try.prog 19 #[r.val ao cap] w fun e w' => e = .returned (.string ⟨(encU r).toArray⟩) ∧ Kept (fun _ => True) w w' := by
  have HR : Hid (encU r = enc (u64 r.k) 1 ++ enc (u64 r.tx.length) 4 ++ r.tx ++ enc (u64 r.gs.length) 1 ++ encGi r.gs ++ enc (u64 r.bd.length) 4 ++ r.bd) := rfl
  generalize encU r = R at *
  obtain ⟨k, tx, gs, bd⟩ := r
  unfold Ui.val
  simp only at *
  obtain ⟨w1, hw1⟩ : ∃ x, x = w.alloc (.cells #[.int .i64 k, .string ⟨tx.toArray⟩, .slice ao gs.length cap, .string ⟨bd.toArray⟩] 48) := ⟨_, rfl⟩
  have k0 : Kept (fun _ => True) w w1 := by rw [hw1]; exact (Kept.refl _ _).alloc _
  have F0 : w1.heap[w.heap.size]? = some (.cells #[.int .i64 k, .string ⟨tx.toArray⟩, .slice ao gs.length cap, .string ⟨bd.toArray⟩] 48 (0, 0)) := by rw [hw1]; exact heap_alloc_new w _
  have hX := lt_of_block F0
  have HX : Hid (w.heap.size < w1.heap.size) := hX
  have x0 := cell_of_row _ _ 0 _ _ _ F0
  have x1 := cell_of_row _ _ 1 _ _ _ F0
  have x2 := cell_of_row _ _ 2 _ _ _ F0
  have x3 := cell_of_row _ _ 3 _ _ _ F0
  have x0A : ∀ W, Kept (fun _ => True) w1 W → W.cell? ⟨w.heap.size, 0, none⟩ = some (.int .i64 k) := fun W q => (kept_cell q hX trivial).trans x0
  have x1A : ∀ W, Kept (fun _ => True) w1 W → W.cell? ⟨w.heap.size, 1, none⟩ = some (.string ⟨tx.toArray⟩) := fun W q => (kept_cell q hX trivial).trans x1
  have x2A : ∀ W, Kept (fun _ => True) w1 W → W.cell? ⟨w.heap.size, 2, none⟩ = some (.slice ao gs.length cap) := fun W q => (kept_cell q hX trivial).trans x2
  have x3A : ∀ W, Kept (fun _ => True) w1 W → W.cell? ⟨w.heap.size, 3, none⟩ = some (.string ⟨bd.toArray⟩) := fun W q => (kept_cell q hX trivial).trans x3
  have HGi : Hid (Gi w1 ao gs) := h.all k0
  have K0 : Hid (Kept (fun _ => True) w w1) := k0
  clear F0 k0 h x0 x1 x2 x3 hX
  go_enter Try.func19, Try.ntmps19
  go_upto_region 1 with fail
  rw [← hw1]
  clear hw1
  generalize w.heap.size = X at *
  refine Gz.begin (fun W => Kept (fun _ => True) w1 W) (fun _ => false) (by kernel_rfl) ?_
  refine Gz.tk (i := 0) (oi := ⟨some 5, .fieldAddr 48 (.tmp 1) 0, 0, _, _, none⟩) (v := ?_) rfl (by kernel_rfl) (fun _ _ _ h => h) (Or.inl ⟨by rfl, ?hy0⟩) (Kept.refl _ _).drew ?_
  case hy0 => (intro W hS; (try dsimp only at hS); go_simp; try with_reducible rfl)
  try simp only [Act.put, lyA, ly0, ly1]
  refine Gz.tk (i := 1) (oi := ⟨some 6, .load 3 (.tmp 5), 3, _, _, none⟩) (v := ?_) rfl (by kernel_rfl) (fun _ _ _ h => h) (Or.inl ⟨by rfl, ?hy1⟩) (Kept.refl _ _).drew ?_
  case hy1 => (intro W hS; (try dsimp only at hS); go_simp; try with_reducible rfl)
  try simp only [Act.put, lyA, ly0, ly1]
  refine Gz.tk (i := 3) (oi := ⟨some 8, .fieldAddr 48 (.tmp 1) 1, 0, _, _, none⟩) (v := ?_) rfl (by kernel_rfl) (fun _ _ _ h => h) (Or.inl ⟨by rfl, ?hy3⟩) (Kept.refl _ _).drew ?_
  case hy3 => (intro W hS; (try dsimp only at hS); go_simp; try with_reducible rfl)
  try simp only [Act.put, lyA, ly0, ly1]
  refine Gz.tk (i := 4) (oi := ⟨some 9, .load 9 (.tmp 8), 9, _, _, none⟩) (v := ?_) rfl (by kernel_rfl) (fun _ _ _ h => h) (Or.inl ⟨by rfl, ?hy4⟩) (Kept.refl _ _).drew ?_
  case hy4 => (intro W hS; (try dsimp only at hS); go_simp; try with_reducible rfl)
  try simp only [Act.put, lyA, ly0, ly1]
  refine Gz.tk (i := 6) (oi := ⟨some 11, .fieldAddr 48 (.tmp 1) 2, 0, _, _, none⟩) (v := ?_) rfl (by kernel_rfl) (fun _ _ _ h => h) (Or.inl ⟨by rfl, ?hy6⟩) (Kept.refl _ _).drew ?_
  case hy6 => (intro W hS; (try dsimp only at hS); go_simp; try with_reducible rfl)
  try simp only [Act.put, lyA, ly0, ly1]
  refine Gz.tk (i := 7) (oi := ⟨some 12, .load 22 (.tmp 11), 22, _, _, none⟩) (v := ?_) rfl (by kernel_rfl) (fun _ _ _ h => h) (Or.inl ⟨by rfl, ?hy7⟩) (Kept.refl _ _).drew ?_
  case hy7 => (intro W hS; (try dsimp only at hS); go_simp; try with_reducible rfl)
  try simp only [Act.put, lyA, ly0, ly1]
  refine Gz.tk (i := 8) (oi := ⟨some 13, .call { callee := .builtin Builtin.len, args := #[.tmp 12], argTypes := #[22] }, 3, _, _, none⟩) (v := ?_) rfl (by kernel_rfl) (fun _ _ _ h => h) (Or.inl ⟨by rfl, ?hy8⟩) (Kept.refl _ _).drew ?_
  case hy8 => (intro W hS; (try dsimp only at hS); go_simp; try with_reducible rfl)
  try simp only [Act.put, lyA, ly0, ly1]
  refine Gz.one (i := 2) (o := ⟨some 7, .call { callee := .value (.func 49), args := #[.const (Value.slice none 0 0), .tmp 6], argTypes := #[25, 3] }, 25, _, _, none⟩) (by kernel_rfl) rfl (fun K hK => ?_)
  go_simp
  with_reducible refine Calls.mono (rb_any (w := w1.drew) (v := .slice none 0 0) (bs := []) k (sl_nil _) (by simp)) ?_
  rintro e w3 ⟨r3, rfl, h3, k3⟩
  have s3 : Kept (fun _ => True) w1 w3 := (Kept.refl _ _).drew.trans k3
  rw [List.nil_append] at h3
  try go_wp2_with fail
  refine hK.out _ _ (fun _ => s3) ?_
  clear hK K
  try simp only [Act.put, lyA, ly0, ly1]
  refine Gz.one (i := 5) (o := ⟨some 10, .call { callee := .value (.func 50), args := #[.tmp 7, .tmp 9], argTypes := #[25, 9] }, 25, _, _, none⟩) (by kernel_rfl) rfl (fun K hK => ?_)
  go_simp
  with_reducible refine Calls.mono (rt_any tx h3 (by rw [enc_length]; omega)) ?_
  rintro e w4 ⟨r4, rfl, h4, k4⟩
  have s4 := s3.trans k4
  try go_wp2_with fail
  refine hK.out _ _ (fun _ => s4) ?_
  clear hK K
  try simp only [Act.put, lyA, ly0, ly1]
  refine Gz.one (i := 9) (o := ⟨some 14, .call { callee := .value (.func 49), args := #[.tmp 10, .tmp 13], argTypes := #[25, 3] }, 25, _, _, none⟩) (by kernel_rfl) rfl (fun K hK => ?_)
  go_simp
  with_reducible refine Calls.mono (rb_any (gs.length : Int) h4 (by simp only [List.length_append, enc_length]; omega)) ?_
  rintro e w5 ⟨r5, rfl, h5, k5⟩
  have s5 := s4.trans k5
  try go_wp2_with fail
  refine hK.out _ _ (fun _ => s5) ?_
  clear hK K
  try simp only [Act.put, lyA, ly0, ly1]
  refine Gz.tk (i := 10) (oi := ⟨some 3, .assign (.tmp 14), 25, _, _, none⟩) (v := ?_) rfl (by kernel_rfl) (fun _ _ _ h => h) (Or.inl ⟨by rfl, ?hy10⟩) s5 ?_
  case hy10 => (intro W hS; (try dsimp only at hS); go_simp; try with_reducible rfl)
  try simp only [Act.put, lyA, ly0, ly1]
  refine Gz.done (by kernel_rfl) ?_ _
  have S5 : Hid (Sl w5 r5 (enc (u64 k) 1 ++ enc (u64 tx.length) 4 ++ tx ++ enc (u64 gs.length) 1)) := h5
  have K5 : Hid (Kept (fun _ => True) w1 w5) := s5
  have HP : Hid ((enc (u64 k) 1 ++ enc (u64 tx.length) 4 ++ tx ++ enc (u64 gs.length) 1).length = tx.length + 6) := by show _ = _; simp only [List.length_append, enc_length]; omega
  clear h5 s5
  generalize hpre : enc (u64 k) 1 ++ enc (u64 tx.length) 4 ++ tx ++ enc (u64 gs.length) 1 = P at *
  clear hpre
  go_wp2_with fail
  go_loopw [3, 4] (fun v t wr => ∃ i : Nat, i ≤ gs.length ∧ t = .int .i64 i ∧ Sl wr v (P ++ encGi (gs.take i)) ∧ Kept (fun _ => True) w1 wr) (fun _ t _ => gs.length - (intOf t).toNat)
  case atStart => exact ⟨0, Nat.zero_le _, rfl, by simpa [encGi] using S5.out, K5.out⟩
  case round =>
    obtain ⟨i, hi, rfl, hS, hk⟩ := hrel
    have HS : Hid (Sl wr u3 (P ++ encGi (gs.take i))) := hS
    have HK : Hid (Kept (fun _ => True) w1 wr) := hk
    have x2 := x2A wr hk
    clear S5 K5
    by_cases hlt : i < gs.length
    · obtain ⟨b, off, rfl, hb, hc⟩ := HGi.out (by omega)
      have c0 := (kept_cell hk hb trivial).trans (hc i hlt)
      have HTK : Hid (gs.take (i + 1) = gs.take i ++ [gs[i]]) := List.take_succ_eq_append_getElem hlt
      have hl : (P ++ encGi (gs.take i)).length ≤ tx.length + 6 + gs.length := by
        rw [List.length_append, HP.out, encGi_len, List.length_take]; omega
      have cb := rb_any gs[i] HS.out (by omega)
      have HI : Hid (i < gs.length) := hlt
      have i0 : (0 : Int) ≤ (i : Int) := by omega
      have i1 : (i : Int) < (gs.length : Int) := by omega
      clear hc hl hS hk
      generalize gs[i] = g at *
      clear hlt
      go_wp2_with (go_at_call 49; (with_reducible refine Calls.mono cb ?_); rintro e w6 ⟨r6, rfl, h6, k6⟩; have S6 : Hid (Sl w6 r6 (P ++ encGi (gs.take (i + 1)))) := (by show Sl _ _ _; rw [HTK.out, encGi_snoc, ← List.append_assoc]; exact h6); have K6 : Hid (Kept (fun _ => True) w1 w6) := HK.out.trans k6; clear h6 k6)
      go_roundw
      case rel => exact ⟨i + 1, by have := HI.out; omega, by go_num, S6.out, K6.out⟩
      case measure => have := HI.out; simp [intOf]; omega
    · obtain rfl : i = gs.length := by omega
      have i1 : ¬ ((gs.length : Nat) : Int) < (gs.length : Int) := by omega
      have S6 : Sl wr u3 (P ++ encGi gs) := by have := HS.out; rwa [List.take_length] at this
      have x3 := x3A wr hk
      have hl : (P ++ encGi gs).length = tx.length + 6 + gs.length := by rw [List.length_append, HP.out, encGi_len]
      have c6 := rt_any bd S6 (by omega)
      obtain ⟨Q, hQ⟩ : ∃ Q, Q = P ++ encGi gs ++ enc (u64 bd.length) 4 ++ bd := ⟨_, rfl⟩
      rw [← hQ] at c6
      have HR2 : Hid (R = Q) := by show _ = _; rw [hQ]; exact HR.out
      clear hl S6 HS hlt hi hQ hS hk
      go_wp2_with (go_at_call 50; (with_reducible refine Calls.mono c6 ?_); rintro e w7 ⟨r7, rfl, h7, k7⟩; have hcv := conv_sl h7; have K7 : Hid (Kept (fun _ => True) w1 w7) := HK.out.trans k7; clear h7 k7 c6)
      go_ret
      exact ⟨by rw [HR2.out]; rfl, K0.out.trans K7.out⟩

end Go.Proofs.Ytmcaoimgmgjjiaa

namespace Go.Proofs.Ytmcaoimgmgjjiaa
open Go.RowKit Go.Maps Go.Sort

theorem take_mem {α : Type} {xs : List α} {i j : Nat} (hi : i < xs.length) (h : i < j) : xs[i] ∈ xs.take j := by
  have h1 : i < (xs.take j).length := by rw [List.length_take]; omega
  have := List.getElem_mem h1
  rwa [List.getElem_take] at this
theorem IdxIs.one {α : Type} {f : α → Bool} {xs : List α} {n m : Int} (h : IdxIs f xs n) (k : IdxIs f xs m) : n = m := by
  rcases h with ⟨rfl, h⟩ | ⟨i, hi, rfl, h1, h2⟩ <;> rcases k with ⟨rfl, k⟩ | ⟨j, hj, rfl, k1, k2⟩
  · rfl
  · rw [h _ (List.getElem_mem hj)] at k1
    cases k1
  · rw [k _ (List.getElem_mem hi)] at h1
    cases h1
  · rcases Nat.lt_trichotomy i j with q | q | q
    · rw [k2 _ (take_mem hi q)] at h1
      cases h1
    · rw [q]
    · rw [h2 _ (take_mem hj q)] at k1
      cases k1
theorem IsU.one {pq : List (Up × Ua)} {p : Up} {n m : Int} (h : IsU pq p n) (k : IsU pq p m) : n = m := by
  rcases h with ⟨a, rfl⟩ | ⟨o, ho, ha, h⟩ <;> rcases k with ⟨b, rfl⟩ | ⟨o', ho', hb, k⟩
  · rfl
  · omega
  · omega
  · obtain rfl : o = o' := by omega
    rcases h with ⟨h1, rfl⟩ | ⟨h1, i, i1, i2, rfl, h2, h3⟩ <;> rcases k with ⟨k1, rfl⟩ | ⟨k1, j, j1, j2, rfl, k2, k3⟩
    · rfl
    · exact absurd h1 k1
    · exact absurd k1 h1
    · rcases Nat.lt_trichotomy i j with q | q | q
      · exact absurd (take_eq k3 q i1 i2) h2
      · rw [q]
      · exact absurd (take_eq h3 q j1 j2) k2
theorem RuleIs.one {pq : List (Up × Ua)} {j i : Nat} {n m : Int} (h : RuleIs pq j i n) (k : RuleIs pq j i m) : n = m := by
  obtain ⟨hi, h⟩ := h
  obtain ⟨_, k⟩ := k
  rcases h with ⟨a, h⟩ | ⟨a, h⟩ | ⟨a, h⟩ | ⟨a, h⟩ | ⟨a, h⟩ | ⟨a, h⟩ | ⟨a, h⟩ <;> rcases k with ⟨b, k⟩ | ⟨b, k⟩ | ⟨b, k⟩ | ⟨b, k⟩ | ⟨b, k⟩ | ⟨b, k⟩ | ⟨b, k⟩
  all_goals first
    | exact absurd (a.symm.trans b) (by decide)
    | rw [h, k]
    | exact h.one k
theorem EVer.one {pq : List (Up × Ua)} {e f : Ending} (h : EVer pq e) (k : EVer pq f) : e = f := by
  rcases h with ⟨h, rfl⟩ | ⟨j, i, z, hj, hi, hz, hr, h1, h2, rfl⟩ <;> rcases k with ⟨k, rfl⟩ | ⟨j', i', z', hj', hi', hz', hr', k1, k2, rfl⟩
  · rfl
  · exact absurd (hr'.one (h _ _ hj' hi')) hz'
  · exact absurd (hr.one (k _ _ hj hi)) hz
  · rcases Nat.lt_trichotomy j j' with q | q | q
    · exact absurd (hr.one (k1 _ _ q hi)) hz
    · subst q
      rcases Nat.lt_trichotomy i i' with q | q | q
      · exact absurd (hr.one (k2 _ q)) hz
      · subst q
        rw [hr.one hr']
      · exact absurd (hr'.one (h2 _ q)) hz'
    · exact absurd (hr'.one (h1 _ _ q hi')) hz'

theorem dec_made {ts : List (List UInt8)} {ls : List Li} {y z : Int} (h : IsDec (encL (mkC ts)) ls y z) (hn : ts.length ≤ 4096) (hs : ∀ t ∈ ts, t.length ≤ 4000) : ls = mkC ts ∧ y = 0 ∧ z = 0 := by
  obtain ⟨n, hn, _, h2⟩ := h.back (by rw [mkC_length]; exact hn) (fun x hx => by
    have : x.t ∈ txs (mkC ts) := List.mem_map.2 ⟨x, hx, rfl⟩
    rw [txs_mkC] at this
    exact hs _ this)
  have := hn.one (IsChk.mk' _)
  subst this
  exact h2 (mkC_length _).symm

def Ur.ui (r : Ur) : Ui := ⟨(r.k : Nat), r.tx, r.gs.map (fun g : Nat => (g : Int)), r.bd⟩
theorem encGi_nat : ∀ gs : List Nat, (∀ g ∈ gs, g < 18446744073709551616) → encGi (gs.map (fun g : Nat => (g : Int))) = encG gs
  | [], _ => rfl
  | g :: gs, h => by
    show enc (u64 (g : Nat)) 1 ++ encGi (gs.map _) = enc (g : Nat) 1 ++ encG gs
    rw [u64_nat (h g (by simp)), encGi_nat gs (fun x hx => h x (List.mem_cons_of_mem _ hx))]
structure Okt (r : Ur) : Prop where
  f : fmd r = true
  t : r.tx.length ≤ 4000
  n : r.gs.length < 256
  g : ∀ g ∈ r.gs, g < 256
  b : r.bd.length ≤ 4000
theorem encU_nat {r : Ur} (h : Okt r) : encU r.ui = encR r := by
  have hk : r.k < 256 := by rcases fmd_kind h.f with q | q | q | q <;> omega
  have := h.t
  have := h.n
  have := h.b
  unfold encU encR Ur.ui
  simp only [List.length_map]
  rw [encGi_nat _ (fun g q => by have := h.g g q; omega), u64_nat (by omega), u64_nat (by omega), u64_nat (by omega), u64_nat (by omega)]
  simp only [List.append_assoc]
theorem Okt.back {r : Ur} (h : Okt r) : rec? (encR r) = some r := rec_back r h.f h.t h.n h.g h.b
def tsR (rs : List Ur) : List (List UInt8) := rs.map encR
theorem tsR_short {rs : List Ur} (h : ∀ r ∈ rs, Okt r) (hs : ∀ r ∈ rs, r.tx.length + r.bd.length ≤ 3000) : ∀ t ∈ tsR rs, t.length ≤ 4000 := fun t ht => by
  obtain ⟨r, hr, rfl⟩ := List.mem_map.1 ht
  have := (h r hr).n
  have := hs r hr
  rw [encR_len]
  omega
theorem entG_made {rs : List Ur} (h : ∀ r ∈ rs, Okt r) : entG (tsR rs) [] = entO (rs.map some) [] := by
  unfold entG tsR
  rw [List.map_map]
  congr 1
  exact List.map_congr_left fun r hr => (h r hr).back
theorem entO_some : ∀ (rs : List Ur) (es : List Ue), (entO (rs.map some) es).map (·.r) = es.map (·.r) ++ rs
  | [], es => by simp [entO]
  | r :: rs, es => by
    show (entO (rs.map some) (es ++ [⟨r, kin es r.tx⟩])).map (·.r) = _
    rw [entO_some rs]
    simp
theorem idx_map {α β : Type} {f : β → Bool} {h : α → β} {xs : List α} {n : Int} : IdxIs (fun x => f (h x)) xs n ↔ IdxIs f (xs.map h) n := by
  constructor
  · rintro (⟨rfl, q⟩ | ⟨k, hk, rfl, q1, q2⟩)
    · refine .inl ⟨rfl, fun x hx => ?_⟩
      obtain ⟨y, hy, rfl⟩ := List.mem_map.1 hx
      exact q y hy
    · refine .inr ⟨k, by rw [List.length_map]; exact hk, rfl, by rw [List.getElem_map]; exact q1, fun x hx => ?_⟩
      rw [← List.map_take] at hx
      obtain ⟨y, hy, rfl⟩ := List.mem_map.1 hx
      exact q2 y hy
  · rintro (⟨rfl, q⟩ | ⟨k, hk, rfl, q1, q2⟩)
    · exact .inl ⟨rfl, fun x hx => q _ (List.mem_map_of_mem hx)⟩
    · refine .inr ⟨k, by rw [List.length_map] at hk; exact hk, rfl, by rw [List.getElem_map] at q1; exact q1, fun x hx => q2 _ ?_⟩
      rw [← List.map_take]
      exact List.mem_map_of_mem hx
def g4 (x : Ue) : Bool := (decide (x.r.k = 3) && (x.ah.c || x.ah.a)) || (decide (x.r.k = 4) && x.ah.c)
def g5 (rs : List Ur) (x : Ue) : Bool := (decide (x.r.k = 3) && (tel rs x.r.tx).ks.a) || (decide (x.r.k = 4) && (tel rs x.r.tx).ks.c)
def g6 (x : Ue) : Bool := decide (x.r.k = 3) && !x.ah.p
def g7 (rs : List Ur) (g : Int) (x : Ue) : Bool := decide (x.r.k = 3) && ((tel rs x.r.tx).ap || !(x.r.gs.any fun y => decide ((y : Int) = g)))
structure MdP (g : Int) (rs : List Ur) (p : Up) : Prop where
  g : p.g = g
  ls : p.ls = mkC (tsR rs)
  y : p.y = 0
  es : p.es.map (·.1) = entO (rs.map some) []
theorem md_page {cs : List Uc} {ps : List Up} (h : Pgs cs ps) (i : Nat) (h1 : i < ps.length) (h2 : i < cs.length) {rs : List Ur} (hb : cs[i].bs = encL (mkC (tsR rs))) (ho : ∀ r ∈ rs, Okt r) (hs : ∀ r ∈ rs, r.tx.length + r.bd.length ≤ 3000) (hn : rs.length ≤ 4096) : MdP cs[i].g rs ps[i] := by
  have hd := h.dec i h1 h2
  rw [hb] at hd
  obtain ⟨d1, d2, _⟩ := dec_made hd (by simpa [tsR] using hn) (tsR_short ho hs)
  refine ⟨h.grp i h1 h2, d1, d2, ?_⟩
  rw [h.ent i h1, d1, txs_mkC, entG_made ho]
section
variable {g : Int} {rs : List Ur} {p : Up}
theorem MdP.recs (h : MdP g rs p) : p.es.map (·.1.r) = rs := by
  have := congrArg (List.map (·.r)) h.es
  rw [List.map_map, entO_some] at this
  exact this
theorem MdP.len (h : MdP g rs p) : p.es.length = rs.length := by
  have := congrArg List.length h.recs
  rwa [List.length_map] at this
theorem MdP.lsn (h : MdP g rs p) : p.ls.length = rs.length := by
  rw [h.ls, mkC_length]
  simp [tsR]
theorem MdP.one (h : MdP g rs p) : ru1 p = -1 := by unfold ru1; rw [if_pos h.y]
theorem MdP.two (h : MdP g rs p) : ru2 p = -1 := by unfold ru2; rw [h.len, h.lsn, if_neg (Nat.lt_irrefl _)]
theorem MdP.idx (h : MdP g rs p) {f : Ue → Bool} {n : Int} (k : IdxIs f (entO (rs.map some) []) n) : IdxIs (fun x => f x.1) p.es n := idx_map.2 (by rw [h.es]; exact k)
end

def rP : Ur := ⟨2, [116], [0, 1], []⟩
def rC : Ur := ⟨3, [116], [0, 1], []⟩
def rA : Ur := ⟨4, [116], [0, 1], []⟩
theorem okP : Okt rP := ⟨by decide, by decide, by decide, by decide, by decide⟩
theorem okC : Okt rC := ⟨by decide, by decide, by decide, by decide, by decide⟩
theorem okA : Okt rA := ⟨by decide, by decide, by decide, by decide, by decide⟩
theorem okPC : ∀ r ∈ [rP, rC], Okt r := fun r h => by
  simp only [List.mem_cons, List.not_mem_nil, or_false] at h
  rcases h with rfl | rfl
  · exact okP
  · exact okC
theorem okA1 : ∀ r ∈ [rA], Okt r := fun r h => by
  rw [List.mem_singleton.1 h]
  exact okA
theorem ver_none {e : Ending} {pq : List (Up × Ua)} (h : Pgs [] (pq.map (·.1))) (k : EVer pq e) : e = .returned (.tuple #[.agg #[.int .i64 0, .int .i64 0, .int .i64 0], .bool true]) := by
  have h0 : pq.length = 0 := by have := h.len; simpa using this
  rcases k with ⟨_, rfl⟩ | ⟨j, i, z, _, hi, _⟩
  · rfl
  · omega
theorem ver_one {e : Ending} {pq : List (Up × Ua)} {c : Uc} (hg : c.g = 0) (hb : c.bs = encL (mkC (tsR [rP, rC]))) (h : Pgs [c] (pq.map (·.1))) (k : EVer pq e) : e = .returned (.tuple #[.agg #[.int .i64 0, .int .i64 0, .int .i64 0], .bool true]) := by
  have hl := h.len
  match pq, h, k, hl with
  | [(p, q)], h, k, _ =>
    have m := md_page h 0 (by simp) (by simp) hb okPC (by decide) (by decide)
    have hlo : p.lo = -1 := h.lo 0 (by simp)
    simp only [List.getElem_cons_zero, List.map_cons, hg] at m
    have hgp := m.g
    have hall : allR ([(p, q)].map (·.1)) = [rP, rC] := by simp [allR, m.recs]
    refine k.one (.inl ⟨fun j i hj hi => ?_, rfl⟩)
    obtain rfl : i = 0 := by simpa using hi
    refine ⟨hi, ?_⟩
    rw [hall]
    simp only [List.getElem_cons_zero, hgp]
    have h7 : j = 0 ∨ j = 1 ∨ j = 2 ∨ j = 3 ∨ j = 4 ∨ j = 5 ∨ j = 6 := by omega
    rcases h7 with rfl | rfl | rfl | rfl | rfl | rfl | rfl
    · exact .inl ⟨rfl, m.one.symm⟩
    · exact .inr (.inl ⟨rfl, m.two.symm⟩)
    · exact .inr (.inr (.inl ⟨rfl, .inl ⟨hlo, rfl⟩⟩))
    · exact .inr (.inr (.inr (.inl ⟨rfl, m.idx (f := g4) (.inl ⟨rfl, by decide⟩)⟩)))
    · exact .inr (.inr (.inr (.inr (.inl ⟨rfl, m.idx (f := g5 [rP, rC]) (.inl ⟨rfl, by decide⟩)⟩))))
    · exact .inr (.inr (.inr (.inr (.inr (.inl ⟨rfl, m.idx (f := g6) (.inl ⟨rfl, by decide⟩)⟩)))))
    · exact .inr (.inr (.inr (.inr (.inr (.inr ⟨rfl, m.idx (f := g7 [rP, rC] 0) (.inl ⟨rfl, by decide⟩)⟩)))))
theorem ver_two {e : Ending} {pq : List (Up × Ua)} {c d : Uc} (hg : c.g = 0) (hb : c.bs = encL (mkC (tsR [rP, rC]))) (hg2 : d.g = 1) (hb2 : d.bs = encL (mkC (tsR [rA]))) (h : Pgs [c, d] (pq.map (·.1))) (k : EVer pq e) : e = .returned (.tuple #[.agg #[.int .i64 5, .int .i64 0, .int .i64 1], .bool false]) := by
  have hl := h.len
  match pq, h, k, hl with
  | [(p, q), (p', q')], h, k, _ =>
    have m := md_page h 0 (by simp) (by simp) hb okPC (by decide) (by decide)
    have m2 := md_page h 1 (by simp) (by simp) hb2 okA1 (by decide) (by decide)
    have hlo : p.lo = -1 := h.lo 0 (by simp)
    have hlo2 : p'.lo = lgI [p] p'.g := h.lo 1 (by simp)
    simp only [List.getElem_cons_zero, List.getElem_cons_succ, List.map_cons, hg, hg2] at m m2
    have hgp := m.g
    have hgp2 := m2.g
    have hlo3 : p'.lo = -1 := by
      rw [hlo2, hgp2]
      have : lg [p] 1 = none := by
        show (if p.g = 1 ∧ _ then _ else none) = _
        rw [if_neg (fun q => by rw [hgp] at q; exact absurd q.1 (by decide))]
      unfold lgI
      rw [this]
    have hall : allR ([(p, q), (p', q')].map (·.1)) = [rP, rC, rA] := by simp [allR, m.recs, m2.recs]
    refine k.one (.inr ⟨4, 0, 1, by decide, by simp, by decide, ⟨by simp, ?_⟩, fun j i hj hi => ?_, fun i hi => by omega, rfl⟩)
    · rw [hall]
      exact .inr (.inr (.inr (.inr (.inl ⟨rfl, m.idx (f := g5 [rP, rC, rA]) (.inr ⟨1, by decide, rfl, by decide, by decide⟩)⟩))))
    · refine ⟨hi, ?_⟩
      have hi2 : i = 0 ∨ i = 1 := by
        simp only [List.length_cons, List.length_nil] at hi
        omega
      have h7 : j = 0 ∨ j = 1 ∨ j = 2 ∨ j = 3 := by omega
      rcases hi2 with rfl | rfl
      · simp only [List.getElem_cons_zero]
        rcases h7 with rfl | rfl | rfl | rfl
        · exact .inl ⟨rfl, m.one.symm⟩
        · exact .inr (.inl ⟨rfl, m.two.symm⟩)
        · exact .inr (.inr (.inl ⟨rfl, .inl ⟨hlo, rfl⟩⟩))
        · exact .inr (.inr (.inr (.inl ⟨rfl, m.idx (f := g4) (.inl ⟨rfl, by decide⟩)⟩)))
      · simp only [List.getElem_cons_zero, List.getElem_cons_succ]
        rcases h7 with rfl | rfl | rfl | rfl
        · exact .inl ⟨rfl, m2.one.symm⟩
        · exact .inr (.inl ⟨rfl, m2.two.symm⟩)
        · exact .inr (.inr (.inl ⟨rfl, .inl ⟨hlo3, rfl⟩⟩))
        · exact .inr (.inr (.inr (.inl ⟨rfl, m2.idx (f := g4) (.inl ⟨rfl, by decide⟩)⟩)))

end Go.Proofs.Ytmcaoimgmgjjiaa
