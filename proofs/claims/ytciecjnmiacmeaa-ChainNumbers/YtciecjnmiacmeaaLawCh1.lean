/-
  ChainNumbers: it answers true.
-/
import Derived.Test.YtciecjnmiacmeaaZ10
import Derived.Test.YtciecjnmiacmeaaZ11
import Derived.Test.YtciecjnmiacmeaaZ12
import Derived.Test.YtciecjnmiacmeaaMGz
namespace Go.Proofs.Ytciecjnmiacmeaa
open Go.RowKit

theorem lrow_setText : ∀ (xs : List Li) (k : Nat) (hk : k < xs.length) (t : List UInt8), (lrow xs).set (k * 33) (.string ⟨t.toArray⟩) = lrow (xs.set k ⟨t, xs[k].h, xs[k].len⟩)
  | x :: xs, 0, _, t => by
    show (lcell x ++ lrow xs).set 0 (.string ⟨t.toArray⟩) = _
    rfl
  | x :: xs, k + 1, hk, t => by
    have ih := lrow_setText xs k (by simpa using hk) t
    show (lcell x ++ lrow xs).set ((k + 1) * 33) (.string ⟨t.toArray⟩) = lcell x ++ lrow (xs.set k _)
    rw [List.set_append_right _ _ (by rw [lcell_length]; omega), lcell_length, show (k + 1) * 33 - 33 = k * 33 by omega, ih]
    rfl

def tC : List UInt8 := [99]
def tX : List UInt8 := [120]
/-- The chain of three, with the second text turned. -/
def bad3 : List Li := (mkC [tA, tB, tC]).set 1 ⟨tX, hAt zero32 [tA, tB, tC] 2, hAt_len zero32_len _ _⟩
theorem hAt_same {ts us : List (List UInt8)} {k : Nat} (h : ts.take k = us.take k) (z : List UInt8) : hAt z ts k = hAt z us k := by
  unfold hAt
  rw [h]
theorem txs_bad3 : txs bad3 = [tA, tX, tC] := by
  unfold bad3 txs
  rw [List.map_set]
  have : (mkC [tA, tB, tC]).map (·.t) = [tA, tB, tC] := txs_mkC _
  rw [this]
  rfl
theorem len_bad3 : bad3.length = 3 := by
  unfold bad3
  rw [List.length_set, mkC_length]
  rfl
theorem chk_bad3 : IsChk bad3 1 := by
  refine ⟨by rw [len_bad3]; decide, fun k hk h => ?_, fun h => ?_⟩
  · obtain rfl : k = 0 := by omega
    unfold okL
    rw [txs_bad3]
    have e1 : bad3[0] = (mkC [tA, tB, tC])[0]'(by rw [mkC_length]; decide) := by
      unfold bad3
      exact List.getElem_set_ne (by decide) _
    rw [e1, mkC_get [tA, tB, tC] 0 (by decide)]
    exact hAt_same rfl _
  · unfold okL
    rw [txs_bad3]
    have e1 : bad3[1] = ⟨tX, hAt zero32 [tA, tB, tC] 2, hAt_len zero32_len _ _⟩ := by
      unfold bad3
      exact List.getElem_set_self _
    rw [e1]
    show ¬ (hAt zero32 [tA, tB, tC] 2 = hAt zero32 [tA, tX, tC] 2)
    decide +kernel
theorem short_bad3 : ∀ x ∈ bad3, x.t.length ≤ 4000 := fun x hx => by
  have : x.t ∈ txs bad3 := List.mem_map.2 ⟨x, hx, rfl⟩
  rw [txs_bad3] at this
  have hs : ∀ s ∈ [tA, tX, tC], s.length ≤ 4000 := by decide
  exact hs _ this
theorem short_abc : ∀ x ∈ mkC [tA, tB, tC], x.t.length ≤ 4000 := fun x hx => by
  have := few_short hx (by decide)
  omega
theorem dec_long {xs : List Li} {y z : Int} (h : IsDec [0, 0, 16, 1] xs y z) : y = 3 ∧ z = 0 := by
  have e : ((rdAll [0, 0, 16, 1]).2.end_ [0, 0, 16, 1]) = (3, 0) := by kernel_rfl
  obtain ⟨_, h1, h2⟩ := h.no (by rw [e]; decide)
  rw [h1, h2, e]
  exact ⟨rfl, rfl⟩
theorem dec_none {xs : List Li} {y z : Int} (h : IsDec [] xs y z) : y = 10 ∧ z = 0 := by
  have e : ((rdAll []).2.end_ []) = (10, 0) := by kernel_rfl
  obtain ⟨_, h1, h2⟩ := h.no (by rw [e]; decide)
  rw [h1, h2, e]
  exact ⟨rfl, rfl⟩
theorem dec_bad3 {xs : List Li} {y z : Int} (h : IsDec (encL bad3) xs y z) : y = 12 ∧ z = 41 := by
  obtain ⟨n, hn, h1, _⟩ := h.back (by rw [len_bad3]; decide) short_bad3
  have := hn.one chk_bad3
  subst this
  obtain ⟨_, rfl, rfl⟩ := h1 (by rw [len_bad3]; decide)
  refine ⟨rfl, ?_⟩
  have e : bad3.take 1 = mkC [tA] := by
    unfold bad3
    rw [List.take_set_of_le (by decide), mkC_take]
    rfl
  rw [e, encL_len]
  rfl
theorem dec_good3 {xs : List Li} {y z : Int} (h : IsDec (encL (mkC [tA, tB, tC])) xs y z) : xs = mkC [tA, tB, tC] ∧ y = 0 ∧ z = 0 := by
  obtain ⟨n, hn, _, h2⟩ := h.back (by rw [mkC_length]; decide) short_abc
  have := hn.one (IsChk.mk' _)
  subst this
  exact h2 (mkC_length _).symm

theorem Lo.turn1 {W : World} {base g c : Nat} {A B : List Li} (hA : A.length = 3) (hB : B.length = 3) (hset : (lrow A).set 33 (.string ⟨#[120]⟩) = lrow B) (h : Lo 27 W base (.slice (some ⟨g, 0, none⟩) 3 c) A) : Lo 27 (W.setCell ⟨g, 33, none⟩ (.string ⟨#[120]⟩)) base (.slice (some ⟨g, 0, none⟩) 3 c) B := by
  unfold Lo at h ⊢
  rw [hA] at h
  have h1 := (h.stored 33 (.string ⟨#[120]⟩)).1
  rw [hset] at h1
  rw [hB]
  exact h1
theorem Lo.at33 {e : TypeId} {w : World} {base g c : Nat} {A : List Li} (hA : A.length = 3) (h : Lo e w base (.slice (some ⟨g, 0, none⟩) 3 c) A) : (∃ u, w.cell? ⟨g, 33, none⟩ = some u) ∧ w.frozen? ⟨g, 33, none⟩ = false := by
  unfold Lo at h
  rw [hA] at h
  exact ⟨⟨_, (h.cellAt 33 (by omega)).trans (List.getElem?_eq_getElem (by rw [lrow_length, hA]; decide))⟩, h.frozenAt 33⟩

set_option maxRecDepth 100000 in
set_option maxHeartbeats 4000000 in
theorem chainNumbers_any (w : World) : Calls Try.prog 3 #[] w fun e w' => e = .returned (.bool true) ∧ Kept (fun _ => True) w w' := by
  have lT : (mkC [tA, tB, tC]).length = 3 := mkC_length _
  have CM : ∀ (W : World) (g : Nat), W.heap[g]? = some (.cells #[.string ⟨#[97]⟩, .string ⟨#[98]⟩, .string ⟨#[99]⟩] 9 (0, 0)) → Calls Try.prog 8 #[.slice (some ⟨g, 0, none⟩) 3 3] W fun e w' => ∃ a' c', e = .returned (.slice a' 3 c') ∧ Lo 27 w' W.heap.size (.slice a' 3 c') (mkC [tA, tB, tC]) ∧ Kept (fun _ => True) W w' := fun W g hg => by
    have := make_any (cap := 3) (tv_new (ss := [tA, tB, tC]) hg) (by decide) (by decide)
    rwa [lT] at this
  have C0 : ∀ (W : World), Calls Try.prog 8 #[.slice none 0 0] W fun e w' => ∃ a' c', e = .returned (.slice a' 0 c') ∧ Kept (fun _ => True) W w' := fun W => by
    have := make_any (w := W) (ao := none) (cap := 0) (ts := []) (fun h => by simp at h) (by decide) (by simp)
    refine this.mono ?_
    rintro e w' ⟨a', c', rfl, _, k⟩
    exact ⟨a', c', rfl, k⟩
  have D1 : ∀ (W : World) (g : Nat), W.heap[g]? = some (.cells #[.int .u8 0, .int .u8 0, .int .u8 16, .int .u8 1] 5 (0, 0)) → Calls Try.prog 9 #[.slice (some ⟨g, 0, none⟩) 4 4] W fun e w' => (∃ v, e = .returned (.tuple #[v, .int .i64 3, .int .i64 0])) ∧ Kept (fun _ => True) W w' := fun W g hg => by
    have := decode_any (bs := [0, 0, 16, 1]) (cap := 4) (has_row (bs := [0, 0, 16, 1]) hg) (by decide)
    refine this.mono ?_
    rintro e w' ⟨xs, y, z, a', c', rfl, hd, _, k⟩
    obtain ⟨rfl, rfl⟩ := dec_long hd
    exact ⟨⟨_, rfl⟩, k⟩
  have D2 : ∀ (W : World), Calls Try.prog 9 #[.slice none 0 0] W fun e w' => (∃ v, e = .returned (.tuple #[v, .int .i64 10, .int .i64 0])) ∧ Kept (fun _ => True) W w' := fun W => by
    have := decode_any (w := W) (ao := none) (bs := []) (cap := 0) (fun h => by simp at h) (by decide)
    refine this.mono ?_
    rintro e w' ⟨xs, y, z, a', c', rfl, hd, _, k⟩
    obtain ⟨rfl, rfl⟩ := dec_none hd
    exact ⟨⟨_, rfl⟩, k⟩
  have EB : ∀ (W : World) (a : Option Addr) (c : Nat), Lv W a bad3 → Calls Try.prog 10 #[.slice a 3 c] W fun e w' => EEnc bad3 W e w' := fun W a c h => by
    have := encode_any (cap := c) h (by rw [len_bad3]; decide) (by have := wgt_few bad3 short_bad3; rw [len_bad3] at this; omega)
    rwa [len_bad3] at this
  have EG : ∀ (W : World) (a : Option Addr) (c : Nat), Lv W a (mkC [tA, tB, tC]) → Calls Try.prog 10 #[.slice a 3 c] W fun e w' => EEnc (mkC [tA, tB, tC]) W e w' := fun W a c h => by
    have := encode_any (cap := c) h (by rw [lT]; decide) (by have := wgt_few _ short_abc; rw [lT] at this; omega)
    rwa [lT] at this
  have D3 : ∀ (W : World) (g : Nat), W.heap[g]? = some (.cells (cells (encL bad3)).toArray 5 (0, 0)) → Calls Try.prog 9 #[.slice (some ⟨g, 0, none⟩) (encL bad3).length (encL bad3).length] W fun e w' => (∃ v, e = .returned (.tuple #[v, .int .i64 12, .int .i64 41])) ∧ Kept (fun _ => True) W w' := fun W g hg => by
    have := decode_any (cap := (encL bad3).length) (has_row hg) (by have := wgt_few bad3 short_bad3; rw [len_bad3] at this; rw [encL_len]; omega)
    refine this.mono ?_
    rintro e w' ⟨xs, y, z, a', c', rfl, hd, _, k⟩
    obtain ⟨rfl, rfl⟩ := dec_bad3 hd
    exact ⟨⟨_, rfl⟩, k⟩
  have D4 : ∀ (W : World) (g : Nat), W.heap[g]? = some (.cells (cells (encL (mkC [tA, tB, tC]))).toArray 5 (0, 0)) → Calls Try.prog 9 #[.slice (some ⟨g, 0, none⟩) (encL (mkC [tA, tB, tC])).length (encL (mkC [tA, tB, tC])).length] W fun e w' => (∃ a' c', e = .returned (.tuple #[.slice a' 3 c', .int .i64 0, .int .i64 0])) ∧ Kept (fun _ => True) W w' := fun W g hg => by
    have := decode_any (cap := (encL (mkC [tA, tB, tC])).length) (has_row hg) (by have := wgt_few _ short_abc; rw [lT] at this; rw [encL_len]; omega)
    refine this.mono ?_
    rintro e w' ⟨xs, y, z, a', c', rfl, hd, _, k⟩
    obtain ⟨rfl, rfl, rfl⟩ := dec_good3 hd
    rw [lT]
    exact ⟨⟨_, _, rfl⟩, k⟩
  have CK : ∀ (W : World) (a : Option Addr) (c : Nat), Lv W a bad3 → Calls Try.prog 11 #[.slice a 3 c] W fun e w' => e = .returned (.int .i64 1) ∧ Kept (fun _ => True) W w' := fun W a c h => by
    have := check_any (cap := c) h (by rw [len_bad3]; decide) (fun x hx => by have := short_bad3 x hx; omega)
    rw [len_bad3] at this
    refine this.mono ?_
    rintro e w' ⟨n, rfl, hn, k⟩
    have := hn.one chk_bad3
    subst this
    exact ⟨rfl, k⟩
  have CT : ∀ (W : World) (a : Option Addr) (c : Nat), Lv W a (mkC [tA, tB, tC]) → Calls Try.prog 13 #[.slice a 3 c] W fun e w' => ∃ g c', e = .returned (.slice (some ⟨g, 0, none⟩) 3 c') ∧ w'.cell? ⟨g, 2, none⟩ = some (.string ⟨#[99]⟩) ∧ Kept (fun _ => True) W w' := fun W a c h => by
    have := textsL_any (cap := c) h (by rw [lT]; decide)
    rw [lT, txs_mkC] at this
    refine this.mono ?_
    rintro e w' ⟨a', c', rfl, ht, k⟩
    obtain ⟨ao, cap, e0, _, hg⟩ := ht.shape
    injection e0 with e1 e2 e3
    subst e1
    obtain ⟨g, rfl⟩ := hg (by decide)
    exact ⟨g, c', rfl, ht.cell 2 (by decide), k⟩
  have HA0 : (mkC [tA, tB, tC])[0]'(by rw [lT]; decide) = ⟨tA, nxt zero32 tA, nxt_len _ _⟩ := mkC_get [tA, tB, tC] 0 (by decide)
  have HBD : bad3 = (mkC [tA, tB, tC]).set 1 ⟨tX, ((mkC [tA, tB, tC])[1]'(by rw [lT]; decide)).h, ((mkC [tA, tB, tC])[1]'(by rw [lT]; decide)).len⟩ := by
    unfold bad3
    rw [mkC_get [tA, tB, tC] 1 (by decide)]
  have HSet : Hid ((lrow (mkC [tA, tB, tC])).set 33 (.string ⟨#[120]⟩) = lrow bad3) := by
    show _ = _
    rw [HBD]
    exact lrow_setText (mkC [tA, tB, tC]) 1 (by rw [lT]; decide) tX
  have HL0 : ∀ (W : World) (g o : Nat), (∀ i (h : i < (mkC [tA, tB, tC]).length), W.rangeAt g (o + i * 33) (lcell (mkC [tA, tB, tC])[i])) → W.rangeAt g (o + 1) (cells (nxt zero32 tA)) := fun W g o h => by
    have h0 := h 0 (by rw [lT]; decide)
    rw [HA0, Nat.zero_mul, Nat.add_zero] at h0
    exact range_head h0
  clear HBD HA0
  have lB := len_bad3
  generalize bad3 = B at *
  generalize mkC [tA, tB, tC] = A at *
  go_enter Try.func3, Try.ntmps3
  go_wp2_with (first
    | (go_at_call 8; (with_reducible refine Calls.mono (CM _ w.heap.size (heap_alloc_new w _)) ?_); rintro e w1 ⟨a1, c1, rfl, ho1, k1⟩; obtain ⟨g1, rfl, hg1, hl1, hc1⟩ := ho1.some3 (by decide); have V1 : Hid (Lv w1 (some ⟨g1, 0, none⟩) A) := ho1.view; have K1 : Hid (Kept (fun _ => True) w w1) := ((Kept.refl _ _).alloc _).trans k1; clear ho1 k1)
    | (at_builtin; refine wpList_append_links linkP rfl (.tmp 21) (.tmp 22) rfl w1.heap.size (.slice (some ⟨w1.heap.size, 0, none⟩) 0 0) [] rfl (lo_new _ w1 _ (Nat.le_refl _)) (by simp) (some ⟨g1, 0, none⟩) 3 c1 A lT rfl (by simp) (V1.out.all ((Kept.refl _ _).alloc _)) (by simp [lT]) 3 rfl ?_; intro a2 c2 w2 ho2 hg2 hl2; obtain ⟨g2, rfl, hgg2, hlg2, hc2⟩ := ho2.some3 (by decide); rw [List.nil_append] at ho2; obtain ⟨⟨u0, cb1⟩, cb0⟩ := ho2.at33 lT; have HO2 : Hid (Lo 27 w2 w1.heap.size (.slice (some ⟨g2, 0, none⟩) 3 c2) A) := ho2; have K2 : Hid (Kept (fun _ => True) w1 w2) := ((Kept.refl _ _).alloc _).grown hg2 (fun i hi e => by simp [Value.ownBlock] at e; omega); clear ho2 hg2 hl2))
  have HB3 : Hid (Lo 27 (w2.setCell ⟨g2, 33, none⟩ (.string ⟨#[120]⟩)) w1.heap.size (.slice (some ⟨g2, 0, none⟩) 3 c2) B) := HO2.out.turn1 lT lB HSet.out
  have K3 : Kept (fun _ => True) w1 (w2.setCell ⟨g2, 33, none⟩ (.string ⟨#[120]⟩)) := K2.out.then ((Kept.refl (· ≠ g2) _).setCell (by simp) _) (fun i hi _ => by omega)
  have KW3 : Hid (Kept (fun _ => True) w (w2.setCell ⟨g2, 33, none⟩ (.string ⟨#[120]⟩))) := K1.out.trans K3
  have VA3 : Hid (Lv (w2.setCell ⟨g2, 33, none⟩ (.string ⟨#[120]⟩)) (some ⟨g1, 0, none⟩) A) := V1.out.all K3
  have hs3 : (w2.setCell ⟨g2, 33, none⟩ (.string ⟨#[120]⟩)).heap.size = w2.heap.size := by simp [World.setCell]
  rw [← hs3]
  clear K3 cb0 cb1 hgg2 hlg2 HO2 K2 hg1 hl1 V1 K1 hs3
  generalize w2.setCell ⟨g2, 33, none⟩ (.string ⟨#[120]⟩) = w3 at *
  have VB3 : Hid (Lv w3 (some ⟨g2, 0, none⟩) B) := HB3.out.view
  refine Calls.mono (D1 _ w3.heap.size (heap_alloc_new w3 _)) ?_
  rintro e w4 ⟨⟨v4, rfl⟩, k4⟩
  have K34 : Hid (Kept (fun _ => True) w3 w4) := ((Kept.refl _ _).alloc _).trans k4
  clear k4 HB3
  go_wp2_with (first
    | (go_at_call 9; (with_reducible refine Calls.mono (D2 w4) ?_); rintro e w5 ⟨⟨v5, rfl⟩, k5⟩; have K35 : Hid (Kept (fun _ => True) w3 w5) := K34.out.trans k5)
    | (go_at_call 10; (with_reducible refine Calls.mono (EB w5 _ c2 (VB3.out.all K35.out)) ?_); rintro e w6 ⟨D6, rfl, h6, k6, _⟩; have K36 : Hid (Kept (fun _ => True) w3 w6) := K35.out.trans k6)
    | (go_at_call 9; (with_reducible refine Calls.mono (D3 w6 D6 h6) ?_); rintro e w7 ⟨⟨v7, rfl⟩, k7⟩; have K37 : Hid (Kept (fun _ => True) w3 w7) := K36.out.trans k7)
    | (go_at_call 10; (with_reducible refine Calls.mono (EG w7 _ c1 (VA3.out.all K37.out)) ?_); rintro e w8 ⟨D8, rfl, h8, k8, _⟩; have K38 : Hid (Kept (fun _ => True) w3 w8) := K37.out.trans k8)
    | (go_at_call 9; (with_reducible refine Calls.mono (D4 w8 D8 h8) ?_); rintro e w9 ⟨⟨a9, c9, rfl⟩, k9⟩; have K39 : Hid (Kept (fun _ => True) w3 w9) := K38.out.trans k9)
    | ((with_reducible refine w_alloc (d := some 15) arr32 ?_); intro w10 a15 k10 s10))
  have KX : Hid (Kept (fun _ => True) w w10) := (KW3.out.trans K39.out).trans k10
  have VA : Hid (Lv w10 (some ⟨g1, 0, none⟩) A) := VA3.out.all (K39.out.trans k10)
  have VB : Hid (Lv w10 (some ⟨g2, 0, none⟩) B) := VB3.out.all (K39.out.trans k10)
  have AZ : Hid (Ar w10 w9.heap.size 25 (cells zero32)) := a15
  clear D1 D2 D3 D4 EB EG CM K34 K35 K36 K37 K38 K39 k5 k6 k7 k8 k9 k10 s10 a15 h6 h8 KW3 VA3 VB3
  generalize w9.heap.size = Z at *
  -- 11
  have hgd := guard32
  have he := fun (w0 : World) => eq_yes (nxt_len zero32 tA) rfl w0
  have CX := fun (W : World) => rnext_any (w := W) zero32 tA zero32_len (by decide)
  have HL : Hid (∀ W, Kept (fun _ => True) w10 W → W.rangeAt g1 1 (cells (nxt zero32 tA))) := fun W hW => by
    obtain ⟨b, off, e0, _, hc⟩ := (VA.out.all hW).row (by rw [lT]; decide)
    injection e0 with e0
    injection e0 with e1 e2 e3
    subst e1 e2
    have := HL0 W g1 0 (by simpa using hc)
    simpa using this
  have ia : (Try.prog.info? 25).map (·.size) = some (cells (nxt zero32 tA)).length := by rw [cells_length, nxt_len]; exact arr32.size
  have iz : (Try.prog.info? 25).map (·.size) = some (cells zero32).length := by rw [cells_length, zero32_len]; exact arr32.size
  have hz32 : zero32.length = 32 := zero32_len
  have EA : tA.toArray = #[97] := rfl
  rw [EA] at CX
  clear HL0 EA hz32
  generalize nxt zero32 tA = hd at *
  generalize zero32 = z32 at *
  refine Gz.begin (fun W => Kept (fun _ => True) w10 W) (fun _ => false) (by kernel_rfl) ?_
  refine Gz.take (i := 0) (oi := { dst := some 52, op := Op.move (Operand.tmp 2), type := 22, pos := _, after := _, guard := none }) (v := ?_) rfl (by kernel_rfl) (by kernel_rfl) (by kernel_rfl) (by kernel_rfl) (fun _ _ _ h => h) (Or.inl ⟨by rfl, ?hy0⟩) (Kept.refl _ _).drew ?_
  case hy0 => (intro W hSw; (try dsimp only at hSw); go_simp; try with_reducible rfl)
  try simp only [Act.put, List.setIfInBounds_toArray, List.set_cons_zero, List.set_cons_succ]
  refine Gz.one (i := 1) (o := { dst := some 53, op := Op.call { callee := Callee.value (Operand.func 11), args := #[Operand.tmp 52], argTypes := #[22] }, type := 3, pos := _, after := _, guard := none }) (by kernel_rfl) rfl (fun K hK => ?_)
  go_simp
  with_reducible refine Calls.mono (CK _ _ c2 (VB.out.all (Kept.refl _ _).drew)) ?_
  rintro e w11 ⟨rfl, k11⟩
  have s11 : Kept (fun _ => True) w10 w11 := (Kept.refl _ _).drew.trans k11
  try go_wp2_with fail
  refine hK.out _ _ (fun _ => s11) ?_
  clear hK K
  try simp only [Act.put, List.setIfInBounds_toArray, List.set_cons_zero, List.set_cons_succ]
  refine Gz.to (S' := fun W => Kept (fun _ => True) w11 W) (fun W q => s11.trans q) _ _ _ _ ?_
  refine Gz.take (i := 2) (oi := { dst := some 54, op := Op.binOp BinOp.eql 3 (Operand.tmp 53) (Operand.const (Value.int IntKind.i64 1)) 3, type := 4, pos := _, after := _, guard := none }) (v := ?_) rfl (by kernel_rfl) (by kernel_rfl) (by kernel_rfl) (by kernel_rfl) (fun _ _ _ h => h) (Or.inl ⟨by rfl, ?hy2⟩) (Kept.refl _ _) ?_
  case hy2 => (intro W hSw; (try dsimp only at hSw); go_simp; try with_reducible rfl)
  try simp only [Act.put, List.setIfInBounds_toArray, List.set_cons_zero, List.set_cons_succ]
  refine Gz.take (i := 3) (oi := { dst := some 55, op := Op.move (Operand.tmp 54), type := 4, pos := _, after := _, guard := none }) (v := ?_) rfl (by kernel_rfl) (by kernel_rfl) (by kernel_rfl) (by kernel_rfl) (fun _ _ _ h => h) (Or.inl ⟨by rfl, ?hy3⟩) (Kept.refl _ _) ?_
  case hy3 => (intro W hSw; (try dsimp only at hSw); go_simp; try with_reducible rfl)
  try simp only [Act.put, List.setIfInBounds_toArray, List.set_cons_zero, List.set_cons_succ]
  refine Gz.take (i := 4) (oi := { dst := some 56, op := Op.move (Operand.tmp 4), type := 28, pos := _, after := _, guard := some (3, true) }) (v := ?_) rfl (by kernel_rfl) (by kernel_rfl) (by kernel_rfl) (by kernel_rfl) (fun _ _ _ h => h) (Or.inl ⟨by rfl, ?hy4⟩) (Kept.refl _ _) ?_
  case hy4 => (intro W hSw; (try dsimp only at hSw); go_simp; try with_reducible rfl)
  try simp only [Act.put, List.setIfInBounds_toArray, List.set_cons_zero, List.set_cons_succ]
  refine Gz.take (i := 5) (oi := { dst := some 57, op := Op.binOp BinOp.eql 3 (Operand.tmp 56) (Operand.const (Value.int IntKind.i64 3)) 3, type := 4, pos := _, after := _, guard := some (3, true) }) (v := ?_) rfl (by kernel_rfl) (by kernel_rfl) (by kernel_rfl) (by kernel_rfl) (fun _ _ _ h => h) (Or.inl ⟨by rfl, ?hy5⟩) (Kept.refl _ _) ?_
  case hy5 => (intro W hSw; (try dsimp only at hSw); go_simp; try with_reducible rfl)
  try simp only [Act.put, List.setIfInBounds_toArray, List.set_cons_zero, List.set_cons_succ]
  refine Gz.take (i := 6) (oi := { dst := some 58, op := Op.pick (Operand.tmp 55) (Operand.tmp 57) (Operand.const (Value.bool false)), type := 4, pos := _, after := _, guard := none }) (v := ?_) rfl (by kernel_rfl) (by kernel_rfl) (by kernel_rfl) (by kernel_rfl) (fun _ _ _ h => h) (Or.inl ⟨by rfl, ?hy6⟩) (Kept.refl _ _) ?_
  case hy6 => (intro W hSw; (try dsimp only at hSw); go_simp; try with_reducible rfl)
  try simp only [Act.put, List.setIfInBounds_toArray, List.set_cons_zero, List.set_cons_succ]
  refine Gz.take (i := 7) (oi := { dst := some 59, op := Op.move (Operand.tmp 58), type := 4, pos := _, after := _, guard := none }) (v := ?_) rfl (by kernel_rfl) (by kernel_rfl) (by kernel_rfl) (by kernel_rfl) (fun _ _ _ h => h) (Or.inl ⟨by rfl, ?hy7⟩) (Kept.refl _ _) ?_
  case hy7 => (intro W hSw; (try dsimp only at hSw); go_simp; try with_reducible rfl)
  try simp only [Act.put, List.setIfInBounds_toArray, List.set_cons_zero, List.set_cons_succ]
  refine Gz.take (i := 8) (oi := { dst := some 60, op := Op.move (Operand.tmp 5), type := 3, pos := _, after := _, guard := some (7, true) }) (v := ?_) rfl (by kernel_rfl) (by kernel_rfl) (by kernel_rfl) (by kernel_rfl) (fun _ _ _ h => h) (Or.inl ⟨by rfl, ?hy8⟩) (Kept.refl _ _) ?_
  case hy8 => (intro W hSw; (try dsimp only at hSw); go_simp; try with_reducible rfl)
  try simp only [Act.put, List.setIfInBounds_toArray, List.set_cons_zero, List.set_cons_succ]
  refine Gz.take (i := 9) (oi := { dst := some 61, op := Op.binOp BinOp.eql 3 (Operand.tmp 60) (Operand.const (Value.int IntKind.i64 0)) 3, type := 4, pos := _, after := _, guard := some (7, true) }) (v := ?_) rfl (by kernel_rfl) (by kernel_rfl) (by kernel_rfl) (by kernel_rfl) (fun _ _ _ h => h) (Or.inl ⟨by rfl, ?hy9⟩) (Kept.refl _ _) ?_
  case hy9 => (intro W hSw; (try dsimp only at hSw); go_simp; try with_reducible rfl)
  try simp only [Act.put, List.setIfInBounds_toArray, List.set_cons_zero, List.set_cons_succ]
  refine Gz.take (i := 10) (oi := { dst := some 62, op := Op.pick (Operand.tmp 59) (Operand.tmp 61) (Operand.const (Value.bool false)), type := 4, pos := _, after := _, guard := none }) (v := ?_) rfl (by kernel_rfl) (by kernel_rfl) (by kernel_rfl) (by kernel_rfl) (fun _ _ _ h => h) (Or.inl ⟨by rfl, ?hy10⟩) (Kept.refl _ _) ?_
  case hy10 => (intro W hSw; (try dsimp only at hSw); go_simp; try with_reducible rfl)
  try simp only [Act.put, List.setIfInBounds_toArray, List.set_cons_zero, List.set_cons_succ]
  refine Gz.take (i := 11) (oi := { dst := some 63, op := Op.move (Operand.tmp 62), type := 4, pos := _, after := _, guard := none }) (v := ?_) rfl (by kernel_rfl) (by kernel_rfl) (by kernel_rfl) (by kernel_rfl) (fun _ _ _ h => h) (Or.inl ⟨by rfl, ?hy11⟩) (Kept.refl _ _) ?_
  case hy11 => (intro W hSw; (try dsimp only at hSw); go_simp; try with_reducible rfl)
  try simp only [Act.put, List.setIfInBounds_toArray, List.set_cons_zero, List.set_cons_succ]
  refine Gz.take (i := 12) (oi := { dst := some 64, op := Op.move (Operand.tmp 7), type := 28, pos := _, after := _, guard := some (11, true) }) (v := ?_) rfl (by kernel_rfl) (by kernel_rfl) (by kernel_rfl) (by kernel_rfl) (fun _ _ _ h => h) (Or.inl ⟨by rfl, ?hy12⟩) (Kept.refl _ _) ?_
  case hy12 => (intro W hSw; (try dsimp only at hSw); go_simp; try with_reducible rfl)
  try simp only [Act.put, List.setIfInBounds_toArray, List.set_cons_zero, List.set_cons_succ]
  refine Gz.take (i := 13) (oi := { dst := some 65, op := Op.binOp BinOp.eql 3 (Operand.tmp 64) (Operand.const (Value.int IntKind.i64 10)) 3, type := 4, pos := _, after := _, guard := some (11, true) }) (v := ?_) rfl (by kernel_rfl) (by kernel_rfl) (by kernel_rfl) (by kernel_rfl) (fun _ _ _ h => h) (Or.inl ⟨by rfl, ?hy13⟩) (Kept.refl _ _) ?_
  case hy13 => (intro W hSw; (try dsimp only at hSw); go_simp; try with_reducible rfl)
  try simp only [Act.put, List.setIfInBounds_toArray, List.set_cons_zero, List.set_cons_succ]
  refine Gz.take (i := 14) (oi := { dst := some 66, op := Op.pick (Operand.tmp 63) (Operand.tmp 65) (Operand.const (Value.bool false)), type := 4, pos := _, after := _, guard := none }) (v := ?_) rfl (by kernel_rfl) (by kernel_rfl) (by kernel_rfl) (by kernel_rfl) (fun _ _ _ h => h) (Or.inl ⟨by rfl, ?hy14⟩) (Kept.refl _ _) ?_
  case hy14 => (intro W hSw; (try dsimp only at hSw); go_simp; try with_reducible rfl)
  try simp only [Act.put, List.setIfInBounds_toArray, List.set_cons_zero, List.set_cons_succ]
  refine Gz.take (i := 15) (oi := { dst := some 67, op := Op.move (Operand.tmp 66), type := 4, pos := _, after := _, guard := none }) (v := ?_) rfl (by kernel_rfl) (by kernel_rfl) (by kernel_rfl) (by kernel_rfl) (fun _ _ _ h => h) (Or.inl ⟨by rfl, ?hy15⟩) (Kept.refl _ _) ?_
  case hy15 => (intro W hSw; (try dsimp only at hSw); go_simp; try with_reducible rfl)
  try simp only [Act.put, List.setIfInBounds_toArray, List.set_cons_zero, List.set_cons_succ]
  refine Gz.take (i := 16) (oi := { dst := some 68, op := Op.move (Operand.tmp 8), type := 3, pos := _, after := _, guard := some (15, true) }) (v := ?_) rfl (by kernel_rfl) (by kernel_rfl) (by kernel_rfl) (by kernel_rfl) (fun _ _ _ h => h) (Or.inl ⟨by rfl, ?hy16⟩) (Kept.refl _ _) ?_
  case hy16 => (intro W hSw; (try dsimp only at hSw); go_simp; try with_reducible rfl)
  try simp only [Act.put, List.setIfInBounds_toArray, List.set_cons_zero, List.set_cons_succ]
  refine Gz.take (i := 17) (oi := { dst := some 69, op := Op.binOp BinOp.eql 3 (Operand.tmp 68) (Operand.const (Value.int IntKind.i64 0)) 3, type := 4, pos := _, after := _, guard := some (15, true) }) (v := ?_) rfl (by kernel_rfl) (by kernel_rfl) (by kernel_rfl) (by kernel_rfl) (fun _ _ _ h => h) (Or.inl ⟨by rfl, ?hy17⟩) (Kept.refl _ _) ?_
  case hy17 => (intro W hSw; (try dsimp only at hSw); go_simp; try with_reducible rfl)
  try simp only [Act.put, List.setIfInBounds_toArray, List.set_cons_zero, List.set_cons_succ]
  refine Gz.take (i := 18) (oi := { dst := some 70, op := Op.pick (Operand.tmp 67) (Operand.tmp 69) (Operand.const (Value.bool false)), type := 4, pos := _, after := _, guard := none }) (v := ?_) rfl (by kernel_rfl) (by kernel_rfl) (by kernel_rfl) (by kernel_rfl) (fun _ _ _ h => h) (Or.inl ⟨by rfl, ?hy18⟩) (Kept.refl _ _) ?_
  case hy18 => (intro W hSw; (try dsimp only at hSw); go_simp; try with_reducible rfl)
  try simp only [Act.put, List.setIfInBounds_toArray, List.set_cons_zero, List.set_cons_succ]
  refine Gz.take (i := 19) (oi := { dst := some 71, op := Op.move (Operand.tmp 70), type := 4, pos := _, after := _, guard := none }) (v := ?_) rfl (by kernel_rfl) (by kernel_rfl) (by kernel_rfl) (by kernel_rfl) (fun _ _ _ h => h) (Or.inl ⟨by rfl, ?hy19⟩) (Kept.refl _ _) ?_
  case hy19 => (intro W hSw; (try dsimp only at hSw); go_simp; try with_reducible rfl)
  try simp only [Act.put, List.setIfInBounds_toArray, List.set_cons_zero, List.set_cons_succ]
  refine Gz.take (i := 20) (oi := { dst := some 72, op := Op.move (Operand.tmp 10), type := 28, pos := _, after := _, guard := some (19, true) }) (v := ?_) rfl (by kernel_rfl) (by kernel_rfl) (by kernel_rfl) (by kernel_rfl) (fun _ _ _ h => h) (Or.inl ⟨by rfl, ?hy20⟩) (Kept.refl _ _) ?_
  case hy20 => (intro W hSw; (try dsimp only at hSw); go_simp; try with_reducible rfl)
  try simp only [Act.put, List.setIfInBounds_toArray, List.set_cons_zero, List.set_cons_succ]
  refine Gz.take (i := 21) (oi := { dst := some 73, op := Op.binOp BinOp.eql 3 (Operand.tmp 72) (Operand.const (Value.int IntKind.i64 12)) 3, type := 4, pos := _, after := _, guard := some (19, true) }) (v := ?_) rfl (by kernel_rfl) (by kernel_rfl) (by kernel_rfl) (by kernel_rfl) (fun _ _ _ h => h) (Or.inl ⟨by rfl, ?hy21⟩) (Kept.refl _ _) ?_
  case hy21 => (intro W hSw; (try dsimp only at hSw); go_simp; try with_reducible rfl)
  try simp only [Act.put, List.setIfInBounds_toArray, List.set_cons_zero, List.set_cons_succ]
  refine Gz.take (i := 22) (oi := { dst := some 74, op := Op.pick (Operand.tmp 71) (Operand.tmp 73) (Operand.const (Value.bool false)), type := 4, pos := _, after := _, guard := none }) (v := ?_) rfl (by kernel_rfl) (by kernel_rfl) (by kernel_rfl) (by kernel_rfl) (fun _ _ _ h => h) (Or.inl ⟨by rfl, ?hy22⟩) (Kept.refl _ _) ?_
  case hy22 => (intro W hSw; (try dsimp only at hSw); go_simp; try with_reducible rfl)
  try simp only [Act.put, List.setIfInBounds_toArray, List.set_cons_zero, List.set_cons_succ]
  refine Gz.take (i := 23) (oi := { dst := some 75, op := Op.move (Operand.tmp 74), type := 4, pos := _, after := _, guard := none }) (v := ?_) rfl (by kernel_rfl) (by kernel_rfl) (by kernel_rfl) (by kernel_rfl) (fun _ _ _ h => h) (Or.inl ⟨by rfl, ?hy23⟩) (Kept.refl _ _) ?_
  case hy23 => (intro W hSw; (try dsimp only at hSw); go_simp; try with_reducible rfl)
  try simp only [Act.put, List.setIfInBounds_toArray, List.set_cons_zero, List.set_cons_succ]
  refine Gz.take (i := 24) (oi := { dst := some 76, op := Op.move (Operand.tmp 11), type := 3, pos := _, after := _, guard := some (23, true) }) (v := ?_) rfl (by kernel_rfl) (by kernel_rfl) (by kernel_rfl) (by kernel_rfl) (fun _ _ _ h => h) (Or.inl ⟨by rfl, ?hy24⟩) (Kept.refl _ _) ?_
  case hy24 => (intro W hSw; (try dsimp only at hSw); go_simp; try with_reducible rfl)
  try simp only [Act.put, List.setIfInBounds_toArray, List.set_cons_zero, List.set_cons_succ]
  refine Gz.take (i := 25) (oi := { dst := some 77, op := Op.binOp BinOp.eql 3 (Operand.tmp 76) (Operand.const (Value.int IntKind.i64 41)) 3, type := 4, pos := _, after := _, guard := some (23, true) }) (v := ?_) rfl (by kernel_rfl) (by kernel_rfl) (by kernel_rfl) (by kernel_rfl) (fun _ _ _ h => h) (Or.inl ⟨by rfl, ?hy25⟩) (Kept.refl _ _) ?_
  case hy25 => (intro W hSw; (try dsimp only at hSw); go_simp; try with_reducible rfl)
  try simp only [Act.put, List.setIfInBounds_toArray, List.set_cons_zero, List.set_cons_succ]
  refine Gz.take (i := 26) (oi := { dst := some 78, op := Op.pick (Operand.tmp 75) (Operand.tmp 77) (Operand.const (Value.bool false)), type := 4, pos := _, after := _, guard := none }) (v := ?_) rfl (by kernel_rfl) (by kernel_rfl) (by kernel_rfl) (by kernel_rfl) (fun _ _ _ h => h) (Or.inl ⟨by rfl, ?hy26⟩) (Kept.refl _ _) ?_
  case hy26 => (intro W hSw; (try dsimp only at hSw); go_simp; try with_reducible rfl)
  try simp only [Act.put, List.setIfInBounds_toArray, List.set_cons_zero, List.set_cons_succ]
  refine Gz.take (i := 27) (oi := { dst := some 79, op := Op.move (Operand.tmp 78), type := 4, pos := _, after := _, guard := none }) (v := ?_) rfl (by kernel_rfl) (by kernel_rfl) (by kernel_rfl) (by kernel_rfl) (fun _ _ _ h => h) (Or.inl ⟨by rfl, ?hy27⟩) (Kept.refl _ _) ?_
  case hy27 => (intro W hSw; (try dsimp only at hSw); go_simp; try with_reducible rfl)
  try simp only [Act.put, List.setIfInBounds_toArray, List.set_cons_zero, List.set_cons_succ]
  refine Gz.take (i := 28) (oi := { dst := some 80, op := Op.move (Operand.tmp 12), type := 22, pos := _, after := _, guard := some (27, true) }) (v := ?_) rfl (by kernel_rfl) (by kernel_rfl) (by kernel_rfl) (by kernel_rfl) (fun _ _ _ h => h) (Or.inl ⟨by rfl, ?hy28⟩) (Kept.refl _ _) ?_
  case hy28 => (intro W hSw; (try dsimp only at hSw); go_simp; try with_reducible rfl)
  try simp only [Act.put, List.setIfInBounds_toArray, List.set_cons_zero, List.set_cons_succ]
  refine Gz.take (i := 29) (oi := { dst := some 81, op := Op.call { callee := Callee.builtin Builtin.len, args := #[Operand.tmp 80], argTypes := #[22] }, type := 3, pos := _, after := _, guard := some (27, true) }) (v := ?_) rfl (by kernel_rfl) (by kernel_rfl) (by kernel_rfl) (by kernel_rfl) (fun _ _ _ h => h) (Or.inl ⟨by rfl, ?hy29⟩) (Kept.refl _ _) ?_
  case hy29 => (intro W hSw; (try dsimp only at hSw); go_simp; try with_reducible rfl)
  try simp only [Act.put, List.setIfInBounds_toArray, List.set_cons_zero, List.set_cons_succ]
  refine Gz.take (i := 30) (oi := { dst := some 82, op := Op.binOp BinOp.eql 3 (Operand.tmp 81) (Operand.const (Value.int IntKind.i64 3)) 3, type := 4, pos := _, after := _, guard := some (27, true) }) (v := ?_) rfl (by kernel_rfl) (by kernel_rfl) (by kernel_rfl) (by kernel_rfl) (fun _ _ _ h => h) (Or.inl ⟨by rfl, ?hy30⟩) (Kept.refl _ _) ?_
  case hy30 => (intro W hSw; (try dsimp only at hSw); go_simp; try with_reducible rfl)
  try simp only [Act.put, List.setIfInBounds_toArray, List.set_cons_zero, List.set_cons_succ]
  refine Gz.take (i := 31) (oi := { dst := some 83, op := Op.pick (Operand.tmp 79) (Operand.tmp 82) (Operand.const (Value.bool false)), type := 4, pos := _, after := _, guard := none }) (v := ?_) rfl (by kernel_rfl) (by kernel_rfl) (by kernel_rfl) (by kernel_rfl) (fun _ _ _ h => h) (Or.inl ⟨by rfl, ?hy31⟩) (Kept.refl _ _) ?_
  case hy31 => (intro W hSw; (try dsimp only at hSw); go_simp; try with_reducible rfl)
  try simp only [Act.put, List.setIfInBounds_toArray, List.set_cons_zero, List.set_cons_succ]
  refine Gz.take (i := 32) (oi := { dst := some 84, op := Op.move (Operand.tmp 83), type := 4, pos := _, after := _, guard := none }) (v := ?_) rfl (by kernel_rfl) (by kernel_rfl) (by kernel_rfl) (by kernel_rfl) (fun _ _ _ h => h) (Or.inl ⟨by rfl, ?hy32⟩) (Kept.refl _ _) ?_
  case hy32 => (intro W hSw; (try dsimp only at hSw); go_simp; try with_reducible rfl)
  try simp only [Act.put, List.setIfInBounds_toArray, List.set_cons_zero, List.set_cons_succ]
  refine Gz.take (i := 33) (oi := { dst := some 85, op := Op.move (Operand.tmp 13), type := 28, pos := _, after := _, guard := some (32, true) }) (v := ?_) rfl (by kernel_rfl) (by kernel_rfl) (by kernel_rfl) (by kernel_rfl) (fun _ _ _ h => h) (Or.inl ⟨by rfl, ?hy33⟩) (Kept.refl _ _) ?_
  case hy33 => (intro W hSw; (try dsimp only at hSw); go_simp; try with_reducible rfl)
  try simp only [Act.put, List.setIfInBounds_toArray, List.set_cons_zero, List.set_cons_succ]
  refine Gz.take (i := 34) (oi := { dst := some 86, op := Op.binOp BinOp.eql 28 (Operand.tmp 85) (Operand.const (Value.int IntKind.i64 0)) 28, type := 4, pos := _, after := _, guard := some (32, true) }) (v := ?_) rfl (by kernel_rfl) (by kernel_rfl) (by kernel_rfl) (by kernel_rfl) (fun _ _ _ h => h) (Or.inl ⟨by rfl, ?hy34⟩) (Kept.refl _ _) ?_
  case hy34 => (intro W hSw; (try dsimp only at hSw); go_simp; try with_reducible rfl)
  try simp only [Act.put, List.setIfInBounds_toArray, List.set_cons_zero, List.set_cons_succ]
  refine Gz.take (i := 35) (oi := { dst := some 87, op := Op.pick (Operand.tmp 84) (Operand.tmp 86) (Operand.const (Value.bool false)), type := 4, pos := _, after := _, guard := none }) (v := ?_) rfl (by kernel_rfl) (by kernel_rfl) (by kernel_rfl) (by kernel_rfl) (fun _ _ _ h => h) (Or.inl ⟨by rfl, ?hy35⟩) (Kept.refl _ _) ?_
  case hy35 => (intro W hSw; (try dsimp only at hSw); go_simp; try with_reducible rfl)
  try simp only [Act.put, List.setIfInBounds_toArray, List.set_cons_zero, List.set_cons_succ]
  refine Gz.take (i := 36) (oi := { dst := some 88, op := Op.move (Operand.tmp 87), type := 4, pos := _, after := _, guard := none }) (v := ?_) rfl (by kernel_rfl) (by kernel_rfl) (by kernel_rfl) (by kernel_rfl) (fun _ _ _ h => h) (Or.inl ⟨by rfl, ?hy36⟩) (Kept.refl _ _) ?_
  case hy36 => (intro W hSw; (try dsimp only at hSw); go_simp; try with_reducible rfl)
  try simp only [Act.put, List.setIfInBounds_toArray, List.set_cons_zero, List.set_cons_succ]
  refine Gz.take (i := 37) (oi := { dst := some 89, op := Op.move (Operand.tmp 1), type := 22, pos := _, after := _, guard := some (36, true) }) (v := ?_) rfl (by kernel_rfl) (by kernel_rfl) (by kernel_rfl) (by kernel_rfl) (fun _ _ _ h => h) (Or.inl ⟨by rfl, ?hy37⟩) (Kept.refl _ _) ?_
  case hy37 => (intro W hSw; (try dsimp only at hSw); go_simp; try with_reducible rfl)
  try simp only [Act.put, List.setIfInBounds_toArray, List.set_cons_zero, List.set_cons_succ]
  refine Gz.take (i := 38) (oi := { dst := some 90, op := Op.indexAddr 22 (Operand.tmp 89) (Operand.const (Value.int IntKind.i64 0)), type := 0, pos := _, after := _, guard := some (36, true) }) (v := ?_) rfl (by kernel_rfl) (by kernel_rfl) (by kernel_rfl) (by kernel_rfl) (fun _ _ _ h => h) (Or.inl ⟨by rfl, ?hy38⟩) (Kept.refl _ _) ?_
  case hy38 => (intro W hSw; (try dsimp only at hSw); go_simp; try with_reducible rfl)
  try simp only [Act.put, List.setIfInBounds_toArray, List.set_cons_zero, List.set_cons_succ]
  refine Gz.take (i := 39) (oi := { dst := some 91, op := Op.fieldAddr 27 (Operand.tmp 90) 1, type := 0, pos := _, after := _, guard := some (36, true) }) (v := ?_) rfl (by kernel_rfl) (by kernel_rfl) (by kernel_rfl) (by kernel_rfl) (fun _ _ _ h => h) (Or.inl ⟨by rfl, ?hy39⟩) (Kept.refl _ _) ?_
  case hy39 => (intro W hSw; (try dsimp only at hSw); go_simp; try with_reducible rfl)
  try simp only [Act.put, List.setIfInBounds_toArray, List.set_cons_zero, List.set_cons_succ]
  refine Gz.take (i := 40) (oi := { dst := some 92, op := Op.load 25 (Operand.tmp 91), type := 25, pos := _, after := _, guard := some (36, true) }) (v := _) rfl (by kernel_rfl) (by kernel_rfl) (by kernel_rfl) (by kernel_rfl) (fun _ _ _ h => h) (yieldsIf_load_mid (by rfl) _ _ rfl (g1) (1) rfl (cells hd) _ (fun W hW => HL.out W ((s11).trans hW)) Try.underlying25 rfl (ia)) (Kept.refl _ _) ?_
  try simp only [Act.put, List.setIfInBounds_toArray, List.set_cons_zero, List.set_cons_succ]
  refine Gz.take (i := 41) (oi := { dst := some 93, op := Op.load 25 (Operand.tmp 15), type := 25, pos := _, after := _, guard := some (36, true) }) (v := _) rfl (by kernel_rfl) (by kernel_rfl) (by kernel_rfl) (by kernel_rfl) (fun _ _ _ h => h) (yieldsIf_load_mid (by rfl) _ _ rfl (Z) (0) rfl (cells z32) _ (fun W hW => (AZ.out.kept ((s11).trans hW) trivial).range) Try.underlying25 rfl (iz)) (Kept.refl _ _) ?_
  try simp only [Act.put, List.setIfInBounds_toArray, List.set_cons_zero, List.set_cons_succ]
  refine Gz.one (i := 42) (o := { dst := some 94, op := Op.call { callee := Callee.value (Operand.func 12), args := #[Operand.tmp 93, Operand.const (Value.string { data := #[97] })], argTypes := #[25, 9] }, type := 25, pos := _, after := _, guard := some (36, true) }) (by kernel_rfl) rfl (fun K hK => ?_)
  go_simp
  with_reducible refine Calls.mono (CX _) ?_
  rintro e w12 ⟨rfl, k12⟩
  try go_wp2_with fail
  refine hK.out _ _ (fun _ => k12) ?_
  clear hK K
  try simp only [Act.put, List.setIfInBounds_toArray, List.set_cons_zero, List.set_cons_succ]
  refine Gz.to (S' := fun W => Kept (fun _ => True) w12 W) (fun W q => k12.trans q) _ _ _ _ ?_
  refine Gz.take (i := 43) (oi := { dst := some 95, op := Op.binOp BinOp.eql 25 (Operand.tmp 92) (Operand.tmp 94) 25, type := 4, pos := _, after := _, guard := some (36, true) }) (v := ?_) rfl (by kernel_rfl) (by kernel_rfl) (by kernel_rfl) (by kernel_rfl) (fun _ _ _ h => h) (Or.inl ⟨by rfl, ?hy43⟩) (Kept.refl _ _) ?_
  case hy43 => (intro W hSw; (try dsimp only at hSw); go_simp; try with_reducible rfl)
  try simp only [Act.put, List.setIfInBounds_toArray, List.set_cons_zero, List.set_cons_succ]
  refine Gz.take (i := 44) (oi := { dst := some 96, op := Op.pick (Operand.tmp 88) (Operand.tmp 95) (Operand.const (Value.bool false)), type := 4, pos := _, after := _, guard := none }) (v := ?_) rfl (by kernel_rfl) (by kernel_rfl) (by kernel_rfl) (by kernel_rfl) (fun _ _ _ h => h) (Or.inl ⟨by rfl, ?hy44⟩) (Kept.refl _ _) ?_
  case hy44 => (intro W hSw; (try dsimp only at hSw); go_simp; try with_reducible rfl)
  try simp only [Act.put, List.setIfInBounds_toArray, List.set_cons_zero, List.set_cons_succ]
  refine Gz.take (i := 45) (oi := { dst := some 97, op := Op.move (Operand.tmp 96), type := 4, pos := _, after := _, guard := none }) (v := ?_) rfl (by kernel_rfl) (by kernel_rfl) (by kernel_rfl) (by kernel_rfl) (fun _ _ _ h => h) (Or.inl ⟨by rfl, ?hy45⟩) (Kept.refl _ _) ?_
  case hy45 => (intro W hSw; (try dsimp only at hSw); go_simp; try with_reducible rfl)
  try simp only [Act.put, List.setIfInBounds_toArray, List.set_cons_zero, List.set_cons_succ]
  refine Gz.one (i := 46) (o := { dst := some 98, op := Op.call { callee := Callee.value (Operand.func 8), args := #[Operand.const (Value.slice none 0 0)], argTypes := #[24] }, type := 22, pos := _, after := _, guard := some (45, true) }) (by kernel_rfl) rfl (fun K hK => ?_)
  go_simp
  with_reducible refine Calls.mono (C0 _) ?_
  rintro e w13 ⟨a13, c13, rfl, k13⟩
  try go_wp2_with fail
  refine hK.out _ _ (fun _ => k13) ?_
  clear hK K
  try simp only [Act.put, List.setIfInBounds_toArray, List.set_cons_zero, List.set_cons_succ]
  refine Gz.to (S' := fun W => Kept (fun _ => True) w13 W) (fun W q => k13.trans q) _ _ _ _ ?_
  refine Gz.take (i := 47) (oi := { dst := some 99, op := Op.call { callee := Callee.builtin Builtin.len, args := #[Operand.tmp 98], argTypes := #[22] }, type := 3, pos := _, after := _, guard := some (45, true) }) (v := ?_) rfl (by kernel_rfl) (by kernel_rfl) (by kernel_rfl) (by kernel_rfl) (fun _ _ _ h => h) (Or.inl ⟨by rfl, ?hy47⟩) (Kept.refl _ _) ?_
  case hy47 => (intro W hSw; (try dsimp only at hSw); go_simp; try with_reducible rfl)
  try simp only [Act.put, List.setIfInBounds_toArray, List.set_cons_zero, List.set_cons_succ]
  refine Gz.take (i := 48) (oi := { dst := some 100, op := Op.binOp BinOp.eql 3 (Operand.tmp 99) (Operand.const (Value.int IntKind.i64 0)) 3, type := 4, pos := _, after := _, guard := some (45, true) }) (v := ?_) rfl (by kernel_rfl) (by kernel_rfl) (by kernel_rfl) (by kernel_rfl) (fun _ _ _ h => h) (Or.inl ⟨by rfl, ?hy48⟩) (Kept.refl _ _) ?_
  case hy48 => (intro W hSw; (try dsimp only at hSw); go_simp; try with_reducible rfl)
  try simp only [Act.put, List.setIfInBounds_toArray, List.set_cons_zero, List.set_cons_succ]
  refine Gz.take (i := 49) (oi := { dst := some 101, op := Op.pick (Operand.tmp 97) (Operand.tmp 100) (Operand.const (Value.bool false)), type := 4, pos := _, after := _, guard := none }) (v := ?_) rfl (by kernel_rfl) (by kernel_rfl) (by kernel_rfl) (by kernel_rfl) (fun _ _ _ h => h) (Or.inl ⟨by rfl, ?hy49⟩) (Kept.refl _ _) ?_
  case hy49 => (intro W hSw; (try dsimp only at hSw); go_simp; try with_reducible rfl)
  try simp only [Act.put, List.setIfInBounds_toArray, List.set_cons_zero, List.set_cons_succ]
  refine Gz.take (i := 50) (oi := { dst := some 102, op := Op.move (Operand.tmp 101), type := 4, pos := _, after := _, guard := none }) (v := ?_) rfl (by kernel_rfl) (by kernel_rfl) (by kernel_rfl) (by kernel_rfl) (fun _ _ _ h => h) (Or.inl ⟨by rfl, ?hy50⟩) (Kept.refl _ _) ?_
  case hy50 => (intro W hSw; (try dsimp only at hSw); go_simp; try with_reducible rfl)
  try simp only [Act.put, List.setIfInBounds_toArray, List.set_cons_zero, List.set_cons_succ]
  refine Gz.take (i := 51) (oi := { dst := some 103, op := Op.move (Operand.tmp 1), type := 22, pos := _, after := _, guard := some (50, true) }) (v := ?_) rfl (by kernel_rfl) (by kernel_rfl) (by kernel_rfl) (by kernel_rfl) (fun _ _ _ h => h) (Or.inl ⟨by rfl, ?hy51⟩) (Kept.refl _ _) ?_
  case hy51 => (intro W hSw; (try dsimp only at hSw); go_simp; try with_reducible rfl)
  try simp only [Act.put, List.setIfInBounds_toArray, List.set_cons_zero, List.set_cons_succ]
  refine Gz.one (i := 52) (o := { dst := some 104, op := Op.call { callee := Callee.value (Operand.func 13), args := #[Operand.tmp 103], argTypes := #[22] }, type := 24, pos := _, after := _, guard := some (50, true) }) (by kernel_rfl) rfl (fun K hK => ?_)
  go_simp
  with_reducible refine Calls.mono (CT _ _ c1 (VA.out.all ((s11.trans k12).trans k13))) ?_
  rintro e w14 ⟨g14, c14, rfl, h14, k14⟩
  have hc14 : ∀ W, Kept (fun _ => True) w14 W → W.cell? ⟨g14, 2, none⟩ = some (.string ⟨#[99]⟩) := fun W q => (kept_cell q (by have := World.block_lt_of_cell? w14 _ h14; exact this) trivial).trans h14
  clear h14
  try go_wp2_with fail
  refine hK.out _ _ (fun _ => k14) ?_
  clear hK K
  try simp only [Act.put, List.setIfInBounds_toArray, List.set_cons_zero, List.set_cons_succ]
  refine Gz.to (S' := fun W => Kept (fun _ => True) w14 W) (fun W q => k14.trans q) _ _ _ _ ?_
  refine Gz.take (i := 53) (oi := { dst := some 105, op := Op.call { callee := Callee.builtin Builtin.len, args := #[Operand.tmp 104], argTypes := #[24] }, type := 3, pos := _, after := _, guard := some (50, true) }) (v := ?_) rfl (by kernel_rfl) (by kernel_rfl) (by kernel_rfl) (by kernel_rfl) (fun _ _ _ h => h) (Or.inl ⟨by rfl, ?hy53⟩) (Kept.refl _ _) ?_
  case hy53 => (intro W hSw; (try dsimp only at hSw); go_simp; try with_reducible rfl)
  try simp only [Act.put, List.setIfInBounds_toArray, List.set_cons_zero, List.set_cons_succ]
  refine Gz.take (i := 54) (oi := { dst := some 106, op := Op.binOp BinOp.eql 3 (Operand.tmp 105) (Operand.const (Value.int IntKind.i64 3)) 3, type := 4, pos := _, after := _, guard := some (50, true) }) (v := ?_) rfl (by kernel_rfl) (by kernel_rfl) (by kernel_rfl) (by kernel_rfl) (fun _ _ _ h => h) (Or.inl ⟨by rfl, ?hy54⟩) (Kept.refl _ _) ?_
  case hy54 => (intro W hSw; (try dsimp only at hSw); go_simp; try with_reducible rfl)
  try simp only [Act.put, List.setIfInBounds_toArray, List.set_cons_zero, List.set_cons_succ]
  refine Gz.take (i := 55) (oi := { dst := some 107, op := Op.pick (Operand.tmp 102) (Operand.tmp 106) (Operand.const (Value.bool false)), type := 4, pos := _, after := _, guard := none }) (v := ?_) rfl (by kernel_rfl) (by kernel_rfl) (by kernel_rfl) (by kernel_rfl) (fun _ _ _ h => h) (Or.inl ⟨by rfl, ?hy55⟩) (Kept.refl _ _) ?_
  case hy55 => (intro W hSw; (try dsimp only at hSw); go_simp; try with_reducible rfl)
  try simp only [Act.put, List.setIfInBounds_toArray, List.set_cons_zero, List.set_cons_succ]
  refine Gz.take (i := 56) (oi := { dst := some 108, op := Op.move (Operand.tmp 107), type := 4, pos := _, after := _, guard := none }) (v := ?_) rfl (by kernel_rfl) (by kernel_rfl) (by kernel_rfl) (by kernel_rfl) (fun _ _ _ h => h) (Or.inl ⟨by rfl, ?hy56⟩) (Kept.refl _ _) ?_
  case hy56 => (intro W hSw; (try dsimp only at hSw); go_simp; try with_reducible rfl)
  try simp only [Act.put, List.setIfInBounds_toArray, List.set_cons_zero, List.set_cons_succ]
  refine Gz.take (i := 57) (oi := { dst := some 109, op := Op.move (Operand.tmp 1), type := 22, pos := _, after := _, guard := some (56, true) }) (v := ?_) rfl (by kernel_rfl) (by kernel_rfl) (by kernel_rfl) (by kernel_rfl) (fun _ _ _ h => h) (Or.inl ⟨by rfl, ?hy57⟩) (Kept.refl _ _) ?_
  case hy57 => (intro W hSw; (try dsimp only at hSw); go_simp; try with_reducible rfl)
  try simp only [Act.put, List.setIfInBounds_toArray, List.set_cons_zero, List.set_cons_succ]
  refine Gz.one (i := 58) (o := { dst := some 110, op := Op.call { callee := Callee.value (Operand.func 13), args := #[Operand.tmp 109], argTypes := #[22] }, type := 24, pos := _, after := _, guard := some (56, true) }) (by kernel_rfl) rfl (fun K hK => ?_)
  go_simp
  with_reducible refine Calls.mono (CT _ _ c1 (VA.out.all (((s11.trans k12).trans k13).trans k14))) ?_
  rintro e w15 ⟨g15, c15, rfl, h15, k15⟩
  have hc15 : ∀ W, Kept (fun _ => True) w15 W → W.cell? ⟨g15, 2, none⟩ = some (.string ⟨#[99]⟩) := fun W q => (kept_cell q (by have := World.block_lt_of_cell? w15 _ h15; exact this) trivial).trans h15
  clear h15
  try go_wp2_with fail
  refine hK.out _ _ (fun _ => k15) ?_
  clear hK K
  try simp only [Act.put, List.setIfInBounds_toArray, List.set_cons_zero, List.set_cons_succ]
  refine Gz.to (S' := fun W => Kept (fun _ => True) w15 W) (fun W q => k15.trans q) _ _ _ _ ?_
  refine Gz.take (i := 59) (oi := { dst := some 111, op := Op.indexAddr 24 (Operand.tmp 110) (Operand.const (Value.int IntKind.i64 2)), type := 0, pos := _, after := _, guard := some (56, true) }) (v := ?_) rfl (by kernel_rfl) (by kernel_rfl) (by kernel_rfl) (by kernel_rfl) (fun _ _ _ h => h) (Or.inl ⟨by rfl, ?hy59⟩) (Kept.refl _ _) ?_
  case hy59 => (intro W hSw; (try dsimp only at hSw); go_simp; try with_reducible rfl)
  try simp only [Act.put, List.setIfInBounds_toArray, List.set_cons_zero, List.set_cons_succ]
  refine Gz.take (i := 60) (oi := { dst := some 112, op := Op.load 9 (Operand.tmp 111), type := 9, pos := _, after := _, guard := some (56, true) }) (v := ?_) rfl (by kernel_rfl) (by kernel_rfl) (by kernel_rfl) (by kernel_rfl) (fun _ _ _ h => h) (Or.inl ⟨by rfl, ?hy60⟩) (Kept.refl _ _) ?_
  case hy60 => (intro W hSw; (try dsimp only at hSw); go_simp; try with_reducible rfl)
  try simp only [Act.put, List.setIfInBounds_toArray, List.set_cons_zero, List.set_cons_succ]
  refine Gz.take (i := 61) (oi := { dst := some 113, op := Op.binOp BinOp.eql 9 (Operand.tmp 112) (Operand.const (Value.string { data := #[99] })) 9, type := 4, pos := _, after := _, guard := some (56, true) }) (v := ?_) rfl (by kernel_rfl) (by kernel_rfl) (by kernel_rfl) (by kernel_rfl) (fun _ _ _ h => h) (Or.inl ⟨by rfl, ?hy61⟩) (Kept.refl _ _) ?_
  case hy61 => (intro W hSw; (try dsimp only at hSw); go_simp; try with_reducible rfl)
  try simp only [Act.put, List.setIfInBounds_toArray, List.set_cons_zero, List.set_cons_succ]
  refine Gz.take (i := 62) (oi := { dst := some 114, op := Op.pick (Operand.tmp 108) (Operand.tmp 113) (Operand.const (Value.bool false)), type := 4, pos := _, after := _, guard := none }) (v := ?_) rfl (by kernel_rfl) (by kernel_rfl) (by kernel_rfl) (by kernel_rfl) (fun _ _ _ h => h) (Or.inl ⟨by rfl, ?hy62⟩) (Kept.refl _ _) ?_
  case hy62 => (intro W hSw; (try dsimp only at hSw); go_simp; try with_reducible rfl)
  try simp only [Act.put, List.setIfInBounds_toArray, List.set_cons_zero, List.set_cons_succ]
  refine Gz.take (i := 63) (oi := { dst := some 115, op := Op.move (Operand.tmp 114), type := 4, pos := _, after := _, guard := none }) (v := ?_) rfl (by kernel_rfl) (by kernel_rfl) (by kernel_rfl) (by kernel_rfl) (fun _ _ _ h => h) (Or.inl ⟨by rfl, ?hy63⟩) (Kept.refl _ _) ?_
  case hy63 => (intro W hSw; (try dsimp only at hSw); go_simp; try with_reducible rfl)
  try simp only [Act.put, List.setIfInBounds_toArray, List.set_cons_zero, List.set_cons_succ]
  refine Gz.one (i := 64) (o := { dst := some 116, op := Op.call { callee := Callee.value (Operand.func 14), args := #[], argTypes := #[] }, type := 4, pos := _, after := _, guard := some (63, true) }) (by kernel_rfl) rfl (fun K hK => ?_)
  go_simp
  with_reducible refine Calls.mono (known_any _) ?_
  rintro e w16 ⟨rfl, k16⟩
  try go_wp2_with fail
  refine hK.out _ _ (fun _ => k16) ?_
  clear hK K
  try simp only [Act.put, List.setIfInBounds_toArray, List.set_cons_zero, List.set_cons_succ]
  refine Gz.to (S' := fun W => Kept (fun _ => True) w16 W) (fun W q => k16.trans q) _ _ _ _ ?_
  refine Gz.take (i := 65) (oi := { dst := some 117, op := Op.pick (Operand.tmp 115) (Operand.tmp 116) (Operand.const (Value.bool false)), type := 4, pos := _, after := _, guard := none }) (v := ?_) rfl (by kernel_rfl) (by kernel_rfl) (by kernel_rfl) (by kernel_rfl) (fun _ _ _ h => h) (Or.inl ⟨by rfl, ?hy65⟩) (Kept.refl _ _) ?_
  case hy65 => (intro W hSw; (try dsimp only at hSw); go_simp; try with_reducible rfl)
  try simp only [Act.put, List.setIfInBounds_toArray, List.set_cons_zero, List.set_cons_succ]
  refine Gz.take (i := 66) (oi := { dst := some 0, op := Op.assign (Operand.tmp 117), type := 4, pos := _, after := _, guard := none }) (v := ?_) rfl (by kernel_rfl) (by kernel_rfl) (by kernel_rfl) (by kernel_rfl) (fun _ _ _ h => h) (Or.inl ⟨by rfl, ?hy66⟩) (Kept.refl _ _) ?_
  case hy66 => (intro W hSw; (try dsimp only at hSw); go_simp; try with_reducible rfl)
  try simp only [Act.put, List.setIfInBounds_toArray, List.set_cons_zero]
  refine Gz.done (by kernel_rfl) ?_ _
  go_wp2_with fail
  go_ret
  exact ⟨rfl, KX.out.trans (((((s11.trans k12).trans k13).trans k14).trans k15).trans k16)⟩

end Go.Proofs.Ytciecjnmiacmeaa
