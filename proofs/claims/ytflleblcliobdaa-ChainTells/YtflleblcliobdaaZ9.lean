/-
  Prefix and Texts: the program's; known.
-/
import Derived.Test.YtflleblcliobdaaZ3
import Derived.Test.YtflleblcliobdaaZ7
import Derived.Test.YtflleblcliobdaaZ8
namespace Go.Proofs.Ytflleblcliobdaa
open Go.RowKit

/-- A truth that tells whether A. -/
def ETells (A : Prop) (w : World) (e : Ending) (w' : World) : Prop := ∃ b : Bool, e = .returned (.bool b) ∧ (b = true ↔ A) ∧ Kept (fun _ => True) w w'
/-- Whether one begins the other. -/
def pre (xs ys : List Li) : Prop := xs.take (min xs.length ys.length) = ys.take (min xs.length ys.length)

set_option maxRecDepth 100000 in
set_option maxHeartbeats 1000000 in
theorem prefix_any {w : World} {a1 a2 : Option Addr} {c1 c2 : Nat} {xs ys : List Li} (h1 : Lv w a1 xs) (h2 : Lv w a2 ys) (n1 : xs.length ≤ 100000) (n2 : ys.length ≤ 100000) (l1 : xs.length ≤ c1) (l2 : ys.length ≤ c2) :
    Calls Try.prog 21 #[.slice a1 xs.length c1, .slice a2 ys.length c2] w fun e w' => ETells (pre xs ys) w e w' := by
  obtain ⟨n, hn⟩ : ∃ n, min xs.length ys.length = n := ⟨_, rfl⟩
  have e1 : (xs.take n).length = n := by rw [List.length_take]; omega
  have e2 : (ys.take n).length = n := by rw [List.length_take]; omega
  have ce : ∀ W, Kept (fun _ => True) w W → Calls Try.prog 43 #[.slice a1 n c1, .slice a2 n c2] W fun e w' => ESameL (xs.take n = ys.take n) W e w' := fun W k => by
    have := equalL_any (c1 := c1) (c2 := c2) ((h1.take n).all k) ((h2.take n).all k) (by rw [e1, e2]) (by omega)
    rwa [e1] at this
  have hp : pre xs ys = (xs.take n = ys.take n) := by unfold pre; rw [hn]
  have s1 := cut_links a1 xs.length c1 n (by omega) l1
  have s2 := cut_links a2 ys.length c2 n (by omega) l2
  have hm : min (xs.length : Int) (ys.length : Int) = (n : Int) := by omega
  have hmf : (if (xs.length : Int) < (ys.length : Int) then (xs.length : Int) else (ys.length : Int)) = (n : Int) := by split <;> omega
  have g1 : (n : Int) ≤ (xs.length : Int) := by omega
  have g2 : (n : Int) ≤ (ys.length : Int) := by omega
  rw [hp]
  clear hp hn e1 e2 h1 h2
  go_enter Try.func21, Try.ntmps21
  go_wp2
  have kd : Kept (fun _ => True) w w.drew := (Kept.refl _ _).drew
  go_region_held3 (fun W => Kept (fun _ => True) w W) (assumption) (first
    | (go_at_call 43; (with_reducible refine Calls.mono (ce _ (by assumption)) ?_); rintro e w2 ⟨q, rfl, hq, m, rfl⟩; have kn : Kept (fun _ => True) w (w.drewN (1 + m)) := (Kept.refl _ _).drewN _))
  go_wp2
  go_ret
  exact ⟨q, rfl, hq, kn⟩

set_option maxRecDepth 100000 in
set_option maxHeartbeats 2000000 in
theorem textsL_any {w : World} {ao : Option Addr} {cap : Nat} {xs : List Li} (h : Lv w ao xs) (hn : xs.length ≤ 100000) :
    Calls Try.prog 13 #[.slice ao xs.length cap] w fun e w' => ∃ a' c', e = .returned (.slice a' (txs xs).length c') ∧ Txs w' w.heap.size (.slice a' (txs xs).length c') (txs xs) ∧ Kept (fun _ => True) w w' := by
  obtain ⟨i, hi, hz0, hz1, hz2⟩ := info_parts Try.infoText
  have hb1 : i.bytes * xs.length ≤ 281474976710656 := by rw [hz2]; omega
  have hb2 : xs.length ≤ maxLen := by unfold maxLen; omega
  have HV : Hid (Lv w ao xs) := h
  clear h
  go_enter Try.func13, Try.ntmps13
  go_wp2_with (at_make; refine wpList_make_full _ rfl _ _ _ rfl w.heap.size 9 i (.string ⟨#[]⟩) 1 Try.underlying24 hi hz0 hz1 _ _ _ _ xs.length rfl rfl rfl rfl hb1 hb2 (Nat.le_refl _) ?_; intro w1 hown hg)
  have k1 : Kept (fun _ => True) w w1 := (Kept.refl _ _).grown hg (fun k _ h => by cases h)
  have lr : (madeCells (Value.string ⟨#[]⟩).cells (xs.length * 1)).toList.length = xs.length := by simp [size_madeCells]
  generalize (madeCells (Value.string ⟨#[]⟩).cells (xs.length * 1)).toList = rest at *
  have HO : Hid (w1.ownsRow w.heap.size 9 1 (.slice (some ⟨w.heap.size, 0, none⟩) xs.length xs.length) xs.length rest) := hown
  have K1 : Hid (Kept (fun _ => True) w w1) := k1
  have LR : Hid (rest.length = xs.length) := lr
  clear hown hg k1 lr hb1 hb2 hi hz0 hz1 hz2
  obtain ⟨G, hG⟩ : ∃ G, G = w.heap.size := ⟨_, rfl⟩
  rw [← hG] at HO ⊢
  have HG : Hid (G = w.heap.size) := hG
  clear hG
  go_loopw [11] (fun t wr => ∃ (k : Nat) (rs : List Value), k ≤ xs.length ∧ t = .int .i64 k ∧ rs.length = xs.length - k ∧ wr.ownsRow G 9 1 (.slice (some ⟨G, 0, none⟩) xs.length xs.length) xs.length (srow ((txs xs).take k) ++ rs) ∧ Kept (fun _ => True) w wr) (fun t _ => xs.length - (intOf t).toNat)
  case atStart => exact ⟨0, rest, Nat.zero_le _, rfl, by simpa using LR.out, HO.out, K1.out⟩
  case round =>
    obtain ⟨k, rs, hk, rfl, lrs, ho, kr⟩ := hrel
    have lm : (srow ((txs xs).take k)).length = k := by rw [srow_length, List.length_take, txs_length]; omega
    by_cases hlt : k < xs.length
    · obtain ⟨b, off, rfl, hb, hc⟩ := HV.out.row (by omega)
      have hr := range_kept (hc k hlt) kr hb trivial
      have i0 : (0 : Int) ≤ (k : Int) := by omega
      have i1 : (k : Int) < (xs.length : Int) := by omega
      have HT : Hid (srow ((txs xs).take (k + 1)) = srow ((txs xs).take k) ++ [.string ⟨(xs[k].t).toArray⟩]) := by
        show _ = _
        rw [List.take_succ_eq_append_getElem (by rw [txs_length]; exact hlt), srow_append, txs_get xs k hlt]
        rfl
      have HR : Hid (wr.rangeAt b (off + k * 33) (lcell xs[k])) := hr
      have HW : Hid (wr.ownsRow G 9 1 (.slice (some ⟨G, 0, none⟩) xs.length xs.length) xs.length (srow ((txs xs).take k) ++ rs)) := ho
      have LRS : Hid (rs.length = xs.length - k) := lrs
      have LM : Hid ((srow ((txs xs).take k)).length = k) := lm
      have hgl : G < wr.heap.size := (World.ownsRow.lt ho _ rfl).2
      clear hc hr ho lrs lm
      generalize xs[k] = x at *
      have cw : ∀ W : World, Kept (· ≠ wr.heap.size) wr W → (∃ u, W.cell? ⟨G, k, none⟩ = some u) ∧ W.frozen? ⟨G, k, none⟩ = false := fun W kW => by
        have h1 := ownL_kept HW.out kW (fun i hi => by (have : G = i := by simpa [Value.ownBlock] using hi); omega)
        have hl : (srow ((txs xs).take k) ++ rs).length = xs.length := by rw [List.length_append, LM.out, LRS.out]; omega
        exact ⟨⟨_, by rw [h1.cellAt k (by omega), List.getElem?_eq_getElem (by omega)]⟩, h1.frozenAt _⟩
      go_wp2_with (first
        | ((with_reducible apply w_loadL (d := some 15) linkP (b := b) (o := off + k * 33) (x := x)); (case hx => rfl); (case hr => exact HR.out))
        | ((with_reducible refine w_allocL (d := some 5) linkP ?_); intro w3 a5 k3 s3)
        | ((with_reducible apply w_storeL (x := .tmp 5) linkP (b := wr.heap.size) (z := x) (old := zeroLi)); (case hx => rfl); (case hy => rfl); (case ha => exact a5); intro w4 a5' k4 s4; have ct := a5'.text; have kk : Kept (· ≠ wr.heap.size) wr w4 := (k3.mono (fun _ _ _ => trivial)).trans k4; obtain ⟨⟨u0, cu⟩, cf⟩ := cw _ kk))
      go_roundw
      case rel =>
        have how := ownL_kept HW.out kk (fun i hi => by (have : G = i := by simpa [Value.ownBlock] using hi); omega)
        have h5 := (how.stored k (.string ⟨x.t.toArray⟩)).1
        refine ⟨k + 1, rs.drop 1, by omega, by go_num, by rw [List.length_drop, LRS.out]; omega, ?_, ?_⟩
        · have e1 : (srow ((txs xs).take k) ++ rs).set k (.string ⟨x.t.toArray⟩) = srow ((txs xs).take (k + 1)) ++ rs.drop 1 := by
            rw [HT.out, List.set_append_right _ _ (by rw [LM.out]; exact Nat.le_refl _), LM.out, Nat.sub_self]
            rcases hrs : rs with _ | ⟨r0, rs'⟩
            · have := LRS.out
              rw [hrs] at this
              simp at this
              omega
            · simp
          rw [e1] at h5
          exact h5
        · have hG2 := HG.out
          exact (kr.then kk (fun i hi _ => by have := kr.size; omega)).then ((Kept.refl (· ≠ G) _).setCell (by simp) _) (fun i hi _ => by omega)
      case measure => simp [intOf]; omega
    · have i1 : ¬ (k : Int) < (xs.length : Int) := by omega
      have hke : k = xs.length := by omega
      have e0 : rs = [] := List.eq_nil_of_length_eq_zero (by omega)
      rw [e0, List.append_nil, hke, List.take_of_length_le (by rw [txs_length]; exact Nat.le_refl _)] at ho
      have HX : Hid (wr.ownsRow G 9 1 (.slice (some ⟨G, 0, none⟩) xs.length xs.length) xs.length (srow (txs xs))) := ho
      clear ho e0 lrs lm
      go_wp2
      go_ret
      refine ⟨some ⟨G, 0, none⟩, xs.length, by rw [txs_length]; rfl, ?_, kr⟩
      rw [← HG.out]
      unfold Txs
      rw [txs_length]
      exact HX.out

end Go.Proofs.Ytflleblcliobdaa

namespace Go.Proofs.Ytflleblcliobdaa
open Go.RowKit

/-- Texts that lie in a block that was just made. -/
theorem tv_new {w : World} {g : Nat} {ss : List (List UInt8)} {fr : Nat × Nat} (h : w.heap[g]? = some (.cells (srow ss).toArray 9 fr)) : Tv w (some ⟨g, 0, none⟩) ss := fun _ =>
  ⟨g, 0, rfl, lt_of_block h, fun i hi => by
    rw [cell_of_row w g _ _ _ _ h, Nat.zero_add]
    have := srow_get ss i hi
    simpa using this⟩
theorem pre_take (xs : List Li) (k : Nat) : pre (xs.take k) xs := by
  unfold pre
  rw [List.take_take]
  congr 1
  rw [List.length_take]
  omega
theorem pre_take' (xs : List Li) (k : Nat) : pre xs (xs.take k) := by
  unfold pre
  rw [List.take_take]
  congr 1
  rw [List.length_take]
  omega

def tA : List UInt8 := [97]
def tB : List UInt8 := [98]
theorem not_pre : ¬ pre (mkC [tA]) (mkC [tB]) := by
  intro h
  unfold pre at h
  have h2 := congrArg (fun l => (l.map Li.t)) h
  simp [mkC, mkF, tA, tB] at h2

set_option maxRecDepth 100000 in
set_option maxHeartbeats 2000000 in
theorem known_any (w : World) : Calls Try.prog 14 #[] w fun e w' => e = .returned (.bool true) ∧ Kept (fun _ => True) w w' := by
  have lAB : (mkC [tA, tB]).length = 2 := mkC_length _
  have lA : (mkC [tA]).length = 1 := mkC_length _
  have lB : (mkC [tB]).length = 1 := mkC_length _
  have sAB : ∀ x ∈ mkC [tA, tB], x.t.length ≤ 100000000000000 := fun x hx => by
    have : x.t ∈ txs (mkC [tA, tB]) := List.mem_map.2 ⟨x, hx, rfl⟩
    rw [txs_mkC] at this
    simp [tA, tB] at this
    rcases this with h | h <;> rw [h] <;> decide
  have CM : ∀ (W : World) (g : Nat), W.heap[g]? = some (.cells #[.string ⟨#[97]⟩, .string ⟨#[98]⟩] 9 (0, 0)) → Calls Try.prog 8 #[.slice (some ⟨g, 0, none⟩) 2 2] W fun e w' => ∃ a' c', e = .returned (.slice a' 2 c') ∧ Lo 27 w' W.heap.size (.slice a' 2 c') (mkC [tA, tB]) ∧ Kept (fun _ => True) W w' := fun W g hg => by
    have := make_any (cap := 2) (tv_new (ss := [tA, tB]) hg) (by decide) (by decide)
    rwa [lAB] at this
  have CA : ∀ (W : World) (g : Nat), W.heap[g]? = some (.cells #[.string ⟨#[97]⟩] 9 (0, 0)) → Calls Try.prog 8 #[.slice (some ⟨g, 0, none⟩) 1 1] W fun e w' => ∃ a' c', e = .returned (.slice a' 1 c') ∧ Lo 27 w' W.heap.size (.slice a' 1 c') (mkC [tA]) ∧ Kept (fun _ => True) W w' := fun W g hg => by
    have := make_any (cap := 1) (tv_new (ss := [tA]) hg) (by decide) (by decide)
    rwa [lA] at this
  have CB : ∀ (W : World) (g : Nat), W.heap[g]? = some (.cells #[.string ⟨#[98]⟩] 9 (0, 0)) → Calls Try.prog 8 #[.slice (some ⟨g, 0, none⟩) 1 1] W fun e w' => ∃ a' c', e = .returned (.slice a' 1 c') ∧ Lo 27 w' W.heap.size (.slice a' 1 c') (mkC [tB]) ∧ Kept (fun _ => True) W w' := fun W g hg => by
    have := make_any (cap := 1) (tv_new (ss := [tB]) hg) (by decide) (by decide)
    rwa [lB] at this
  have CC : ∀ (W : World) (a : Option Addr) (c : Nat), Lv W a (mkC [tA, tB]) → Calls Try.prog 11 #[.slice a 2 c] W fun e w' => e = .returned (.int .i64 2) ∧ Kept (fun _ => True) W w' := fun W a c h => by
    have := check_any (cap := c) h (by rw [lAB]; decide) sAB
    rw [lAB] at this
    refine this.mono ?_
    rintro e w' ⟨n, rfl, hn, k⟩
    have := hn.one (IsChk.mk' [tA, tB])
    subst this
    exact ⟨rfl, k⟩
  have CP : ∀ (W : World) (a : Option Addr) (c : Nat), Lv W a (mkC [tA, tB]) → 2 ≤ c → Calls Try.prog 21 #[.slice a 1 c, .slice a 2 c] W fun e w' => e = .returned (.bool true) ∧ Kept (fun _ => True) W w' := fun W a c h hc => by
    have l1 : ((mkC [tA, tB]).take 1).length = 1 := by rw [List.length_take, lAB]; rfl
    have := prefix_any (c1 := c) (c2 := c) (h.take 1) h (by rw [l1]; decide) (by rw [lAB]; decide) (by rw [l1]; omega) (by rw [lAB]; exact hc)
    rw [lAB, l1] at this
    refine this.mono ?_
    rintro e w' ⟨b, rfl, hb, k⟩
    rw [hb.2 (pre_take _ 1)]
    exact ⟨rfl, k⟩
  have CN : ∀ (W : World) (a b : Option Addr) (c d : Nat), Lv W a (mkC [tA]) → Lv W b (mkC [tB]) → 1 ≤ c → 1 ≤ d → Calls Try.prog 21 #[.slice a 1 c, .slice b 1 d] W fun e w' => e = .returned (.bool false) ∧ Kept (fun _ => True) W w' := fun W a b c d h h' hc hd => by
    have := prefix_any (c1 := c) (c2 := d) h h' (by rw [lA]; decide) (by rw [lB]; decide) (by rw [lA]; exact hc) (by rw [lB]; exact hd)
    rw [lA, lB] at this
    refine this.mono ?_
    rintro e w' ⟨q, rfl, hb, k⟩
    have hq : q = false := by
      cases q with
      | false => rfl
      | true => exact absurd (hb.1 rfl) not_pre
    rw [hq]
    exact ⟨rfl, k⟩
  have SH2 : ∀ {W : World} {b : Nat} {a : Option Addr} {c : Nat}, Lo 27 W b (.slice a 2 c) (mkC [tA, tB]) → 2 ≤ c := fun h => by
    obtain ⟨ao, cap, e, hc, _, _⟩ := h.shape
    injection e with _ e2 e3
    omega
  have SH1 : ∀ {W : World} {b : Nat} {a : Option Addr} {c : Nat} {t : List UInt8}, Lo 27 W b (.slice a 1 c) (mkC [t]) → 1 ≤ c := fun h => by
    obtain ⟨ao, cap, e, hc, _, _⟩ := h.shape
    injection e with _ e2 e3
    omega
  clear sAB lAB lA lB
  generalize mkC [tA, tB] = AB at *
  go_enter Try.func14, Try.ntmps14
  go_wp2_with (first
    | (go_at_call 8; (with_reducible refine Calls.mono (CM _ w.heap.size (heap_alloc_new w _)) ?_); rintro e w1 ⟨a1, c1, rfl, ho1, k1⟩; have hc1 := SH2 ho1; have hcut := cut_links a1 2 c1 1 (by decide) hc1; have k01 : Hid (Kept (fun _ => True) w w1) := ((Kept.refl _ _).alloc _).trans k1; have V1 : Hid (Lv w1 a1 AB) := ho1.view)
    | (go_at_call 11; (with_reducible refine Calls.mono (CC _ a1 c1 V1.out) ?_); rintro e w2 ⟨rfl, k2⟩; have V2 : Hid (Lv w2 a1 AB) := V1.out.all k2)
    | (go_at_call 21; (with_reducible refine Calls.mono (CP _ a1 c1 V2.out hc1) ?_); rintro e w3 ⟨rfl, k3⟩)
    | (go_at_call 8; (with_reducible refine Calls.mono (CA _ w3.heap.size (heap_alloc_new w3 _)) ?_); rintro e w4 ⟨a4, c4, rfl, ho4, k4⟩; have hc4 := SH1 ho4)
    | (go_at_call 8; (with_reducible refine Calls.mono (CB _ w4.heap.size (heap_alloc_new w4 _)) ?_); rintro e w5 ⟨a5, c5, rfl, ho5, k5⟩; have hc5 := SH1 ho5; have V4 : Hid (Lv w5 a4 (mkC [tA])) := (ho4.view.all (((Kept.refl _ _).alloc _).trans k5)))
    | (go_at_call 21; (with_reducible refine Calls.mono (CN _ a4 a5 c4 c5 V4.out ho5.view hc4 hc5) ?_); rintro e w6 ⟨rfl, k6⟩))
  go_ret
  exact ⟨rfl, (((((k01.out.trans k2).trans k3).alloc _).trans k4).trans (((Kept.refl _ _).alloc _).trans k5)).trans k6⟩

end Go.Proofs.Ytflleblcliobdaa
