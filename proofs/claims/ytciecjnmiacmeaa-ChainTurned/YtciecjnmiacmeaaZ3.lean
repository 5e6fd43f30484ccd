/-
  Make: the program's.
-/
import Derived.Test.YtciecjnmiacmeaaZ2
import Derived.Test.YtciecjnmiacmeaaZFew
namespace Go.Proofs.Ytciecjnmiacmeaa
open Go.RowKit

set_option maxRecDepth 100000 in
set_option maxHeartbeats 2000000 in
theorem make_any {w : World} {ao : Option Addr} {cap : Nat} {ts : List (List UInt8)} (h : Tv w ao ts) (hn : ts.length ≤ 100000) (hs : ∀ t ∈ ts, t.length ≤ 100000000000000) :
    Calls Try.prog 8 #[.slice ao ts.length cap] w fun e w' => ∃ a' c', e = .returned (.slice a' (mkC ts).length c') ∧ Lo 27 w' w.heap.size (.slice a' (mkC ts).length c') (mkC ts) ∧ Kept (fun _ => True) w w' := by
  obtain ⟨i, hi, hz0, hz1, hz2⟩ := info_parts linkP.info
  have hb1 : i.bytes * ts.length ≤ 281474976710656 := by rw [hz2]; omega
  have hb2 : ts.length ≤ maxLen := by unfold maxLen; omega
  have HV : Hid (Tv w ao ts) := h
  have HS : Hid (∀ t ∈ ts, t.length ≤ 100000000000000) := hs
  clear h hs
  go_enter Try.func8, Try.ntmps8
  go_wp2_with (first
    | (at_make; refine wpList_make_full _ rfl _ _ _ rfl w.heap.size 27 i (.agg (lcell zeroLi).toArray) 33 linkP.slice hi hz0 hz1 _ _ _ _ ts.length rfl rfl rfl rfl hb1 hb2 (Nat.le_refl _) ?_; intro w1 hown hg)
    | ((with_reducible refine w_alloc (d := some 4) arr32 ?_); intro w2 a4 k2 s2))
  have q2 := s2.out
  have z1 := hg.size
  have k1 : Kept (fun _ => True) w w1 := (Kept.refl _ _).grown hg (fun k _ h => by cases h)
  have ho2 := ownL_kept hown k2 (fun _ _ => trivial)
  have hne : w.heap.size < w1.heap.size := (World.ownsRow.lt hown _ rfl).2
  have A4 : Ar w2 w1.heap.size 25 (cells zero32) := a4
  have lr : (madeCells (Value.agg (lcell zeroLi).toArray).cells (ts.length * 33)).toList.length = ts.length * 33 := by simp [size_madeCells]
  generalize (madeCells (Value.agg (lcell zeroLi).toArray).cells (ts.length * 33)).toList = rest at *
  have K02 : Hid (Kept (fun _ => True) w w2) := k1.trans k2
  have HO : Hid (w2.ownsRow w.heap.size 27 33 (.slice (some ⟨w.heap.size, 0, none⟩) ts.length ts.length) ts.length rest) := ho2
  have HA : Hid (Ar w2 w1.heap.size 25 (cells zero32)) := A4
  have HR : Hid (rest.length = ts.length * 33) := lr
  clear hown hg a4 k2 s2 k1 ho2 A4 lr hb1 hb2 hi hz0 hz1 hz2
  obtain ⟨B, hB⟩ : ∃ B, B = w1.heap.size := ⟨_, rfl⟩
  rw [← hB] at hne HA ⊢
  have d2 : B < w2.heap.size := HA.out.lt
  clear q2 z1 hB
  obtain ⟨G, hG⟩ : ∃ G, G = w.heap.size := ⟨_, rfl⟩
  rw [← hG] at hne HO ⊢
  have HG : Hid (G = w.heap.size) := hG
  clear hG
  go_loopw [12] (fun t wr => ∃ (k : Nat) (rs : List Value), k ≤ ts.length ∧ t = .int .i64 k ∧ Ar wr B 25 (cells (hAt zero32 ts k)) ∧ rs.length = (ts.length - k) * 33 ∧ wr.ownsRow G 27 33 (.slice (some ⟨G, 0, none⟩) ts.length ts.length) ts.length (lrow (mkC (ts.take k)) ++ rs) ∧ Kept (fun _ => True) w wr) (fun t _ => ts.length - (intOf t).toNat)
  case atStart => exact ⟨0, rest, Nat.zero_le _, rfl, HA.out, by simpa using HR.out, HO.out, K02.out⟩
  case round =>
    obtain ⟨k, rs, hk, rfl, ar, lrs, ho, kr⟩ := hrel
    by_cases hlt : k < ts.length
    · obtain ⟨b, off, rfl, hb, hc⟩ := HV.out (by omega)
      have c0 := (kept_cell kr hb trivial).trans (hc k hlt)
      have i0 : (0 : Int) ≤ (k : Int) := by omega
      have i1 : (k : Int) < (ts.length : Int) := by omega
      have HM : Hid (mkC (ts.take (k + 1)) = mkC (ts.take k) ++ [⟨ts[k], nxt (hAt zero32 ts k) ts[k], nxt_len _ _⟩]) := mkC_take_succ ts k hlt
      have HN : Hid (hAt zero32 ts (k + 1) = nxt (hAt zero32 ts k) ts[k]) := hAt_succ zero32 ts k hlt
      have lt : (ts[k]).length ≤ 100000000000000 := HS.out _ (List.getElem_mem _)
      have lh : (hAt zero32 ts k).length = 32 := hAt_len zero32_len ts k
      have lm : (lrow (mkC (ts.take k))).length = k * 33 := by rw [lrow_length, mkC_length, List.length_take, Nat.min_eq_left hk]
      have AR : Hid (Ar wr B 25 (cells (hAt zero32 ts k))) := ar
      have HW : Hid (wr.ownsRow G 27 33 (.slice (some ⟨G, 0, none⟩) ts.length ts.length) ts.length (lrow (mkC (ts.take k)) ++ rs)) := ho
      have LM : Hid ((lrow (mkC (ts.take k))).length = k * 33) := lm
      clear hc ar ho lm
      generalize hAt zero32 ts k = hd at *
      generalize ts[k] = tx at *
      have cn := fun (w0 : World) => next_any (w := w0) hd tx lh lt
      have ln := nxt_len hd tx
      generalize hx : (⟨tx, nxt hd tx, nxt_len hd tx⟩ : Li) = x at *
      have ex1 : x.t = tx := by rw [← hx]
      have ex2 : x.h = nxt hd tx := by rw [← hx]
      rw [← ex2] at HN cn ln
      rw [← ex1] at c0 cn
      have EX : Hid (x.t = tx) := ex1
      clear hx ex1 ex2
      have l32 : (cells hd).length = 32 := by rw [cells_length, lh]
      have ln2 : (cells x.h).length = 32 := by rw [cells_length, ln]
      have on2 := cells_one x.h
      have LRS : Hid (rs.length = (ts.length - k) * 33) := lrs
      have lsum : Hid ((lrow (mkC (ts.take k)) ++ rs).length = ts.length * 33) := HW.out.1
      clear lrs lh ln lt
      go_wp2_with (first
        | ((with_reducible apply w_loadH (d := some 17) (b := B) (o := 0) (cs := cells hd)); (case hx => rfl); (case hr => exact AR.out.range); (case hl => exact l32))
        | (go_at_call 27; (with_reducible refine Calls.mono (cn _) ?_); rintro e w3 ⟨rfl, k3⟩)
        | ((with_reducible apply w_store (x := .tmp 4) (b := B) (xs := cells x.h) (old := cells hd) arr32); (case hx => rfl); (case hy => rfl); (case ha => exact AR.out.kept k3 trivial); (case ho => exact l32); (case hl => exact ln2); (case h1 => exact on2); intro w4 a4 k4 s4)
        | ((with_reducible apply w_loadH (d := some 23) (b := B) (o := 0) (cs := cells x.h)); (case hx => rfl); (case hr => exact a4.range); (case hl => exact ln2))
        | ((with_reducible apply w_buildL (d := some 24) linkP x); (case hy => rfl); (case hz => rfl))
        | ((with_reducible apply w_storeM linkP (b := G) (o := k * 33) x); ((case hx => rfl); (case hy => rfl); (case ht => exact own_there (ownL_kept (ownL_kept HW.out k3 (fun _ _ => trivial)) k4 (fun i hi => by (have : G = i := by simpa [Value.ownBlock] using hi); omega)) _ _ (by rw [lsum.out]; exact mul33 _ _ hlt)))))
      go_roundw
      case rel =>
        have hG : ∀ i, (Value.slice (some ⟨G, 0, none⟩) ts.length ts.length).ownBlock = some i → i = G := fun i hi => by simpa [Value.ownBlock] using hi.symm
        have how := ownL_kept (ownL_kept HW.out k3 (fun _ _ => trivial)) k4 (fun i hi => by have := hG i hi; omega)
        obtain ⟨h5, k5, _⟩ := own_setCells (lcell x) (k * 33) _ _ how (by rw [lsum.out, lcell_length]; exact mul33 _ _ hlt)
        refine ⟨k + 1, rs.drop 33, by omega, by go_num, ?_, ?_, ?_, ?_⟩
        · rw [HN.out]
          exact a4.kept k5 (by omega)
        · rw [List.length_drop, LRS.out, show ts.length - k = ts.length - (k + 1) + 1 by omega, Nat.add_mul, Nat.one_mul, Nat.add_sub_cancel]
        · rw [HM.out, lrow_snoc]
          have e1 : (lrow (mkC (ts.take k)) ++ rs).take (k * 33) = lrow (mkC (ts.take k)) := by rw [← LM.out, List.take_left]
          have e2 : (lrow (mkC (ts.take k)) ++ rs).drop (k * 33 + (lcell x).length) = rs.drop 33 := by rw [← LM.out, lcell_length, List.drop_append, List.drop_of_length_le (by omega), List.nil_append, Nat.add_sub_cancel_left]
          rw [e1, e2] at h5
          exact h5
        · have hG2 := HG.out
          exact ((kr.trans k3).then k4 (fun i hi _ => by omega)).then k5 (fun i hi _ => by omega)
      case measure => simp [intOf]; omega
    · have i1 : ¬ (k : Int) < (ts.length : Int) := by omega
      have hke : k = ts.length := by omega
      have e0 : rs = [] := List.eq_nil_of_length_eq_zero (by rw [lrs, hke, Nat.sub_self, Nat.zero_mul])
      rw [e0, List.append_nil, hke, List.take_length] at ho
      have HW : Hid (Lo 27 wr G (.slice (some ⟨G, 0, none⟩) (mkC ts).length ts.length) (mkC ts)) := by
        show Lo _ _ _ _ _
        unfold Lo
        rw [mkC_length]
        exact ho
      clear ho e0 lrs ar
      go_wp2
      go_ret
      refine ⟨some ⟨G, 0, none⟩, ts.length, by rw [mkC_length]; rfl, ?_, kr⟩
      rw [← HG.out]
      exact HW.out

end Go.Proofs.Ytciecjnmiacmeaa
