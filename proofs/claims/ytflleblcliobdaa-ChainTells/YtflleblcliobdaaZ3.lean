/-
  Make: the program's.
-/
import Derived.Test.YtflleblcliobdaaZ2
import Derived.Test.YtflleblcliobdaaZFew
namespace Go.Proofs.Ytflleblcliobdaa
open Go.RowKit

set_option maxRecDepth 100000 in
set_option maxHeartbeats 2000000 in
theorem make_any {w : World} {ao : Option Addr} {cap : Nat} {ts : List (List UInt8)} (h : Tv w ao ts) (hn : ts.length ≤ 100000) (hs : ∀ t ∈ ts, t.length ≤ 100000000000000) :
    Calls Try.prog 8 #[.slice ao ts.length cap] w fun e w' => ∃ a' c', e = .returned (.slice a' (mkC ts).length c') ∧ Lo 27 w' w.heap.size (.slice a' (mkC ts).length c') (mkC ts) ∧ Kept (fun _ => True) w w' := by
  obtain ⟨i, hi, hz0, hz1, hz2⟩ := info_parts linkP.info
  have hb1 : i.bytes * ts.length ≤ 281474976710656 := by rw [hz2]; omega
  have hb2 : ts.length ≤ maxLen := by unfold maxLen; omega
  have HV : Hid (Tv w ao ts) := h
  have HS : Hid (∀ t ∈ ts, t.length ≤ 100000000000000) := hs
  clear h hs
  go_enter Try.func8, Try.ntmps8
  go_wp2_with (first
    | (at_make; refine wpList_make_full _ rfl _ _ _ rfl w.heap.size 27 i (.agg (lcell zeroLi).toArray) 33 linkP.slice hi hz0 hz1 _ _ _ _ ts.length rfl rfl rfl rfl hb1 hb2 (Nat.le_refl _) ?_; intro w1 hown hg)
    | ((with_reducible refine w_alloc (d := some 4) arr32 ?_); intro w2 a4 k2 s2))
  have q2 := s2.out
  have z1 := hg.size
  have k1 : Kept (fun _ => True) w w1 := (Kept.refl _ _).grown hg (fun k _ h => by cases h)
  have ho2 := ownL_kept hown k2 (fun _ _ => trivial)
  have hne : w.heap.size < w1.heap.size := (World.ownsRow.lt hown _ rfl).2
  have A4 : Ar w2 w1.heap.size 25 (cells zero32) := a4
  have lr : (madeCells (Value.agg (lcell zeroLi).toArray).cells (ts.length * 33)).toList.length = ts.length * 33 := by simp [size_madeCells]
  generalize (madeCells (Value.agg (lcell zeroLi).toArray).cells (ts.length * 33)).toList = rest at *
  have K02 : Hid (Kept (fun _ => True) w w2) := k1.trans k2
  have HO : Hid (w2.ownsRow w.heap.size 27 33 (.slice (some ⟨w.heap.size, 0, none⟩) ts.length ts.length) ts.length rest) := ho2
  have HA : Hid (Ar w2 w1.heap.size 25 (cells zero32)) := A4
  have HR : Hid (rest.length = ts.length * 33) := lr
  clear hown hg a4 k2 s2 k1 ho2 A4 lr hb1 hb2 hi hz0 hz1 hz2
  obtain ⟨B, hB⟩ : ∃ B, B = w1.heap.size := ⟨_, rfl⟩
  rw [← hB] at hne HA ⊢
  have d2 : B < w2.heap.size := HA.out.lt
  clear q2 z1 hB
  obtain ⟨G, hG⟩ : ∃ G, G = w.heap.size := ⟨_, rfl⟩
  rw [← hG] at hne HO ⊢
  have HG : Hid (G = w.heap.size) := hG
  clear hG
  go_loopw [12] (fun t wr => ∃ (k : Nat) (rs : List Value), k ≤ ts.length ∧ t = .int .i64 k ∧ Ar wr B 25 (cells (hAt zero32 ts k)) ∧ rs.length = (ts.length - k) * 33 ∧ wr.ownsRow G 27 33 (.slice (some ⟨G, 0, none⟩) ts.length ts.length) ts.length (lrow (mkC (ts.take k)) ++ rs) ∧ Kept (fun _ => True) w wr) (fun t _ => ts.length - (intOf t).toNat)
  case atStart => exact ⟨0, rest, Nat.zero_le _, rfl, HA.out, by simpa using HR.out, HO.out, K02.out⟩
  case round =>
    obtain ⟨k, rs, hk, rfl, ar, lrs, ho, kr⟩ := hrel
    by_cases hlt : k < ts.length
    · obtain ⟨b, off, rfl, hb, hc⟩ := HV.out (by omega)
      have c0 := (kept_cell kr hb trivial).trans (hc k hlt)
      have i0 : (0 : Int) ≤ (k : Int) := by omega
      have i1 : (k : Int) < (ts.length : Int) := by omega
      have HM : Hid (mkC (ts.take (k + 1)) = mkC (ts.take k) ++ [⟨ts[k], nxt (hAt zero32 ts k) ts[k], nxt_len _ _⟩]) := mkC_take_succ ts k hlt
      have HN : Hid (hAt zero32 ts (k + 1) = nxt (hAt zero32 ts k) ts[k]) := hAt_succ zero32 ts k hlt
      have lt : (ts[k]).length ≤ 100000000000000 := HS.out _ (List.getElem_mem _)
      have lh : (hAt zero32 ts k).length = 32 := hAt_len zero32_len ts k
      have lm : (lrow (mkC (ts.take k))).length = k * 33 := by rw [lrow_length, mkC_length, List.length_take, Nat.min_eq_left hk]
      have AR : Hid (Ar wr B 25 (cells (hAt zero32 ts k))) := ar
      have HW : Hid (wr.ownsRow G 27 33 (.slice (some ⟨G, 0, none⟩) ts.length ts.length) ts.length (lrow (mkC (ts.take k)) ++ rs)) := ho
      have LM : Hid ((lrow (mkC (ts.take k))).length = k * 33) := lm
      clear hc ar ho lm
      generalize hAt zero32 ts k = hd at *
      generalize ts[k] = tx at *
      have cn := fun (w0 : World) => next_any (w := w0) hd tx lh lt
      have ln := nxt_len hd tx
      generalize hx : (⟨tx, nxt hd tx, nxt_len hd tx⟩ : Li) = x at *
      have ex1 : x.t = tx := by rw [← hx]
      have ex2 : x.h = nxt hd tx := by rw [← hx]
      rw [← ex2] at HN cn ln
      rw [← ex1] at c0 cn
      have EX : Hid (x.t = tx) := ex1
      clear hx ex1 ex2
      have l32 : (cells hd).length = 32 := by rw [cells_length, lh]
      have ln2 : (cells x.h).length = 32 := by rw [cells_length, ln]
      have on2 := cells_one x.h
      have LRS : Hid (rs.length = (ts.length - k) * 33) := lrs
      have lsum : Hid ((lrow (mkC (ts.take k)) ++ rs).length = ts.length * 33) := HW.out.1
      clear lrs lh ln lt
      go_wp2_with (first
        | ((with_reducible apply w_loadH (d := some 17) (b := B) (o := 0) (cs := cells hd)); (case hx => rfl); (case hr => exact AR.out.range); (case hl => exact l32))
        | (go_at_call 27; (with_reducible refine Calls.mono (cn _) ?_); rintro e w3 ⟨rfl, k3⟩)
        | ((with_reducible apply w_store (x := .tmp 4) (b := B) (xs := cells x.h) (old := cells hd) arr32); (case hx => rfl); (case hy => rfl); (case ha => exact AR.out.kept k3 trivial); (case ho => exact l32); (case hl => exact ln2); (case h1 => exact on2); intro w4 a4 k4 s4)
        | ((with_reducible apply w_loadH (d := some 23) (b := B) (o := 0) (cs := cells x.h)); (case hx => rfl); (case hr => exact a4.range); (case hl => exact ln2))
        | ((with_reducible apply w_buildL (d := some 24) linkP x); (case hy => rfl); (case hz => rfl))
        | ((with_reducible apply w_storeM linkP (b := G) (o := k * 33) x); ((case hx => rfl); (case hy => rfl); (case ht => exact own_there (ownL_kept (ownL_kept HW.out k3 (fun _ _ => trivial)) k4 (fun i hi => by (have : G = i := by simpa [Value.ownBlock] using hi); omega)) _ _ (by rw [lsum.out]; exact mul33 _ _ hlt)))))
      go_roundw
      case rel =>
        have hG : ∀ i, (Value.slice (some ⟨G, 0, none⟩) ts.length ts.length).ownBlock = some i → i = G := fun i hi => by simpa [Value.ownBlock] using hi.symm
        have how := ownL_kept (ownL_kept HW.out k3 (fun _ _ => trivial)) k4 (fun i hi => by have := hG i hi; omega)
        obtain ⟨h5, k5, _⟩ := own_setCells (lcell x) (k * 33) _ _ how (by rw [lsum.out, lcell_length]; exact mul33 _ _ hlt)
        refine ⟨k + 1, rs.drop 33, by omega, by go_num, ?_, ?_, ?_, ?_⟩
        · rw [HN.out]
          exact a4.kept k5 (by omega)
        · rw [List.length_drop, LRS.out, show ts.length - k = ts.length - (k + 1) + 1 by omega, Nat.add_mul, Nat.one_mul, Nat.add_sub_cancel]
        · rw [HM.out, lrow_snoc]
          have e1 : (lrow (mkC (ts.take k)) ++ rs).take (k * 33) = lrow (mkC (ts.take k)) := by rw [← LM.out, List.take_left]
          have e2 : (lrow (mkC (ts.take k)) ++ rs).drop (k * 33 + (lcell x).length) = rs.drop 33 := by rw [← LM.out, lcell_length, List.drop_append, List.drop_of_length_le (by omega), List.nil_append, Nat.add_sub_cancel_left]
          rw [e1, e2] at h5
          exact h5
        · have hG2 := HG.out
          exact ((kr.trans k3).then k4 (fun i hi _ => by omega)).then k5 (fun i hi _ => by omega)
      case measure => simp [intOf]; omega
    · have i1 : ¬ (k : Int) < (ts.length : Int) := by omega
      have hke : k = ts.length := by omega
      have e0 : rs = [] := List.eq_nil_of_length_eq_zero (by rw [lrs, hke, Nat.sub_self, Nat.zero_mul])
      rw [e0, List.append_nil, hke, List.take_length] at ho
      have HW : Hid (Lo 27 wr G (.slice (some ⟨G, 0, none⟩) (mkC ts).length ts.length) (mkC ts)) := by
        show Lo _ _ _ _ _
        unfold Lo
        rw [mkC_length]
        exact ho
      clear ho e0 lrs ar
      go_wp2
      go_ret
      refine ⟨some ⟨G, 0, none⟩, ts.length, by rw [mkC_length]; rfl, ?_, kr⟩
      rw [← HG.out]
      exact HW.out

end Go.Proofs.Ytflleblcliobdaa

namespace Go.Proofs.Ytflleblcliobdaa
open Go.RowKit

theorem eq_yes {xs ys : List UInt8} (hx : xs.length = 32) (he : xs = ys) (w0 : World) : (Op.equalIn 10000 25 (.agg (cells xs).toArray) (.agg (cells ys).toArray)).run Try.prog w0 = .ok true w0 := by
  subst he
  have := eq32 xs xs hx hx w0
  rwa [beq_self_eq_true] at this
theorem eq_no {xs ys : List UInt8} (hx : xs.length = 32) (hy : ys.length = 32) (he : xs ≠ ys) (w0 : World) : (Op.equalIn 10000 25 (.agg (cells xs).toArray) (.agg (cells ys).toArray)).run Try.prog w0 = .ok false w0 := by
  have := eq32 xs ys hx hy w0
  rwa [beq_eq_false_iff_ne.2 he] at this
/-- What Check answers. -/
def EChk (xs : List Li) (w : World) (e : Ending) (w' : World) : Prop := ∃ n : Nat, e = .returned (.int .i64 n) ∧ IsChk xs n ∧ Kept (fun _ => True) w w'

set_option maxRecDepth 100000 in
set_option maxHeartbeats 2000000 in
theorem check_any {w : World} {ao : Option Addr} {cap : Nat} {xs : List Li} (h : Lv w ao xs) (hn : xs.length ≤ 100000) (hs : ∀ x ∈ xs, x.t.length ≤ 100000000000000) :
    Calls Try.prog 11 #[.slice ao xs.length cap] w fun e w' => EChk xs w e w' := by
  have HV : Hid (Lv w ao xs) := h
  have HS : Hid (∀ x ∈ xs, x.t.length ≤ 100000000000000) := hs
  have hgd := guard32
  clear h hs
  go_enter Try.func11, Try.ntmps11
  go_wp2_with ((with_reducible refine w_alloc (d := some 3) arr32 ?_); intro w2 a3 k2 s2)
  have A3 : Ar w2 w.heap.size 25 (cells zero32) := a3
  obtain ⟨B, hB⟩ : ∃ B, B = w.heap.size := ⟨_, rfl⟩
  rw [← hB] at A3 ⊢
  have HB : Hid (B = w.heap.size) := hB
  have HA : Hid (Ar w2 B 25 (cells zero32)) := A3
  have K2 : Hid (Kept (fun _ => True) w w2) := k2
  clear hB a3 A3 k2 s2
  go_loopw [8] (fun t wr => ∃ k : Nat, k ≤ xs.length ∧ t = .int .i64 k ∧ Ar wr B 25 (cells (hAt zero32 (txs xs) k)) ∧ (∀ j (_ : j < k) (hj : j < xs.length), okL xs j hj) ∧ Kept (fun _ => True) w wr) (fun t _ => xs.length - (intOf t).toNat)
  case atStart => exact ⟨0, Nat.zero_le _, rfl, HA.out, fun j h => by omega, K2.out⟩
  case round =>
    obtain ⟨k, hk, rfl, ar, hall, kr⟩ := hrel
    have HL : Hid (∀ j (_ : j < k) (hj : j < xs.length), okL xs j hj) := hall
    have AR : Hid (Ar wr B 25 (cells (hAt zero32 (txs xs) k))) := ar
    clear hall ar
    by_cases hlt : k < xs.length
    · obtain ⟨b, off, rfl, hb, hc⟩ := HV.out.row (by omega)
      have hr := range_kept (hc k hlt) kr hb trivial
      have i0 : (0 : Int) ≤ (k : Int) := by omega
      have i1 : (k : Int) < (xs.length : Int) := by omega
      have hN : hAt zero32 (txs xs) (k + 1) = nxt (hAt zero32 (txs xs) k) xs[k].t := by
        rw [hAt_succ zero32 (txs xs) k (by rw [txs_length]; exact hlt), txs_get xs k hlt]
      have HO : Hid (okL xs k hlt ↔ xs[k].h = hAt zero32 (txs xs) (k + 1)) := Iff.rfl
      have lt : (xs[k].t).length ≤ 100000000000000 := HS.out _ (List.getElem_mem _)
      have lh : (hAt zero32 (txs xs) k).length = 32 := hAt_len zero32_len _ k
      have lx := xs[k].len
      generalize hAt zero32 (txs xs) k = hd at *
      generalize hn2 : hAt zero32 (txs xs) (k + 1) = hd' at *
      have HN2 : Hid (hAt zero32 (txs xs) (k + 1) = hd') := hn2
      have cn := fun (w0 : World) => next_any (w := w0) hd xs[k].t lh lt
      have ln := nxt_len hd xs[k].t
      rw [← hN] at cn ln
      have HR : Hid (wr.rangeAt b (off + k * 33) (lcell xs[k])) := hr
      have HOK : Hid (xs[k].h = hd' → ∀ h : k < xs.length, okL xs k h) := fun e _ => HO.out.2 e
      have HNO : Hid (xs[k].h ≠ hd' → ∀ h : k < xs.length, ¬ okL xs k h) := fun e _ q => e (HO.out.1 q)
      clear hc hn2 hN hr HO
      generalize xs[k] = x at *
      have ht : wr.heap.size = wr.heap.size := rfl
      have l32 : (cells hd).length = 32 := by rw [cells_length, lh]
      have ln2 : (cells hd').length = 32 := by rw [cells_length, ln]
      have lx2 : (cells x.h).length = 32 := by rw [cells_length, lx]
      have on2 := cells_one hd'
      have hz := AR.out.lt
      by_cases he : x.h = hd'
      · have hq := fun w0 => eq_yes lx he w0
        have HE : Hid (x.h = hd') := he
        clear he lh ln lt lx ht
        go_wp2_with (first
          | ((with_reducible apply w_loadL (d := some 12) linkP (b := b) (o := off + k * 33) (x := x)); (case hx => rfl); (case hr => exact HR.out))
          | ((with_reducible refine w_allocL (d := some 5) linkP ?_); intro w3 a5 k3 s3; have cc0 := s3.out)
          | ((with_reducible apply w_storeL (x := .tmp 5) linkP (b := wr.heap.size) (z := x) (old := zeroLi)); (case hx => rfl); (case hy => rfl); (case ha => exact a5); intro w4 a5' k4 s4; have ct := a5'.text)
          | ((with_reducible apply w_loadH (d := some 13) (b := B) (o := 0) (cs := cells hd)); (case hx => rfl); (case hr => exact ((AR.out.kept k3 trivial).kept k4 (by omega)).range); (case hl => exact l32))
          | (go_at_call 27; (with_reducible refine Calls.mono (cn _) ?_); rintro e w5 ⟨rfl, k5⟩)
          | ((with_reducible apply w_store (x := .tmp 3) (b := B) (xs := cells hd') (old := cells hd) arr32); (case hx => rfl); (case hy => rfl); (case ha => exact ((AR.out.kept k3 trivial).kept k4 (by omega)).kept k5 trivial); (case ho => exact l32); (case hl => exact ln2); (case h1 => exact on2); intro w6 a6 k6 s6)
          | ((with_reducible apply w_loadH (d := some 18) (b := wr.heap.size) (o := 1) (cs := cells x.h)); (case hx => rfl); (case hr => exact ((a5'.kept k5 trivial).kept k6 (by omega)).head); (case hl => exact lx2))
          | ((with_reducible apply w_loadH (d := some 19) (b := B) (o := 0) (cs := cells hd')); (case hx => rfl); (case hr => exact a6.range); (case hl => exact ln2)))
        go_roundw
        case rel =>
          refine ⟨k + 1, by omega, by go_num, ?_, fun j hj hj2 => ?_, ?_⟩
          · rw [HN2.out]; exact a6
          · by_cases e : j = k
            · subst e; exact HOK.out HE.out hj2
            · exact HL.out j (by omega) hj2
          · have hb2 := HB.out
            exact (((kr.trans k3).then k4 (fun i hi _ => by have := kr.size; omega)).trans k5).then k6 (fun i hi _ => by omega)
        case measure => simp [intOf]; omega
      · have hq := fun w0 => eq_no lx ln he w0
        have HE : Hid (x.h ≠ hd') := he
        clear he lh ln lt lx ht
        go_wp2_with (first
          | ((with_reducible apply w_loadL (d := some 12) linkP (b := b) (o := off + k * 33) (x := x)); (case hx => rfl); (case hr => exact HR.out))
          | ((with_reducible refine w_allocL (d := some 5) linkP ?_); intro w3 a5 k3 s3; have cc0 := s3.out)
          | ((with_reducible apply w_storeL (x := .tmp 5) linkP (b := wr.heap.size) (z := x) (old := zeroLi)); (case hx => rfl); (case hy => rfl); (case ha => exact a5); intro w4 a5' k4 s4; have ct := a5'.text)
          | ((with_reducible apply w_loadH (d := some 13) (b := B) (o := 0) (cs := cells hd)); (case hx => rfl); (case hr => exact ((AR.out.kept k3 trivial).kept k4 (by omega)).range); (case hl => exact l32))
          | (go_at_call 27; (with_reducible refine Calls.mono (cn _) ?_); rintro e w5 ⟨rfl, k5⟩)
          | ((with_reducible apply w_store (x := .tmp 3) (b := B) (xs := cells hd') (old := cells hd) arr32); (case hx => rfl); (case hy => rfl); (case ha => exact ((AR.out.kept k3 trivial).kept k4 (by omega)).kept k5 trivial); (case ho => exact l32); (case hl => exact ln2); (case h1 => exact on2); intro w6 a6 k6 s6)
          | ((with_reducible apply w_loadH (d := some 18) (b := wr.heap.size) (o := 1) (cs := cells x.h)); (case hx => rfl); (case hr => exact ((a5'.kept k5 trivial).kept k6 (by omega)).head); (case hl => exact lx2))
          | ((with_reducible apply w_loadH (d := some 19) (b := B) (o := 0) (cs := cells hd')); (case hx => rfl); (case hr => exact a6.range); (case hl => exact ln2)))
        go_ret
        refine ⟨k, rfl, ⟨by omega, HL.out, HNO.out HE.out⟩, ?_⟩
        have hb2 := HB.out
        exact (((kr.trans k3).then k4 (fun i hi _ => by have := kr.size; omega)).trans k5).then k6 (fun i hi _ => by omega)
    · have i1 : ¬ (k : Int) < (xs.length : Int) := by omega
      have hke : k = xs.length := by omega
      subst hke
      go_wp2
      go_ret
      exact ⟨xs.length, rfl, ⟨Nat.le_refl _, HL.out, fun h => absurd h (by omega)⟩, kr⟩

end Go.Proofs.Ytflleblcliobdaa
