/-
  Texts of the proofs, 13 of 52.
-/
import Derived.Test.YtmcaoimgmgjjiaaWH
import Derived.Test.YtmcaoimgmgjjiaaWL
import Derived.Lib.AppendStr
import Derived.Test.YtmcaoimgmgjjiaaWD
import Derived.Deep.RegionLaw
import Derived.BigRegion
namespace Go.Proofs.Ytmcaoimgmgjjiaa
open Go.RowKit

theorem Ar.full {w : World} {b t : Nat} {bs : List UInt8} (h : Ar w b t (cells bs)) : Has w (some ⟨b, 0, none⟩) bs := by
  intro _
  refine ⟨_, rfl, fun j hj => ?_⟩
  rw [WideShapes.add_plain, Nat.zero_add, h.cell j, cells_getElem bs j hj]

theorem append_full (w : World) (ty : TypeId) (b : Nat) (hs s : List UInt8) (hh : Has w (some ⟨b, 0, none⟩) hs) (h0 : 0 < hs.length) (hb : hs.length + s.length ≤ 140737488355328) :
    ∃ ao cap w', (Builtin.append_ #[25, 9] ty #[.slice (some ⟨b, 0, none⟩) hs.length hs.length, .string ⟨s.toArray⟩]).run Try.prog w = .ok (.slice ao (hs ++ s).length cap) w' ∧ Has w' ao (hs ++ s) ∧ (hs ++ s).length ≤ cap ∧ Kept (fun _ => True) w w' := by
  obtain ⟨i, hi, hz0, hz1, hz2⟩ := info_parts Try.infoU8
  by_cases he : s = []
  · subst he
    refine ⟨some ⟨b, 0, none⟩, hs.length, w, ?_, by simpa using hh, by simp, Kept.refl _ _⟩
    have hf := Lib.run_firstCells_string (P := Try.prog) w 1 ⟨([] : List UInt8).toArray⟩
    have e0 : (Lib.strCells ⟨([] : List UInt8).toArray⟩).toArray = #[] := rfl
    rw [e0] at hf
    have z : (⟨([] : List UInt8).toArray⟩ : ByteArray).size = 0 := rfl
    rw [z] at hf
    simp [Builtin.append_, run_underlying Try.underlying25, run_underlying Try.underlying9, sizeOf, typeInfo, hi, hz1, Builtin.lenOf, z]
    have hf' : (Builtin.firstCells 1 0 (Value.string { data := #[] })).run Try.prog w = .ok #[] w := hf
    simp [hf', storeCells]
  · have hpos : 0 < s.length := by
      rcases s with _ | ⟨x, s⟩
      · exact absurd rfl he
      · simp
    have e1 : (⟨s.toArray⟩ : ByteArray).size = s.length := by simp [ByteArray.size]
    have holds : ∀ j u, (cells hs)[j]? = some u → w.cell? ((⟨b, 0, none⟩ : Addr).add j) = some u := by
      obtain ⟨ad, e, hc⟩ := hh h0
      cases e
      exact Has.src hc
    have hr := Lib.run_append_grow_string (P := Try.prog) w 25 9 ty 5 i (.int .u8 0) Try.underlying25 Try.underlying9 hi hz0 ⟨b, 0, none⟩ hs.length hs.length (cells hs) (by rw [hz1, cells_length, Nat.mul_one]) holds ⟨s.toArray⟩ (by omega) (by omega) (by rw [hz2]; exact growslice_fits (by omega) (by omega))
    have hc := hr
    rw [e1] at hr
    refine ⟨_, _, _, by rw [List.length_append]; exact hr, ?_, ?_, (Kept.refl _ _).drew.alloc _⟩
    · intro _
      refine ⟨_, rfl, fun j hj => ?_⟩
      rw [WideShapes.add_plain, Nat.zero_add, cell_of_row _ w.heap.size j _ 5 (0, 0) (heap_alloc_new w.drew _)]
      have e2 : (cells hs).toArray ++ (Lib.strCells ⟨s.toArray⟩).toArray = (cells (hs ++ s)).toArray := by
        rw [cells_append]
        simp
        rfl
      rw [e2, Array.getElem?_append_left (by simpa [cells_length] using hj)]
      simpa using cells_getElem (hs ++ s) j hj
    · rw [List.length_append]
      exact grownCap_ge _ _ _ _
theorem wpList_append_full {w : World} {ops : Array Oper} {rest : List Oper} {o : Oper} {a : Act} {Q : Exit → Act → World → Prop} (hgd : o.guard = none) (sl x : Operand)
    (ho : o.op = .call { callee := .builtin .append, args := #[sl, x], argTypes := #[25, 9] })
    (b n : Nat) (hs s : List UInt8) (hn : hs.length = n) (hv : a.eval sl = .slice (some ⟨b, 0, none⟩) n n) (hx : a.eval x = .string ⟨s.toArray⟩) (hh : Has w (some ⟨b, 0, none⟩) hs) (h0 : 0 < n) (hb : n + s.length ≤ 140737488355328) (m : List UInt8) (hm : hs ++ s = m)
    (h : ∀ ao cap w', Has w' ao m → m.length ≤ cap → Kept (fun _ => True) w w' → wpList Try.prog ops Q rest (a.put o.dst (.slice ao m.length cap)) w') : wpList Try.prog ops Q (o :: rest) a w := by
  subst hn hm
  refine wpList_plain hgd fun K hK => ?_
  obtain ⟨ao, cap, w', hr, h2, h3, h4⟩ := append_full w o.type b hs s hh h0 hb
  unfold Oper.wp execOp
  simp only [ho, resolve, invoke, builtin, Sem.run_bind, Sem.run_pure, Result.andThen_ok, List.map_toArray, List.map_cons, List.map_nil, hv, hx, hr]
  exact hK _ _ (h ao cap w' h2 h3 h4)

theorem slice_whole (B : Nat) (w0 : World) : (Instr.sliceAt 78 (.pointer (some ⟨B, 0, none⟩)) none none none).run Try.prog w0 = .ok (.slice (some ⟨B, 0, none⟩) 32 32) w0 := by
  have hu : Try.prog.underlying 78 = some (.array (Try.prog.arrayLen 78) (Try.prog.elem 78)) := by kernel_rfl
  have hn : Try.prog.arrayLen 78 = 32 := by kernel_rfl
  have he : Try.prog.elem 78 = Try.prog.elem 25 := by kernel_rfl
  rw [run_sliceAt_array_all (P := Try.prog) w0 78 ⟨B, 0, none⟩ hu, he, size_u8, hn]
  simp [Result.andThen, slicedAt, Addr.add]

set_option maxRecDepth 100000 in
set_option maxHeartbeats 1000000 in
theorem next_any {w : World} (h t : List UInt8) (hl : h.length = 32) (ht : t.length ≤ 100000000000000) :
    Calls Try.prog 91 #[.agg (cells h).toArray, .string ⟨t.toArray⟩] w fun e w' => e = .returned (.agg (cells (nxt h t)).toArray) ∧ Kept (fun _ => True) w w' := by
  have ln : (cells (nxt h t)).length = 32 := by rw [cells_length, nxt_len]
  have on := cells_one (nxt h t)
  have hsl := slice_whole w.heap.size
  obtain ⟨xs, hxs⟩ : ∃ xs, xs = cells (nxt h t) := ⟨_, rfl⟩
  rw [← hxs] at ln on ⊢
  obtain ⟨m, hm⟩ : ∃ m, h ++ t = m := ⟨_, rfl⟩
  have SH : ∀ (w0 : World) (ao : Option Addr) (cap : Nat), Has w0 ao m → m.length ≤ cap → Calls Try.prog 94 #[.slice ao m.length cap] w0 fun e w' => e = .returned (.agg xs.toArray) ∧ Kept (fun _ => True) w0 w' := fun w0 ao cap h1 h2 => by
    rw [hxs]
    unfold nxt
    rw [hm]
    exact sha_any h1 h2 (by rw [← hm, List.length_append]; omega)
  have HM : Hid (h ++ t = m) := hm
  clear hxs hm
  go_enter Try.func91, Try.ntmps91
  go_wp2_with (first
    | ((with_reducible refine w_box (d := some 2) (cells h) ?hx ?hn); (case hx => rfl); intro w1 a2 k1 s1)
    | ((with_reducible refine w_alloc (d := some 4) arr32 ?_); intro w2 a4 k2 s2)
    | (at_builtin; refine wpList_append_full rfl (.tmp 5) (.tmp 6) rfl w.heap.size 32 h t hl rfl rfl ((a2.kept k2 trivial).full) (by decide) (by omega) m HM.out ?_; intro ao cap w3 hh3 hc3 k3)
    | (go_at_call 94; (with_reducible refine Calls.mono (SH _ ao cap hh3 hc3) ?_); rintro e w5 ⟨rfl, k5⟩)
    | ((with_reducible apply w_store (x := .tmp 4) (b := w1.heap.size) (xs := xs) (old := List.replicate 32 (.int .u8 0)) arr32); (case hx => rfl); (case hy => rfl); (case ha => exact (a4.kept k3 trivial).kept k5 trivial); (case ho => simp); (case hl => exact ln); (case h1 => exact on); intro w6 a6 k6 s6))
  have q1 := s1.out
  have q2 := s2.out
  refine bodyPost_ret (results_ar (p := 4) arr32 rfl _ _ rfl a6 ln) rfl ⟨rfl, ?_⟩
  exact (((k1.trans k2).trans k3).trans k5).then k6 (fun i hi _ => by omega)

end Go.Proofs.Ytmcaoimgmgjjiaa

namespace Go.Proofs.Ytmcaoimgmgjjiaa
open Go.RowKit

theorem eq_yes {xs ys : List UInt8} (hx : xs.length = 32) (he : xs = ys) (w0 : World) : (Op.equalIn 10000 78 (.agg (cells xs).toArray) (.agg (cells ys).toArray)).run Try.prog w0 = .ok true w0 := by
  subst he
  have := eq32 xs xs hx hx w0
  rwa [beq_self_eq_true] at this
theorem eq_no {xs ys : List UInt8} (hx : xs.length = 32) (hy : ys.length = 32) (he : xs ≠ ys) (w0 : World) : (Op.equalIn 10000 78 (.agg (cells xs).toArray) (.agg (cells ys).toArray)).run Try.prog w0 = .ok false w0 := by
  have := eq32 xs ys hx hy w0
  rwa [beq_eq_false_iff_ne.2 he] at this
def EChk (xs : List Li) (w : World) (e : Ending) (w' : World) : Prop := ∃ n : Nat, e = .returned (.int .i64 n) ∧ IsChk xs n ∧ Kept (fun _ => True) w w'

set_option maxRecDepth 100000 in
set_option maxHeartbeats 2000000 in
theorem check_any {w : World} {ao : Option Addr} {cap : Nat} {xs : List Li} (h : Lv w ao xs) (hn : xs.length ≤ 100000) (hs : ∀ x ∈ xs, x.t.length ≤ 100000000000000) :
    Calls Try.prog 74 #[.slice ao xs.length cap] w fun e w' => EChk xs w e w' := by
  have HV : Hid (Lv w ao xs) := h
  have HS : Hid (∀ x ∈ xs, x.t.length ≤ 100000000000000) := hs
  have hgd := guard32
  clear h hs
  go_enter Try.func74, Try.ntmps74
  go_wp2_with ((with_reducible refine w_alloc (d := some 3) arr32 ?_); intro w2 a3 k2 s2)
  have A3 : Ar w2 w.heap.size 78 (cells zero32) := a3
  obtain ⟨B, hB⟩ : ∃ B, B = w.heap.size := ⟨_, rfl⟩
  rw [← hB] at A3 ⊢
  have HB : Hid (B = w.heap.size) := hB
  have HA : Hid (Ar w2 B 78 (cells zero32)) := A3
  have K2 : Hid (Kept (fun _ => True) w w2) := k2
  clear hB a3 A3 k2 s2
  go_loopw [8] (fun t wr => ∃ k : Nat, k ≤ xs.length ∧ t = .int .i64 k ∧ Ar wr B 78 (cells (hAt zero32 (txs xs) k)) ∧ (∀ j (_ : j < k) (hj : j < xs.length), okL xs j hj) ∧ Kept (fun _ => True) w wr) (fun t _ => xs.length - (intOf t).toNat)
  case atStart => exact ⟨0, Nat.zero_le _, rfl, HA.out, fun j h => by omega, K2.out⟩
  case round =>
    obtain ⟨k, hk, rfl, ar, hall, kr⟩ := hrel
    have HL : Hid (∀ j (_ : j < k) (hj : j < xs.length), okL xs j hj) := hall
    have AR : Hid (Ar wr B 78 (cells (hAt zero32 (txs xs) k))) := ar
    clear hall ar
    by_cases hlt : k < xs.length
    · obtain ⟨b, off, rfl, hb, hc⟩ := HV.out.row (by omega)
      have hr := range_kept (hc k hlt) kr hb trivial
      have i0 : (0 : Int) ≤ (k : Int) := by omega
      have i1 : (k : Int) < (xs.length : Int) := by omega
      have hN : hAt zero32 (txs xs) (k + 1) = nxt (hAt zero32 (txs xs) k) xs[k].t := by
        rw [hAt_succ zero32 (txs xs) k (by rw [txs_length]; exact hlt), txs_get xs k hlt]
      have HO : Hid (okL xs k hlt ↔ xs[k].h = hAt zero32 (txs xs) (k + 1)) := Iff.rfl
      have lt : (xs[k].t).length ≤ 100000000000000 := HS.out _ (List.getElem_mem _)
      have lh : (hAt zero32 (txs xs) k).length = 32 := hAt_len zero32_len _ k
      have lx := xs[k].len
      generalize hAt zero32 (txs xs) k = hd at *
      generalize hn2 : hAt zero32 (txs xs) (k + 1) = hd' at *
      have HN2 : Hid (hAt zero32 (txs xs) (k + 1) = hd') := hn2
      have cn := fun (w0 : World) => next_any (w := w0) hd xs[k].t lh lt
      have ln := nxt_len hd xs[k].t
      rw [← hN] at cn ln
      have HR : Hid (wr.rangeAt b (off + k * 33) (lcell xs[k])) := hr
      have HOK : Hid (xs[k].h = hd' → ∀ h : k < xs.length, okL xs k h) := fun e _ => HO.out.2 e
      have HNO : Hid (xs[k].h ≠ hd' → ∀ h : k < xs.length, ¬ okL xs k h) := fun e _ q => e (HO.out.1 q)
      clear hc hn2 hN hr HO
      generalize xs[k] = x at *
      have ht : wr.heap.size = wr.heap.size := rfl
      have l32 : (cells hd).length = 32 := by rw [cells_length, lh]
      have ln2 : (cells hd').length = 32 := by rw [cells_length, ln]
      have lx2 : (cells x.h).length = 32 := by rw [cells_length, lx]
      have on2 := cells_one hd'
      have hz := AR.out.lt
      by_cases he : x.h = hd'
      · have hq := fun w0 => eq_yes lx he w0
        have HE : Hid (x.h = hd') := he
        clear he lh ln lt lx ht
        go_wp2_with (first
          | ((with_reducible apply w_loadL (d := some 12) linkP (b := b) (o := off + k * 33) (x := x)); (case hx => rfl); (case hr => exact HR.out))
          | ((with_reducible refine w_allocL (d := some 5) linkP ?_); intro w3 a5 k3 s3; have cc0 := s3.out)
          | ((with_reducible apply w_storeL (x := .tmp 5) linkP (b := wr.heap.size) (z := x) (old := zeroLi)); (case hx => rfl); (case hy => rfl); (case ha => exact a5); intro w4 a5' k4 s4; have ct := a5'.text)
          | ((with_reducible apply w_loadH (d := some 13) (b := B) (o := 0) (cs := cells hd)); (case hx => rfl); (case hr => exact ((AR.out.kept k3 trivial).kept k4 (by omega)).range); (case hl => exact l32))
          | (go_at_call 91; (with_reducible refine Calls.mono (cn _) ?_); rintro e w5 ⟨rfl, k5⟩)
          | ((with_reducible apply w_store (x := .tmp 3) (b := B) (xs := cells hd') (old := cells hd) arr32); (case hx => rfl); (case hy => rfl); (case ha => exact ((AR.out.kept k3 trivial).kept k4 (by omega)).kept k5 trivial); (case ho => exact l32); (case hl => exact ln2); (case h1 => exact on2); intro w6 a6 k6 s6)
          | ((with_reducible apply w_loadH (d := some 18) (b := wr.heap.size) (o := 1) (cs := cells x.h)); (case hx => rfl); (case hr => exact ((a5'.kept k5 trivial).kept k6 (by omega)).head); (case hl => exact lx2))
          | ((with_reducible apply w_loadH (d := some 19) (b := B) (o := 0) (cs := cells hd')); (case hx => rfl); (case hr => exact a6.range); (case hl => exact ln2)))
        go_roundw
        case rel =>
          refine ⟨k + 1, by omega, by go_num, ?_, fun j hj hj2 => ?_, ?_⟩
          · rw [HN2.out]; exact a6
          · by_cases e : j = k
            · subst e; exact HOK.out HE.out hj2
            · exact HL.out j (by omega) hj2
          · have hb2 := HB.out
            exact (((kr.trans k3).then k4 (fun i hi _ => by have := kr.size; omega)).trans k5).then k6 (fun i hi _ => by omega)
        case measure => simp [intOf]; omega
      · have hq := fun w0 => eq_no lx ln he w0
        have HE : Hid (x.h ≠ hd') := he
        clear he lh ln lt lx ht
        go_wp2_with (first
          | ((with_reducible apply w_loadL (d := some 12) linkP (b := b) (o := off + k * 33) (x := x)); (case hx => rfl); (case hr => exact HR.out))
          | ((with_reducible refine w_allocL (d := some 5) linkP ?_); intro w3 a5 k3 s3; have cc0 := s3.out)
          | ((with_reducible apply w_storeL (x := .tmp 5) linkP (b := wr.heap.size) (z := x) (old := zeroLi)); (case hx => rfl); (case hy => rfl); (case ha => exact a5); intro w4 a5' k4 s4; have ct := a5'.text)
          | ((with_reducible apply w_loadH (d := some 13) (b := B) (o := 0) (cs := cells hd)); (case hx => rfl); (case hr => exact ((AR.out.kept k3 trivial).kept k4 (by omega)).range); (case hl => exact l32))
          | (go_at_call 91; (with_reducible refine Calls.mono (cn _) ?_); rintro e w5 ⟨rfl, k5⟩)
          | ((with_reducible apply w_store (x := .tmp 3) (b := B) (xs := cells hd') (old := cells hd) arr32); (case hx => rfl); (case hy => rfl); (case ha => exact ((AR.out.kept k3 trivial).kept k4 (by omega)).kept k5 trivial); (case ho => exact l32); (case hl => exact ln2); (case h1 => exact on2); intro w6 a6 k6 s6)
          | ((with_reducible apply w_loadH (d := some 18) (b := wr.heap.size) (o := 1) (cs := cells x.h)); (case hx => rfl); (case hr => exact ((a5'.kept k5 trivial).kept k6 (by omega)).head); (case hl => exact lx2))
          | ((with_reducible apply w_loadH (d := some 19) (b := B) (o := 0) (cs := cells hd')); (case hx => rfl); (case hr => exact a6.range); (case hl => exact ln2)))
        go_ret
        refine ⟨k, rfl, ⟨by omega, HL.out, HNO.out HE.out⟩, ?_⟩
        have hb2 := HB.out
        exact (((kr.trans k3).then k4 (fun i hi _ => by have := kr.size; omega)).trans k5).then k6 (fun i hi _ => by omega)
    · have i1 : ¬ (k : Int) < (xs.length : Int) := by omega
      have hke : k = xs.length := by omega
      subst hke
      go_wp2
      go_ret
      exact ⟨xs.length, rfl, ⟨Nat.le_refl _, HL.out, fun h => absurd h (by omega)⟩, kr⟩

end Go.Proofs.Ytmcaoimgmgjjiaa

namespace Go.Proofs.Ytmcaoimgmgjjiaa
open Go.RowKit

theorem Wr.step {wr w0 w1 : World} {B : Nat} {G : Option Nat} {v nv : Value} {bs news : List UInt8} {n : Nat} (hw : Wr wr B G v bs) (h0 : Kept (fun _ => True) wr w0) (hn : n = (bs ++ news).length)
    (hown : w1.ownsRow 0 5 1 nv n (cells bs ++ cells news)) (hgrow : w0.grownBy w1 v.ownBlock) (hat : v.ownBlock = nv.ownBlock ∨ ∃ g, nv.ownBlock = some g ∧ wr.heap.size ≤ g) :
    Wr (w1.setCell ⟨B, 0, none⟩ nv) B nv.ownBlock nv (bs ++ news) ∧
      Kept (fun x => x ≠ B ∧ G ≠ some x) wr (w1.setCell ⟨B, 0, none⟩ nv) ∧ (∀ x, nv.ownBlock = some x → G = some x ∨ wr.heap.size ≤ x) := by
  have hne : nv.ownBlock ≠ some B := by
    rcases hat with h | ⟨g, h, hg⟩
    · rw [← h, hw.row]; exact hw.ne
    · rw [h]; intro e; cases e; have := hw.lt; omega
  have hlt0 : B < w0.heap.size := Nat.lt_of_lt_of_le hw.lt h0.size
  have hs1 : w1.heap[B]? = some (.cells #[v] 142 (0, 0)) := by
    rw [hgrow.block B hlt0 (by rw [hw.row]; exact Ne.symm hw.ne), h0.block B hw.lt trivial]
    exact hw.self
  subst hn
  refine ⟨⟨one_setCell hs1, ?_, rfl⟩, ?_, ?_⟩
  · rw [cells_append]
    exact ownsRow_setCell_other hown (a := ⟨B, 0, none⟩) hne nv
  · refine ((h0.mono (fun _ _ _ => trivial)).grown hgrow (fun k _ hk hp => ?_)).setCell (by simp) _
    exact hp.2 (hw.row.symm.trans hk)
  · intro x hx
    rcases hat with h | ⟨g, h, hg⟩
    · exact .inl (hw.row.symm.trans (h.trans hx))
    · rw [h] at hx; cases hx; exact .inr hg

theorem grow_trans {a b c : World} {B : Nat} {G G1 G2 : Option Nat} (k1 : Kept (fun x => x ≠ B ∧ G ≠ some x) a b) (n1 : ∀ x, G1 = some x → G = some x ∨ a.heap.size ≤ x)
    (k2 : Kept (fun x => x ≠ B ∧ G1 ≠ some x) b c) (n2 : ∀ x, G2 = some x → G1 = some x ∨ b.heap.size ≤ x) :
    Kept (fun x => x ≠ B ∧ G ≠ some x) a c ∧ (∀ x, G2 = some x → G = some x ∨ a.heap.size ≤ x) := by
  refine ⟨k1.then k2 (fun i hi hp => ⟨hp.1, fun hG => ?_⟩), fun x hx => ?_⟩
  · rcases n1 i hG with h | h
    · exact hp.2 h
    · omega
  · rcases n2 x hx with h | h
    · exact n1 x h
    · exact .inr (Nat.le_trans k1.size h)

set_option maxRecDepth 100000 in
set_option maxHeartbeats 1000000 in
theorem wnumber_any {w : World} {B : Nat} {G : Option Nat} {v : Value} {bs : List UInt8} (n : Int) (k : Nat) (h : Wr w B G v bs) (hk8 : k ≤ 8) (hn0 : 0 ≤ n) (hb : (bs.length : Int) + k ≤ 140737488355328) :
    Calls Try.prog 80 #[.pointer (some ⟨B, 0, none⟩), .int .u64 n, .int .i64 k] w fun e w' => e = .returned (.tuple #[]) ∧ ∃ G' v', Wr w' B G' v' (bs ++ enc n k) ∧
      Kept (fun x => x ≠ B ∧ G ≠ some x) w w' ∧ (∀ x, G' = some x → G = some x ∨ w.heap.size ≤ x) := by
  obtain ⟨i, hi, hz0, hz1, hz2⟩ := info_parts Try.infoU8
  go_enter Try.func80, Try.ntmps80
  go_wp2
  go_loopw [6] (fun t wr => ∃ (m j : Nat) (G' : Option Nat) (v' : Value), m + j = k ∧ t = .int .i64 ((m : Int) - 1) ∧ Wr wr B G' v' (bs ++ (enc n k).take j) ∧ Kept (fun x => x ≠ B ∧ G ≠ some x) w wr ∧ (∀ x, G' = some x → G = some x ∨ w.heap.size ≤ x))
    (fun t _ => (intOf t + 1).toNat)
  case atStart => exact ⟨k, 0, G, v, by omega, rfl, by simpa using h, Kept.refl _ _, fun x hx => .inl hx⟩
  case round =>
    obtain ⟨m, j, G', v', hmj, rfl, hw, hk, hg⟩ := hrel
    by_cases hm : 1 ≤ m
    · obtain ⟨p, rfl⟩ : ∃ p, m = p + 1 := ⟨m - 1, by omega⟩
      have hc0 := cell_of_one hw.self
      have hf0 := free_of_one hw.self
      have ne1 := hw.ne
      have lb := hw.lt
      have hp8 : (p : Int) ≤ 7 := by omega
      have hp0 : (0 : Int) ≤ (p : Int) := by omega
      obtain ⟨Z, hsh, hZ⟩ := shift_byte n p hn0 (by omega)
      have hle : (bs ++ (enc n k).take j).length + 1 ≤ 140737488355328 := by simp [enc_length]; omega
      have hf1 : ∀ o, (wr.alloc o).frozen? ⟨B, 0, none⟩ = false := fun o => (World.frozen?_alloc_past _ _ _ lb).trans hf0
      have HT : Hid (bs ++ (enc n k).take (j + 1) = (bs ++ (enc n k).take j) ++ [byteAt n p]) := by
        show _ = _
        rw [enc_take n k j p hmj, List.append_assoc]
      generalize bs ++ (enc n k).take j = cur at *
      have HK : Hid (p + (j + 1) = k) := by show _ = _; omega
      rw [show (((p + 1 : Nat) : Int) - 1) = (p : Int) from by omega]
      go_wp2
      go_region_law
        ((refine step_append_lies _ (by rfl) _ _ _ (by rfl) 0 5 i _ 1 1 Try.underlying25 hi hz0 hz1 hz2 rfl (by omega) v' _ _ (by rfl) ((hw.own.alloc _).drew) ⟨wr.heap.size, 0, none⟩ 1 1 [.int .u8 (byteAt n p).toNat] (by rfl) (by rfl) (World.news_of_block (cs := #[.int .u8 (byteAt n p).toNat]) (t := 5) (fr := (0, 0)) (heap_alloc_new wr _)) (by simp [Value.oneCell']) (by omega) (by unfold maxLen; omega) (by omega) (by simp) (wr.heap.size + 1) (by simp) ?_; intro gg cap w1 hown1 hgrow hat hlt; have hc2 : w1.cell? ⟨B, 0, none⟩ = some v' := (hgrow.cell_far _ (by simp; omega) (by rw [hw.row]; exact Ne.symm ne1)).trans ((World.cell?_alloc_past _ _ _ lb).trans hc0); have hf2 : w1.frozen? ⟨B, 0, none⟩ = false := (hgrow.frozen_far _ (by simp; omega) (by rw [hw.row]; exact Ne.symm ne1)).trans (hf1 _)))
      all_goals go_wp2
      all_goals
        obtain ⟨s1, s2, s3⟩ := hw.step (news := [byteAt n p]) (((Kept.refl _ _).alloc _).drew) (by simp) hown1 hgrow (by rcases hat with h | h; exact .inl h; exact .inr ⟨gg, rfl, by omega⟩)
        obtain ⟨s4, s5⟩ := grow_trans hk hg s2 s3
        refine ⟨⟨p, j + 1, _, _, HK.out, rfl, by rw [HT.out]; exact s1, s4, s5⟩, by simp [intOf] <;> omega⟩
    · have hm0 : m = 0 := by omega
      subst hm0
      go_wp2
      go_end0
      have : (enc n k).take j = enc n k := List.take_of_length_le (by rw [enc_length]; omega)
      rw [this] at hw
      exact ⟨rfl, G', v', hw, hk, hg⟩

end Go.Proofs.Ytmcaoimgmgjjiaa

namespace Go.Proofs.Ytmcaoimgmgjjiaa
open Go.RowKit

def u64 (n : Int) : Int := IntKind.u64.wrap n
theorem u64_nonneg (n : Int) : 0 ≤ u64 n := by
  simp [u64, IntKind.wrap, IntKind.bits, IntKind.signed]; omega

set_option maxRecDepth 100000 in
set_option maxHeartbeats 400000 in
theorem wfour_any {w : World} {B : Nat} {G : Option Nat} {v : Value} {bs : List UInt8} (n : Int) (h : Wr w B G v bs) (hb : (bs.length : Int) + 4 ≤ 140737488355328) :
    Calls Try.prog 81 #[.pointer (some ⟨B, 0, none⟩), .int .i64 n] w fun e w' => e = .returned (.tuple #[]) ∧ ∃ G' v', Wr w' B G' v' (bs ++ enc (u64 n) 4) ∧
      Kept (fun x => x ≠ B ∧ G ≠ some x) w w' ∧ (∀ x, G' = some x → G = some x ∨ w.heap.size ≤ x) := by
  have c := wnumber_any (u64 n) 4 h (by decide) (u64_nonneg n) (by omega)
  unfold u64 at c
  go_enter Try.func81, Try.ntmps81
  go_wp2_with (go_at_call 80; refine Calls.mono c ?_; rintro e w1 ⟨rfl, G', v', h1, h2, h3⟩)
  go_end0
  exact ⟨rfl, G', v', h1, h2, h3⟩

theorem append_str (w : World) (ty : TypeId) (v : Value) (n : Nat) (xs : List Value) (hown : w.ownsRow 0 5 1 v n xs) (s : ByteArray) (hb : n + s.size ≤ 140737488355328) :
    ∃ v' w', (Builtin.append_ #[25, 9] ty #[v, .string s]).run Try.prog w = .ok v' w' ∧ w'.ownsRow 0 5 1 v' (n + s.size) (xs ++ cells s.data.toList) ∧ w.grownBy w' v.ownBlock ∧
      (v.ownBlock = v'.ownBlock ∨ ∃ g, v'.ownBlock = some g ∧ w.heap.size ≤ g) := by
  obtain ⟨i, hi, hz0, hz1, hz2⟩ := info_parts Try.infoU8
  have hm : n + s.size ≤ maxLen := by unfold maxLen; omega
  have H := fun base h h' => Lib.run_append_own_string (P := Try.prog) w base 25 9 ty 5 i Try.underlying25 Try.underlying9 hi hz0 hz1 hz2 v n xs h s hm hb h'
  rcases hown.2 with ⟨rfl, rfl⟩ | ⟨g, cap, cur, rfl, hbg, hg, hnc, hcm, hcs, htake⟩
  · have hx : xs = [] := List.eq_nil_of_length_eq_zero (by simpa using hown.1)
    subst hx
    obtain ⟨v', w', hr, ho, hgr, hnil⟩ := H w.heap.size (World.ownsRow_nil _ _ _ _) (Nat.le_refl _)
    refine ⟨v', w', hr, ⟨ho.1, ?_⟩, hgr, ?_⟩
    · rcases ho.2 with h | ⟨g, cap, cur, h1, h2, h3⟩
      · exact .inl h
      · exact .inr ⟨g, cap, cur, h1, Nat.zero_le _, h3⟩
    · rcases ho.2 with ⟨h, _⟩ | ⟨g, cap, cur, h1, h2, h3⟩
      · exact .inl (by rw [h])
      · exact .inr ⟨g, by rw [h1]; rfl, h2⟩
  · obtain ⟨v', w', hr, ho, hgr, hnil⟩ := H 0 hown (Nat.zero_le _)
    refine ⟨v', w', hr, ho, hgr, ?_⟩
    have hxl : xs.length = n := by simpa using hown.1
    by_cases hroom : n + s.size ≤ cap
    · have hcs' : cur.size = cap := by simpa using hcs
      have hr' := Lib.run_append_room_string (P := Try.prog) w 25 9 ty 5 i Try.underlying25 Try.underlying9 hi hz1 g n cap cur hg s hroom (by omega)
      rw [hr] at hr'
      injection hr' with h1 h2
      exact .inl (by rw [h1]; rfl)
    · have holds : ∀ j u, xs[j]? = some u → w.cell? ((⟨g, 0, none⟩ : Addr).add j) = some u := hown.cells (g := g) rfl
      have hr' := Lib.run_append_grow_string (P := Try.prog) w 25 9 ty 5 i (.int .u8 0) Try.underlying25 Try.underlying9 hi hz0 ⟨g, 0, none⟩ n cap xs (by rw [hz1]; simpa using hxl) holds s (by omega) (by omega) (by rw [hz2]; exact growslice_fits (by omega) (by omega))
      rw [hr] at hr'
      injection hr' with h1 h2
      exact .inr ⟨w.heap.size, by rw [h1]; rfl, Nat.le_refl _⟩

theorem wpList_append_str {w : World} {ops : Array Oper} {rest : List Oper} {o : Oper} {a : Act} {Q : Exit → Act → World → Prop} (hgd : o.guard = none) (sl x : Operand)
    (ho : o.op = .call { callee := .builtin .append, args := #[sl, x], argTypes := #[25, 9] })
    (v : Value) (n : Nat) (xs : List Value) (hs : a.eval sl = v) (hown : w.ownsRow 0 5 1 v n xs) (s : ByteArray) (hx : a.eval x = .string s) (hb : n + s.size ≤ 140737488355328)
    (h : ∀ ao cap w', w'.ownsRow 0 5 1 (.slice ao (n + s.size) cap) (n + s.size) (xs ++ cells s.data.toList) → w.grownBy w' v.ownBlock → (v.ownBlock = (Value.slice ao (n + s.size) cap).ownBlock ∨ ∃ g, (Value.slice ao (n + s.size) cap).ownBlock = some g ∧ w.heap.size ≤ g) → wpList Try.prog ops Q rest (a.put o.dst (.slice ao (n + s.size) cap)) w') : wpList Try.prog ops Q (o :: rest) a w := by
  refine wpList_plain hgd fun K hK => ?_
  obtain ⟨v', w', hr, h2, h3, h4⟩ := append_str w o.type v n xs hown s hb
  obtain ⟨ao, cap, rfl⟩ := own_shape h2
  unfold Oper.wp execOp
  simp only [ho, resolve, invoke, builtin, Sem.run_bind, Sem.run_pure, Result.andThen_ok, List.map_toArray, List.map_cons, List.map_nil, hs, hx, hr]
  exact hK _ _ (h ao cap w' h2 h3 h4)

set_option maxRecDepth 100000 in
set_option maxHeartbeats 400000 in
theorem wtext_any {w : World} {B : Nat} {G : Option Nat} {v : Value} {bs : List UInt8} (s : ByteArray) (h : Wr w B G v bs) (hb : (bs.length : Int) + 4 + s.size ≤ 140737488355328) :
    Calls Try.prog 53 #[.pointer (some ⟨B, 0, none⟩), .string s] w fun e w' => e = .returned (.tuple #[]) ∧ ∃ G' v', Wr w' B G' v' (bs ++ enc (u64 s.size) 4 ++ s.data.toList) ∧
      Kept (fun x => x ≠ B ∧ G ≠ some x) w w' ∧ (∀ x, G' = some x → G = some x ∨ w.heap.size ≤ x) := by
  have c := wfour_any s.size h (by omega)
  have HL : Hid (((bs ++ enc (u64 s.size) 4).length : Int) + s.size ≤ 140737488355328) := by
    show _ ≤ _
    simp [enc_length]; omega
  generalize bs ++ enc (u64 s.size) 4 = cur at *
  go_enter Try.func53, Try.ntmps53
  go_wp2_with (first
    | (go_at_call 81; refine Calls.mono c ?_; rintro e w1 ⟨rfl, G1, v1, h1, h2, h3⟩; have hc0 := cell_of_one h1.self; have hf0 := free_of_one h1.self)
    | (at_builtin; refine wpList_append_str rfl _ _ rfl v1 cur.length (cells cur) rfl h1.own s rfl (by have := HL.out; omega) ?_; intro ao cap w2 ho hgr hat; have hc2 : w2.cell? ⟨B, 0, none⟩ = some v1 := (hgr.cell_far _ h1.lt (by rw [h1.row]; exact Ne.symm h1.ne)).trans hc0; have hf2 : w2.frozen? ⟨B, 0, none⟩ = false := (hgr.frozen_far _ h1.lt (by rw [h1.row]; exact Ne.symm h1.ne)).trans hf0))
  go_end0
  obtain ⟨s1, s2, s3⟩ := h1.step (news := s.data.toList) (Kept.refl _ _) (by rw [List.length_append]; rfl) ho hgr hat
  obtain ⟨s4, s5⟩ := grow_trans h2 h3 s2 s3
  exact ⟨rfl, _, _, s1, s4, s5⟩

end Go.Proofs.Ytmcaoimgmgjjiaa

namespace Go.Proofs.Ytmcaoimgmgjjiaa
open Go.RowKit

set_option maxRecDepth 100000 in
set_option maxHeartbeats 400000 in
theorem done_any {w : World} {B : Nat} {G : Option Nat} {v : Value} {bs : List UInt8} (h : Wr w B G v bs) (hb : (bs.length : Int) ≤ 140737488355328) :
    Calls Try.prog 54 #[.pointer (some ⟨B, 0, none⟩)] w fun e w' => ∃ D, e = .returned (.slice (some ⟨D, 0, none⟩) bs.length bs.length) ∧ w'.heap[D]? = some (.cells (cells bs).toArray 5 (0, 0)) ∧ Kept (fun _ => True) w w' ∧ w.heap.size ≤ D := by
  obtain ⟨i, hi, hz0, hz1, hz2⟩ := info_parts Try.infoU8
  have hb' : i.bytes * bs.length ≤ 281474976710656 := by rw [hz2]; omega
  have hb2 : bs.length ≤ maxLen := by unfold maxLen; omega
  obtain ⟨ao, cap, rfl⟩ := own_shape h.own
  have hc0 := cell_of_one h.self
  have hlt := h.lt
  have HH : Hid (Has w ao bs) := own_has h.own
  go_enter Try.func54, Try.ntmps54
  go_wp2_with (at_make; refine wpList_make_full _ rfl _ _ _ rfl w.heap.size 5 i (.int .u8 0) 1 Try.underlying25 hi hz0 hz1 _ _ _ _ bs.length rfl rfl rfl rfl hb' hb2 (Nat.le_refl _) ?_; intro w1 hown hg; obtain ⟨cur, hrow, hcs⟩ := made_row hown; have hc1 : w1.cell? ⟨B, 0, none⟩ = some (.slice ao bs.length cap) := (hg.cell_far _ hlt (by simp)).trans hc0)
  have hk1 : Kept (fun _ => True) w w1 := (Kept.refl _ _).grown hg (fun k _ h => by cases h)
  obtain ⟨w3, hrun, hrow3, hk3, hs3⟩ := copy_fill w1 w.heap.size cur bs ao cap hrow hcs (HH.out.kept hk1 (fun _ _ => trivial))
  rw [hrun]
  go_wp2
  go_ret
  exact ⟨w.heap.size, rfl, hrow3, hk1.then hk3 (fun i hi _ => by omega), Nat.le_refl _⟩

end Go.Proofs.Ytmcaoimgmgjjiaa

namespace Go.Proofs.Ytmcaoimgmgjjiaa
open Go.RowKit

set_option maxRecDepth 100000 in
set_option maxHeartbeats 400000 in
theorem wbyte_any {w : World} {B : Nat} {G : Option Nat} {v : Value} {bs : List UInt8} (n : Int) (h : Wr w B G v bs) (hb : (bs.length : Int) + 1 ≤ 140737488355328) :
    Calls Try.prog 52 #[.pointer (some ⟨B, 0, none⟩), .int .i64 n] w fun e w' => e = .returned (.tuple #[]) ∧ ∃ G' v', Wr w' B G' v' (bs ++ enc (u64 n) 1) ∧
      Kept (fun x => x ≠ B ∧ G ≠ some x) w w' ∧ (∀ x, G' = some x → G = some x ∨ w.heap.size ≤ x) := by
  have c := wnumber_any (u64 n) 1 h (by decide) (u64_nonneg n) (by omega)
  unfold u64 at c
  go_enter Try.func52, Try.ntmps52
  go_wp2_with (go_at_call 80; refine Calls.mono c ?_; rintro e w1 ⟨rfl, G', v', h1, h2, h3⟩)
  go_end0
  exact ⟨rfl, G', v', h1, h2, h3⟩

end Go.Proofs.Ytmcaoimgmgjjiaa
