/-
  Texts of the proofs, 31 of 52.
-/
import Derived.Test.YtmcaoimgmgjjiaaWAD
import Derived.Test.YtmcaoimgmgjjiaaWX
import Derived.Test.YtmcaoimgmgjjiaaWE
import Derived.Test.YtmcaoimgmgjjiaaWP
import Derived.Test.YtmcaoimgmgjjiaaWAA
namespace Go.Proofs.Ytmcaoimgmgjjiaa
open Go.RowKit

theorem lv_one {w : World} {g : Nat} {e : TypeId} {x : Li} (h : w.heap[g]? = some (.cells (lcell x).toArray e (0, 0))) : Lv w (some ⟨g, 0, none⟩) [x] := by
  refine ⟨fun _ => ⟨g, 0, rfl, lt_of_block h, fun i hi => ?_⟩⟩
  have : i = 0 := by simpa using hi
  subst this
  have h2 : Ar w g e (lcell x) := h
  simpa using h2.range
theorem yieldsIf_buildL {ops : Array Oper} {S : World → Prop} {op : Oper} {a : Act} (hw : Region.wanted op (yielded ops a.tmps) = true) {T e : TypeId} (hT : LinkT T e) (x : Li) (y z : Operand) (ho : op.op = .build e #[(0, y), (1, z)]) (hy : a.eval y = .string ⟨x.t.toArray⟩) (hz : a.eval z = .agg (cells x.h).toArray) : YieldsIf Try.prog ops S op (.agg (lcell x).toArray) a :=
  .inl ⟨hw, fun w _ => by
    have e1 := run_buildL hT x w
    unfold execOp
    simp only [ho, Sem.run_bind, Sem.run_pure, List.map_toArray, List.map_cons, List.map_nil, hy, hz]
    simp [e1]⟩
theorem step_sliceL {w : World} {ops : Array Oper} {a : Act} {K : Act → World → Prop} {Q : Exit → Act → World → Prop} {E : Prop} {T e : TypeId} {d : Option Nat} {ty : TypeId} {p : String} {af : Array Edge} {y : Operand} (hT : LinkT T e) (x : Li) (hy : a.eval y = .agg (lcell x).toArray)
    (h : K (a.put d (.slice (some ⟨w.heap.size, 0, none⟩) 1 1)) (w.alloc (.cells (lcell x).toArray e))) : if Region.wanted ⟨d, .buildSlice T 1 #[(0, y)], ty, p, af, none⟩ (yielded ops a.tmps) = true then Oper.wp Try.prog ⟨d, .buildSlice T 1 #[(0, y)], ty, p, af, none⟩ a w K Q else E := by
  have hw : Region.wanted ⟨d, .buildSlice T 1 #[(0, y)], ty, p, af, none⟩ (yielded ops a.tmps) = true := by simp [Region.wanted]
  rw [if_pos hw]
  unfold Oper.wp execOp
  have e1 := run_sliceL hT x w
  simp only [Sem.run_bind, Sem.run_pure, List.map_toArray, List.map_cons, List.map_nil, hy]
  simp [e1, Oper.upon, Result.andThen]
  exact h
theorem step_append_links {T e : TypeId} {w : World} {ops : Array Oper} {o : Oper} {a : Act} {K : Act → World → Prop} {Q : Exit → Act → World → Prop} {E : Prop} (hT : LinkT T e) (hgd : o.guard = none) (sl y : Operand) (ho : o.op = .call { callee := .builtin .append, args := #[sl, y], argTypes := #[T, T] })
    (base : Nat) (v : Value) (xs : List Li) (hs : a.eval sl = v) (hown : Lo e w base v xs) (hb : base ≤ w.heap.size) (ao : Option Addr) (n c : Nat) (ys : List Li) (hl : ys.length = n) (hy : a.eval y = .slice ao n c) (hn : ao = none → c = 0) (hsrc : Lv w ao ys) (hm : xs.length + ys.length ≤ 3000000) (M : Nat) (hM : xs.length + n = M)
    (h : ∀ ao' cap' w', Lo e w' base (.slice ao' M cap') (xs ++ ys) → w.grownBy w' v.ownBlock → ((Value.slice ao' M cap').ownBlock = v.ownBlock ∨ (Value.slice ao' M cap').ownBlock = some w.heap.size) → K (a.put o.dst (.slice ao' M cap')) w') : if Region.wanted o (yielded ops a.tmps) = true then Oper.wp Try.prog o a w K Q else E := by
  subst hl hM
  have hw : Region.wanted o (yielded ops a.tmps) = true := by simp [Region.wanted, hgd]
  rw [if_pos hw]
  obtain ⟨ao', cap', w', hr, h2, h3, h4⟩ := append_links hT w o.type base v xs hown hb ao c ys hn hsrc hm
  unfold Oper.wp execOp
  simp only [ho, resolve, invoke, builtin, Sem.run_bind, Sem.run_pure, Result.andThen_ok, List.map_toArray, List.map_cons, List.map_nil, hs, hy, hr]
  exact h _ _ _ h2 h3 h4

set_option maxRecDepth 100000 in
set_option maxHeartbeats 2000000 in
theorem rmake_any {w : World} {ao : Option Addr} {cap : Nat} {ts : List (List UInt8)} (h : Tv w ao ts) (hn : ts.length ≤ 900) (hs : ∀ t ∈ ts, t.length ≤ 1500000) :
    Calls Try.prog 26 #[.slice ao ts.length cap] w fun e w' => ∃ a' c', e = .returned (.slice a' (mkC ts).length c') ∧ Lo 80 w' w.heap.size (.slice a' (mkC ts).length c') (mkC ts) ∧ Kept (fun _ => True) w w' := by
  have HV : Hid (Tv w ao ts) := h
  have HS : Hid (∀ t ∈ ts, t.length ≤ 1500000) := hs
  clear h hs
  go_enter Try.func26, Try.ntmps26
  go_wp2_with ((with_reducible refine w_alloc (d := some 4) arr32 ?_); intro w2 a4 k2 s2)
  have A4 : Ar w2 w.heap.size 78 (cells zero32) := a4
  obtain ⟨B, hB⟩ : ∃ B, B = w.heap.size := ⟨_, rfl⟩
  have HA : Hid (Ar w2 B 78 (cells zero32)) := by rw [hB]; exact A4
  have HB : Hid (B = w.heap.size) := hB
  have K2 : Hid (Kept (fun _ => True) w w2) := k2
  rw [← hB]
  clear a4 A4 k2 s2 hB
  go_loopw [3, 5] (fun v t wr => ∃ (k : Nat) (a' : Option Addr) (c' : Nat), k ≤ ts.length ∧ t = .int .i64 k ∧ v = .slice a' k c' ∧ Ar wr B 78 (cells (hAt zero32 ts k)) ∧ Lo 80 wr w.heap.size (.slice a' k c') (mkC (ts.take k)) ∧ Kept (fun _ => True) w wr) (fun _ t _ => ts.length - (intOf t).toNat)
  case atStart => exact ⟨0, none, 0, Nat.zero_le _, rfl, rfl, HA.out, Lo.nil _ _ _, K2.out⟩
  case round =>
    obtain ⟨k, a', c', hk, rfl, rfl, ar, ho, kr⟩ := hrel
    by_cases hlt : k < ts.length
    · obtain ⟨b, off, rfl, hb, hc⟩ := HV.out (by omega)
      have c0 := (kept_cell kr hb trivial).trans (hc k hlt)
      have i0 : (0 : Int) ≤ (k : Int) := by omega
      have i1 : (k : Int) < (ts.length : Int) := by omega
      have HM : Hid (mkC (ts.take (k + 1)) = mkC (ts.take k) ++ [⟨ts[k], nxt (hAt zero32 ts k) ts[k], nxt_len _ _⟩]) := mkC_take_succ ts k hlt
      have HN : Hid (hAt zero32 ts (k + 1) = nxt (hAt zero32 ts k) ts[k]) := hAt_succ zero32 ts k hlt
      have lt : (ts[k]).length ≤ 1500000 := HS.out _ (List.getElem_mem _)
      have lh : (hAt zero32 ts k).length = 32 := hAt_len zero32_len ts k
      have lm : (mkC (ts.take k)).length = k := by rw [mkC_length, List.length_take, Nat.min_eq_left hk]
      have AR : Hid (Ar wr B 78 (cells (hAt zero32 ts k))) := ar
      have HO : Hid (Lo 80 wr w.heap.size (.slice a' k c') (mkC (ts.take k))) := ho
      have hne : (Value.slice a' k c').ownBlock ≠ some B := ho.ne ar (by decide)
      have HM1 : Hid ((mkC (ts.take k)).length + [(⟨ts[k], nxt (hAt zero32 ts k) ts[k], nxt_len _ _⟩ : Li)].length ≤ 3000000) := by
        show _ ≤ _
        rw [lm, List.length_singleton]; omega
      have HM2 : Hid ((mkC (ts.take k)).length + 1 = k + 1) := by rw [lm]; rfl
      have hbr : b < wr.heap.size := Nat.lt_of_lt_of_le hb kr.size
      clear hc ar ho lm
      generalize hAt zero32 ts k = hd at *
      generalize ts[k] = tx at *
      have cn := fun (w0 : World) => rnext_any (w := w0) hd tx lh lt
      have ln := nxt_len hd tx
      generalize hx : (⟨tx, nxt hd tx, nxt_len hd tx⟩ : Li) = x at *
      have ex1 : x.t = tx := by rw [← hx]
      have ex2 : x.h = nxt hd tx := by rw [← hx]
      rw [← ex2] at HN cn ln
      rw [← ex1] at c0 cn
      clear hx ex1 ex2
      have l32 : (cells hd).length = 32 := by rw [cells_length, lh]
      have ln2 : (cells x.h).length = 32 := by rw [cells_length, ln]
      have on2 := cells_one x.h
      have ih : (Try.prog.info? 78).map (·.size) = some (cells hd).length := by rw [l32]; exact arr32.size
      have ih2 : (Try.prog.info? 78).map (·.size) = some (cells x.h).length := by rw [ln2]; exact arr32.size
      have ct : ∀ W, Kept (fun _ => True) wr W → W.cell? ⟨b, off + k, none⟩ = some (.string ⟨x.t.toArray⟩) := fun W hW => (kept_cell hW hbr trivial).trans c0
      have hbB : b ≠ B := by have := HB.out; omega
      have KR : Hid (Kept (fun _ => True) w wr) := kr
      clear c0 kr lh ln lt
      go_wp2
      refine Gz.begin (fun W => Kept (fun _ => True) wr W) (fun i => decide (i = 6)) (by kernel_rfl) ?_
      refine Gz.tk (i := 0) (oi := ⟨some 12, .load 78 (.tmp 4), 78, _, _, none⟩) (v := _) rfl (by kernel_rfl) (fun _ _ _ h => h) (yieldsIf_load_mid (by rfl) _ _ rfl (B) (0) rfl (cells hd) _ (fun W hW => (AR.out.kept hW trivial).range) Try.underlying78 rfl (ih)) (Kept.refl _ _).drew ?_
      try simp only [Act.put, lyA, ly0, ly1]
      refine Gz.tk (i := 1) (oi := ⟨some 13, .move (.tmp 0), 60, _, _, none⟩) (v := ?_) rfl (by kernel_rfl) (fun _ _ _ h => h) (Or.inl ⟨by rfl, ?hy1⟩) (Kept.refl _ _).drew ?_
      case hy1 => (intro W hS; (try dsimp only at hS); go_simp; try with_reducible rfl)
      try simp only [Act.put, lyA, ly0, ly1]
      refine Gz.tk (i := 2) (oi := ⟨some 14, .move (.tmp 5), 3, _, _, none⟩) (v := ?_) rfl (by kernel_rfl) (fun _ _ _ h => h) (Or.inl ⟨by rfl, ?hy2⟩) (Kept.refl _ _).drew ?_
      case hy2 => (intro W hS; (try dsimp only at hS); go_simp; try with_reducible rfl)
      try simp only [Act.put, lyA, ly0, ly1]
      refine Gz.tk (i := 3) (oi := ⟨some 15, .indexAddr 60 (.tmp 13) (.tmp 14), 0, _, _, none⟩) (v := ?_) rfl (by kernel_rfl) (fun _ _ _ h => h) (Or.inl ⟨by rfl, ?hy3⟩) (Kept.refl _ _).drew ?_
      case hy3 => (intro W hS; (try dsimp only at hS); go_simp; try with_reducible rfl)
      try simp only [Act.put, lyA, ly0, ly1]
      refine Gz.tk (i := 4) (oi := ⟨some 16, .load 9 (.tmp 15), 9, _, _, none⟩) (v := ?_) rfl (by kernel_rfl) (fun _ _ _ h => h) (Or.inl ⟨by rfl, ?hy4⟩) (Kept.refl _ _).drew ?_
      case hy4 => (intro W hS; (try dsimp only at hS); go_simp; try with_reducible rfl)
      try simp only [Act.put, lyA, ly0, ly1]
      refine Gz.one (i := 5) (o := ⟨some 17, .call { callee := .value (.func 56), args := #[.tmp 12, .tmp 16], argTypes := #[78, 9] }, 78, _, _, none⟩) (by kernel_rfl) rfl (fun K hK => ?_)
      go_simp
      with_reducible refine Calls.mono (cn _) ?_
      rintro e w5 ⟨rfl, k5⟩
      have s5 : Kept (fun _ => True) wr w5 := (Kept.refl _ _).drew.trans k5
      try go_wp2_with fail
      refine hK.out _ _ (fun _ => s5) ?_
      clear hK K
      try simp only [Act.put, lyA, ly0, ly1]
      refine Gz.one (i := 6) (o := ⟨none, .store 78 (.tmp 4) (.tmp 17), 0, _, _, none⟩) (by kernel_rfl) rfl (fun K hK => ?_)
      refine step_storeH (b := B) (xs := cells x.h) (old := cells hd) rfl rfl (AR.out.kept s5 trivial) l32 ln2 on2 ?_
      intro w6 a6 k6 s6
      refine hK.out _ _ (fun hEarly => by cases hEarly) ?_
      clear hK K
      try simp only [Act.put, lyA, ly0, ly1]
      refine Gz.done (by kernel_rfl) ?_ _
      have K6 : Hid (Kept (· ≠ B) wr w6) := (s5.mono (fun _ _ _ => trivial)).trans k6
      have hB6 : ∀ y, (Value.slice a' k c').ownBlock = some y → y ≠ B := fun y hy e => hne (by rw [hy, e])
      have HZ : Hid (w.heap.size ≤ (w6.drew.alloc (.cells (lcell x).toArray 80)).heap.size) := Nat.le_trans (Nat.le_trans KR.out.size K6.out.size) ((Kept.refl (fun _ => True) w6).drew.alloc _).size
      have A6 : Hid (Ar w6 B 78 (cells x.h)) := a6
      have hby : ∀ W, Kept (fun y => (Value.slice a' k c').ownBlock ≠ some y) w6 W → W.cell? ⟨b, off + k, none⟩ = some (.string ⟨x.t.toArray⟩) := fun W hW => (kept_cell hW (Nat.lt_of_lt_of_le hbr K6.out.size) (fun e => by have := HO.out.ge e; omega)).trans ((kept_cell K6.out hbr hbB).trans (ct wr (Kept.refl _ _)))
      have hne' := hne
      clear a6 k6 s6 ct cn s5 k5
      go_wp2_with fail
      refine Gz.begin (fun W => Kept (fun y => (Value.slice a' k c').ownBlock ≠ some y) w6 W) (fun _ => false) (by kernel_rfl) ?_
      refine Gz.tk (i := 0) (oi := ⟨some 18, .move (.tmp 3), 65, _, _, none⟩) (v := ?_) rfl (by kernel_rfl) (fun _ _ _ h => h) (Or.inl ⟨by rfl, ?hy0⟩) (Kept.refl _ _).drew ?_
      case hy0 => (intro W hS; (try dsimp only at hS); go_simp; try with_reducible rfl)
      try simp only [Act.put, lyA, ly0, ly1]
      refine Gz.tk (i := 1) (oi := ⟨some 19, .move (.tmp 0), 60, _, _, none⟩) (v := ?_) rfl (by kernel_rfl) (fun _ _ _ h => h) (Or.inl ⟨by rfl, ?hy1⟩) (Kept.refl _ _).drew ?_
      case hy1 => (intro W hS; (try dsimp only at hS); go_simp; try with_reducible rfl)
      try simp only [Act.put, lyA, ly0, ly1]
      refine Gz.tk (i := 2) (oi := ⟨some 20, .move (.tmp 5), 3, _, _, none⟩) (v := ?_) rfl (by kernel_rfl) (fun _ _ _ h => h) (Or.inl ⟨by rfl, ?hy2⟩) (Kept.refl _ _).drew ?_
      case hy2 => (intro W hS; (try dsimp only at hS); go_simp; try with_reducible rfl)
      try simp only [Act.put, lyA, ly0, ly1]
      refine Gz.tk (i := 3) (oi := ⟨some 21, .indexAddr 60 (.tmp 19) (.tmp 20), 0, _, _, none⟩) (v := ?_) rfl (by kernel_rfl) (fun _ _ _ h => h) (Or.inl ⟨by rfl, ?hy3⟩) (Kept.refl _ _).drew ?_
      case hy3 => (intro W hS; (try dsimp only at hS); go_simp; try with_reducible rfl)
      try simp only [Act.put, lyA, ly0, ly1]
      refine Gz.tk (i := 4) (oi := ⟨some 22, .load 9 (.tmp 21), 9, _, _, none⟩) (v := ?_) rfl (by kernel_rfl) (fun _ _ _ h => h) (Or.inl ⟨by rfl, ?hy4⟩) (Kept.refl _ _).drew ?_
      case hy4 => (intro W hS; (try dsimp only at hS); go_simp; try with_reducible rfl)
      try simp only [Act.put, lyA, ly0, ly1]
      refine Gz.tk (i := 5) (oi := ⟨some 23, .load 78 (.tmp 4), 78, _, _, none⟩) (v := _) rfl (by kernel_rfl) (fun _ _ _ h => h) (yieldsIf_load_mid (by rfl) _ _ rfl (B) (0) rfl (cells x.h) _ (fun W hW => (A6.out.kept hW hne).range) Try.underlying78 rfl (ih2)) (Kept.refl _ _).drew ?_
      try simp only [Act.put, lyA, ly0, ly1]
      refine Gz.tk (i := 6) (oi := ⟨some 24, .build 80 #[(0, .tmp 22), (1, .tmp 23)], 80, _, _, none⟩) (v := _) rfl (by kernel_rfl) (fun _ _ _ h => h) (yieldsIf_buildL (by rfl) linkR x (.tmp 22) (.tmp 23) rfl rfl rfl) (Kept.refl _ _).drew ?_
      try simp only [Act.put, lyA, ly0, ly1]
      refine Gz.one (i := 7) (o := ⟨some 25, .buildSlice 65 1 #[(0, .tmp 24)], 65, _, _, none⟩) (by kernel_rfl) rfl (fun K hK => ?_)
      refine step_sliceL linkR x rfl ?_
      refine hK.out _ _ (fun _ => (Kept.refl _ _).drew.alloc _) ?_
      clear hK K
      try simp only [Act.put, lyA, ly0, ly1]
      refine Gz.one (i := 8) (o := ⟨some 26, .call { callee := .builtin Builtin.append, args := #[.tmp 18, .tmp 25], argTypes := #[65, 65] }, 65, _, _, none⟩) (by kernel_rfl) rfl (fun K hK => ?_)
      refine step_append_links linkR rfl (.tmp 18) (.tmp 25) rfl w.heap.size (.slice a' k c') (mkC (ts.take k)) rfl (((HO.out.kept K6.out hB6).all (Kept.refl _ _).drew).all ((Kept.refl _ _).alloc _)) HZ.out (some ⟨w6.heap.size, 0, none⟩) 1 1 [x] rfl rfl (by simp) (lv_one (heap_alloc_new w6.drew _)) HM1.out (k + 1) HM2.out ?_
      intro a8 c8 w8 ho8 hg8 at8
      have k8 : Kept (fun y => (Value.slice a' k c').ownBlock ≠ some y) w6 w8 := ((Kept.refl _ _).drew.alloc _).grown hg8 (fun _ _ e h => h e)
      have HO8 : Hid (Lo 80 w8 w.heap.size (.slice a8 (k + 1) c8) (mkC (ts.take k) ++ [x])) := ho8
      clear ho8 hg8 at8
      refine hK.out _ _ (fun _ => k8) ?_
      clear hK K
      try simp only [Act.put, lyA, ly0, ly1]
      refine Gz.tk (i := 9) (oi := ⟨some 3, .assign (.tmp 26), 65, _, _, none⟩) (v := ?_) rfl (by kernel_rfl) (fun _ _ _ h => h) (Or.inl ⟨by rfl, ?hy9⟩) k8 ?_
      case hy9 => (intro W hS; (try dsimp only at hS); go_simp; try with_reducible rfl)
      try simp only [Act.put, lyA, ly0, ly1]
      refine Gz.done (by kernel_rfl) ?_ _
      go_wp2_with fail
      go_roundw
      case rel =>
        refine ⟨k + 1, a8, c8, by omega, by go_num, rfl, ?_, by rw [HM.out]; exact HO8.out, ?_⟩
        · rw [HN.out]; exact A6.out.kept k8 hne'
        · have hb2 := HB.out
          exact (KR.out.then K6.out (fun i hi _ => by omega)).then k8 (fun i hi _ e => by have := HO.out.ge e; omega)
      case measure => simp [intOf]; omega
    · have i1 : ¬ (k : Int) < (ts.length : Int) := by omega
      have hke : k = ts.length := by omega
      subst hke
      rw [List.take_length] at ho
      have HW : Hid (Lo 80 wr w.heap.size (.slice a' ts.length c') (mkC ts)) := ho
      clear ho ar
      go_wp2
      go_ret
      rw [mkC_length]
      exact ⟨a', c', rfl, HW.out, kr⟩

end Go.Proofs.Ytmcaoimgmgjjiaa

namespace Go.Proofs.Ytmcaoimgmgjjiaa
open Go.RowKit

structure Rf (w : World) (B : Nat) (vb : Value) (bs : List UInt8) (s : RS) : Prop where
  self : ∃ at_ why wh : Int, w.heap[B]? = some (.cells #[vb, .int .i64 at_, .bool (decide (s.why ≠ 0)), .int .i64 why, .int .i64 wh] 97 (0, 0)) ∧ (s.why = 0 → at_ = s.pos) ∧ (s.why ≠ 0 → why = s.why ∧ wh = s.pos)
  pos : s.pos ≤ bs.length
  big : (bs.length : Int) ≤ 140737488355328

theorem Rf.lt {w : World} {B : Nat} {vb : Value} {bs : List UInt8} {s : RS} (h : Rf w B vb bs s) : B < w.heap.size := by
  obtain ⟨_, _, _, h, _⟩ := h.self; exact lt_of_block h
theorem Rf.kept {p : Nat → Prop} {w w' : World} {B : Nat} {vb : Value} {bs : List UInt8} {s : RS} (h : Rf w B vb bs s) (hk : Kept p w w') (hB : p B) : Rf w' B vb bs s := by
  have hl := h.lt
  obtain ⟨a, y, z, h1, h2⟩ := h.self
  exact ⟨⟨a, y, z, (hk.block B hl hB).trans h1, h2⟩, h.pos, h.big⟩

theorem five_cell {w : World} {b : Nat} {x0 x1 x2 x3 x4 : Value} {t : TypeId} (h : w.heap[b]? = some (.cells #[x0, x1, x2, x3, x4] t (0, 0))) :
    w.cell? ⟨b, 0, none⟩ = some x0 ∧ w.cell? ⟨b, 1, none⟩ = some x1 ∧ w.cell? ⟨b, 2, none⟩ = some x2 ∧ w.cell? ⟨b, 3, none⟩ = some x3 ∧ w.cell? ⟨b, 4, none⟩ = some x4 ∧ (∀ k, w.frozen? ⟨b, k, none⟩ = false) := by
  refine ⟨by simp [World.cell?, h], by simp [World.cell?, h], by simp [World.cell?, h], by simp [World.cell?, h], by simp [World.cell?, h], fun k => by simp [World.frozen?, h]⟩
theorem five_set1 {w : World} {b : Nat} {x0 x1 x2 x3 x4 : Value} {t : TypeId} (h : w.heap[b]? = some (.cells #[x0, x1, x2, x3, x4] t (0, 0))) (u : Value) : (w.setCell ⟨b, 1, none⟩ u).heap[b]? = some (.cells #[x0, u, x2, x3, x4] t (0, 0)) := by
  have := heap_setCell_same w b 1 _ t u h; simpa using this
theorem five_set2 {w : World} {b : Nat} {x0 x1 x2 x3 x4 : Value} {t : TypeId} (h : w.heap[b]? = some (.cells #[x0, x1, x2, x3, x4] t (0, 0))) (u : Value) : (w.setCell ⟨b, 2, none⟩ u).heap[b]? = some (.cells #[x0, x1, u, x3, x4] t (0, 0)) := by
  have := heap_setCell_same w b 2 _ t u h; simpa using this
theorem five_set3 {w : World} {b : Nat} {x0 x1 x2 x3 x4 : Value} {t : TypeId} (h : w.heap[b]? = some (.cells #[x0, x1, x2, x3, x4] t (0, 0))) (u : Value) : (w.setCell ⟨b, 3, none⟩ u).heap[b]? = some (.cells #[x0, x1, x2, u, x4] t (0, 0)) := by
  have := heap_setCell_same w b 3 _ t u h; simpa using this
theorem five_set4 {w : World} {b : Nat} {x0 x1 x2 x3 x4 : Value} {t : TypeId} (h : w.heap[b]? = some (.cells #[x0, x1, x2, x3, x4] t (0, 0))) (u : Value) : (w.setCell ⟨b, 4, none⟩ u).heap[b]? = some (.cells #[x0, x1, x2, x3, u] t (0, 0)) := by
  have := heap_setCell_same w b 4 _ t u h; simpa using this

set_option maxHeartbeats 400000 in
theorem frefuse_yes {w : World} {B : Nat} {vb : Value} {bs : List UInt8} {s : RS} (why : Int) (p : Nat) (h : Rf w B vb bs s) (hs : s.why = 0) (hw : why ≠ 0) (hp : p ≤ bs.length) :
    Calls Try.prog 87 #[.pointer (some ⟨B, 0, none⟩), .int .i64 why, .int .i64 p] w fun e w' => e = .returned (.tuple #[]) ∧ Rf w' B vb bs ⟨p, why⟩ ∧ Kept (· ≠ B) w w' := by
  obtain ⟨⟨a, y, z, hh, h1, h2⟩, hpos, hbig⟩ := h
  have e0 : decide (s.why ≠ 0) = false := by simp [hs]
  rw [e0] at hh
  obtain ⟨c0, c1, c2, c3, c4, hf⟩ := five_cell hh
  have g1 := five_set2 hh (.bool true)
  obtain ⟨_, _, _, d3, _, _⟩ := five_cell g1
  have g2 := five_set3 g1 (.int .i64 why)
  obtain ⟨_, _, _, _, d4, _⟩ := five_cell g2
  have g3 := five_set4 g2 (.int .i64 (p : Int))
  have HW : Hid (why ≠ 0) := hw
  have G3 := g3
  clear h1 h2 hs e0 hw g1 g2 g3
  go_enter Try.func87, Try.ntmps87
  go_wp2
  go_end0
  refine ⟨rfl, ⟨⟨a, why, p, ?_, fun h => absurd h HW.out, fun _ => ⟨rfl, rfl⟩⟩, hp, hbig⟩, (((Kept.refl _ _).setCell (by simp) _).setCell (by simp) _).setCell (by simp) _⟩
  have e1 : decide ((⟨p, why⟩ : RS).why ≠ 0) = true := by simpa using HW.out
  rw [e1]
  exact G3

set_option maxHeartbeats 400000 in
theorem fend_any {w : World} {B : Nat} {ao : Option Addr} {cap : Nat} {bs : List UInt8} {s : RS} (h : Rf w B (.slice ao bs.length cap) bs s) :
    Calls Try.prog 48 #[.pointer (some ⟨B, 0, none⟩)] w fun e w' => e = .returned (.tuple #[.int .i64 (s.end_ bs).1, .int .i64 (s.end_ bs).2]) ∧ ∃ n, w' = w.drewN n := by
  obtain ⟨⟨a, y, z, hh, h1, h2⟩, hpos, hbig⟩ := h
  by_cases hs : s.why = 0
  · have e0 : decide (s.why ≠ 0) = false := by simp [hs]
    rw [e0] at hh
    obtain ⟨c0, c1, c2, c3, c4, hf⟩ := five_cell hh
    have ha := h1 hs
    subst ha
    have HS : Hid (s.why = 0) := hs
    clear h1 h2 hs e0
    by_cases hl : s.pos < bs.length
    · have hl' : (s.pos : Int) < (bs.length : Int) := by omega
      have HL : Hid (s.pos < bs.length) := hl
      clear hl
      go_enter Try.func48, Try.ntmps48
      go_wp2
      go_quiet (fail)
      go_wp2
      go_quiet (fail)
      go_wp2
      go_ret2
      exact ⟨by simp [RS.end_, HS.out, HL.out], _, drew_two _ _ _⟩
    · have hl' : ¬ ((s.pos : Int) < (bs.length : Int)) := by omega
      have HL : Hid (¬ s.pos < bs.length) := hl
      clear hl
      go_enter Try.func48, Try.ntmps48
      go_wp2
      go_quiet (fail)
      go_wp2
      go_ret2
      exact ⟨by simp [RS.end_, HS.out, HL.out], _, rfl⟩
  · have e0 : decide (s.why ≠ 0) = true := by simpa using hs
    rw [e0] at hh
    obtain ⟨rfl, rfl⟩ := h2 hs
    obtain ⟨c0, c1, c2, c3, c4, hf⟩ := five_cell hh
    have HS : Hid (s.why ≠ 0) := hs
    clear h1 h2 hs e0
    go_enter Try.func48, Try.ntmps48
    go_wp2
    go_quiet (fail)
    go_wp2
    go_ret2
    exact ⟨by simp [RS.end_, HS.out], _, rfl⟩

end Go.Proofs.Ytmcaoimgmgjjiaa
