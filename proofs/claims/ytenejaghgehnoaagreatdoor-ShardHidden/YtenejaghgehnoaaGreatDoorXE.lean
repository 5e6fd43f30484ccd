/-
  Texts of the proofs, 5 of 6.
-/
import Derived.Test.YtenejaghgehnoaaGreatDoorXD
import Derived.Test.YtenejaghgehnoaaGreatDoorXC
import Derived.Deep.RegionHeld3
import Derived.Test.YtenejaghgehnoaaGreatDoorXB
import Derived.Test.YtenejaghgehnoaaGreatDoorXA
namespace Go.Proofs.YtenejaghgehnoaaGreatDoor
open Go.RowKit Go.Maps

theorem run_more (ts : List Ty) (most : Nat) {ops : List Oq} {i : Nat} (h : i < ops.length) (l : Css) (xs : List (List UInt8)) : runP ts most (ops.drop i) l xs i = if (stepP ts most l ops[i]).2.2 = 0 then runP ts most (ops.drop (i + 1)) (stepP ts most l ops[i]).1 (xs ++ [(stepP ts most l ops[i]).2.1]) (i + 1) else ⟨[], [], i, (stepP ts most l ops[i]).2.2⟩ := by
  rw [List.drop_eq_getElem_cons h]
  rfl
theorem Df.plainly {w : World} {D C L n m made most : Nat} {tv : Value} {ts : List Ty} {f g : List UInt8 → Option Sa} (h : Df w D C L n m tv made most ts f g) : Plainly (fun i => i ≠ L ∧ i ≠ D) w := by
  obtain ⟨es, clock, e⟩ := h.left.isMap
  have hp : Plainly (· ≠ L) w := (Plainly.noMap w).mono (fun i hi q => hi es clock (q ▸ e))
  exact hp.and h.plainD
theorem Txs.step {w w' : World} {base D L : Nat} {v : Value} {ss : List (List UInt8)} (t : Txs w base v ss) {cs : Array Value} {fr : Nat × Nat} (hD : w.heap[D]? = some (.cells cs 160 fr)) {es : Array MapEntry} {clock : Nat} (hL : w.heap[L]? = some (.map es clock)) (k : Kept (fun i => i ≠ L ∧ i ≠ D) w w') : Txs w' base v ss := by
  refine t.kept k (fun b hb => ?_)
  rcases t.2 with ⟨rfl, _⟩ | ⟨g, cap, cur, rfl, _, hg, _⟩
  · simp [Value.ownBlock] at hb
  · obtain rfl : g = b := by simpa [Value.ownBlock] using hb
    refine ⟨fun e => ?_, fun e => ?_⟩
    · rw [e, hL] at hg
      cases hg
    · rw [e, hD] at hg
      simp only [Option.some.injEq, Obj.cells.injEq] at hg
      exact absurd hg.2.1 (by decide)
/-- What a run leaves. -/
structure Rq (w w' : World) (D C L n m : Nat) (tv : Value) (most : Nat) (ts : List Ty) (f g : List UInt8 → Option Sa) (ops : List Oq) (R : Rn) (k : Nat) (tx : Value) : Prop where
  texts : Txs w' w.heap.size tx R.texts
  kept : Kept (fun i => i ≠ L ∧ i ≠ D) w w'
  goes : R.why = 0 → ∃ g' made', Df w' D C L n (m + ops.length) tv made' most ts f g' ∧ Dl f g' R.left k made' ∧ (∀ x, g' x ≠ none ↔ g x ≠ none ∨ ∃ o ∈ ops, o.cas = x)
/-- While it runs. -/
structure Rr (w wr : World) (D C L n m : Nat) (tv : Value) (most : Nat) (ts : List Ty) (f g : List UInt8 → Option Sa) (l0 : Css) (ops : List Oq) (k i made : Nat) (g' : List UInt8 → Option Sa) (l : Css) (xs : List (List UInt8)) (tx : Value) : Prop where
  texts : Txs wr w.heap.size tx xs
  kept : Kept (fun i => i ≠ L ∧ i ≠ D) w wr
  df : Df wr D C L n (m + i) tv made most ts f g'
  dl : Dl f g' l k made
  ok : Cok ts l
  same : runP ts most ops l0 [] 0 = runP ts most (ops.drop i) l xs i
  few : xs.length = i
  made : made ≤ m + i
  dom : ∀ x, g' x ≠ none ↔ g x ≠ none ∨ ∃ o ∈ ops.take i, o.cas = x

set_option maxRecDepth 100000 in
set_option maxHeartbeats 8000000 in
theorem run_any {w : World} {D C L n m made most : Nat} {tv ov : Value} {ts : List Ty} {f g : List UInt8 → Option Sa} {l : Css} {k : Nat} {ops : List Oq} (h : Df w D C L n m tv made most ts f g) (d : Dl f g l k made) (ht : Tok ts) (hc : Cok ts l) (hTab : Tab w) (ho : Ov w ov ops) (hs : ∀ o ∈ ops, o.cas.length ≤ 281474976710656) (hm : m + ops.length ≤ 1000000) (hn : n ≤ 1000000) (hmost : most ≤ 9223372036854775807) (hmade : made ≤ m) :
    Calls Tryz.prog 103 #[.pointer (some ⟨D, 0, none⟩), ov] w fun e w' => ∃ tx, e = .returned (.tuple #[tx, .int .i64 ((runP ts most ops l [] 0).at' : Nat), .int .i64 ((runP ts most ops l [] 0).why : Nat)]) ∧ Rq w w' D C L n m tv most ts f g ops (runP ts most ops l [] 0) k tx := by
  obtain ⟨ao, cap, rfl, hl⟩ := ho.form
  have HO : Hid (Ov w (.slice ao ops.length cap) ops) := ho
  have HD : Hid (Df w D C L n m tv made most ts f g) := h
  have HT : Hid (Tok ts) := ht
  have HTb : Hid (Tab w) := hTab
  have HSh : Hid (∀ o ∈ ops, o.cas.length ≤ 281474976710656) := hs
  have H0 : Hid (Rr w w D C L n m tv most ts f g l ops k 0 made g l [] (.slice none 0 0)) := ⟨Txs.nil _ _, Kept.refl _ _, h, d, hc, rfl, rfl, hmade, fun x => by simp⟩
  clear ho h d ht hc hTab hs
  go_enter Tryz.func103, Tryz.ntmps103
  go_wp2_with fail
  go_loopw [7, 14] (fun tt ti wr => ∃ (i made' : Nat) (g' : List UInt8 → Option Sa) (l' : Css) (xs : List (List UInt8)), i ≤ ops.length ∧ ti = .int .i64 i ∧ Rr w wr D C L n m tv most ts f g l ops k i made' g' l' xs tt) (fun _ ti _ => ops.length - (intOf ti).toNat)
  case atStart => exact ⟨0, made, g, l, [], Nat.zero_le _, rfl, H0.out⟩
  case round =>
    obtain ⟨i, made', g', l', xs, hi, rfl, hr⟩ := hrel
    obtain ⟨to', tc, rfl⟩ := own_shape_any hr.texts
    have HR : Hid (Rr w wr D C L n m tv most ts f g l ops k i made' g' l' xs (.slice to' xs.length tc)) := hr
    clear hr
    by_cases hlt : i < ops.length
    · obtain ⟨b, off, rfl, hb, q0, q1, q2, q3⟩ := (HO.out.plain HR.out.kept HD.out.plainly).at i hlt
      have HM : Hid _ := run_more ts most hlt l' xs
      have HOc : Hid ((ops[i]).cas.length ≤ 281474976710656) := HSh.out _ (List.getElem_mem hlt)
      have HTk : Hid (ops.take (i + 1) = ops.take i ++ [ops[i]]) := List.take_succ_eq_append_getElem hlt
      have i1 : (i : Int) < (ops.length : Int) := by omega
      have i0 : (0 : Int) ≤ (i : Int) := by omega
      clear hb
      generalize ops[i] = o at *
      have ka := (Kept.refl (fun _ => True) wr).alloc (.cells #[.int .i64 o.kind, .string ⟨o.cas.toArray⟩, .string ⟨o.name.toArray⟩, .int .i64 o.n] 61)
      have HKa : Hid _ := ka
      have cs := step_any (HR.out.df.all ka) HR.out.dl HT.out HR.out.ok ((HTb.out.plain HR.out.kept HD.out.plainly).all ka) (by omega) hn hmost HR.out.made HOc.out
      unfold opV at cs
      clear ka
      go_upto_region 6 with (go_at_call 154; refine Calls.mono cs ?_; rintro e w4 ⟨rfl, hst⟩; have HST : Hid (Stq _ w4 D C L n (m + i) tv most ts f g' l' k o) := hst; clear cs hst)
      have HK4 : Hid (Kept (fun i => i ≠ L ∧ i ≠ D) w w4) := HR.out.kept.trans ((HKa.out.mono (fun _ _ _ => trivial)).trans HST.out.kept)
      have HTx : Hid (Txs w4 w.heap.size (.slice to' xs.length tc) xs) := by
        have hd := HR.out.df.all HKa.out
        obtain ⟨es, clock, hLm⟩ := hd.left.isMap
        exact Txs.step (HR.out.texts.kept (p := fun _ => True) HKa.out (fun _ _ => trivial)) hd.self hLm HST.out.kept
      clear HKa q0 q1 q2 q3
      obtain ⟨R, hR⟩ : ∃ R, stepP ts most l' o = R := ⟨_, rfl⟩
      have HRR : Hid (stepP ts most l' o = R) := hR
      rw [hR] at HM ⊢
      by_cases h0 : R.2.2 = 0
      · have h0' : (((R.2.2 : Nat) : Int) != 0) = false := by simp [h0]
        obtain ⟨g2, made2, hdf, hdl, hdom, hmd⟩ := HST.out.goes (by rw [hR]; exact h0)
        rw [hR] at hdl
        have HDF : Hid (Df w4 D C L n (m + i + 1) tv made2 most ts f g2) := hdf
        have HDL : Hid (Dl f g2 R.1 k made2) := hdl
        have HDM : Hid (∀ x, g2 x ≠ none ↔ g' x ≠ none ∨ x = o.cas) := hdom
        have HMD : Hid (made2 ≤ m + i + 1) := hmd
        have HOK : Hid (Cok ts R.1) := by
          have := step_ok HT.out HR.out.ok (most := most) (o := o) (by rw [hR]; exact h0)
          rw [hR] at this
          exact this
        have HH0 : Hid _ := h0
        clear h0 hdf hdl hdom hmd hR HST
        have hG := heap_alloc_new w4 (.cells #[.string ⟨R.2.1.toArray⟩] 9)
        have kb := (Kept.refl (fun _ => True) w4).alloc (.cells #[.string ⟨R.2.1.toArray⟩] 9)
        have HKb : Hid _ := kb
        have HG : Hid _ := hG
        have HTx2 : Hid (Txs _ w.heap.size (.slice to' xs.length tc) xs) := HTx.out.kept (p := fun _ => True) kb (fun _ _ => trivial)
        have HSz : Hid (w.heap.size ≤ w4.heap.size) := HK4.out.size
        clear hG kb
        go_wp2_with (at_builtin; refine wpList_append_text rfl (.tmp 29) (.tmp 31) rfl w.heap.size (.slice to' xs.length tc) xs rfl HTx2.out (Nat.le_trans HSz.out HKb.out.size) w4.heap.size rfl R.2.1 (0, 0) HG.out (by have := HR.out.few; omega) ?_; intro ao1 cap1 w5 t5 g5 at5; have HT5 : Hid (Txs w5 w.heap.size (.slice ao1 (xs.length + 1) cap1) (xs ++ [R.2.1])) := t5; have HG5 : Hid _ := g5; clear t5 g5 at5)
        have HK5 : Hid (Kept (fun i => i ≠ L ∧ i ≠ D) w w5 ∧ Df w5 D C L n (m + i + 1) tv made2 most ts f g2) := by
          have hd := HDF.out.all HKb.out
          obtain ⟨es, clock, hLm⟩ := hd.left.isMap
          have ho := HTx2.out.2
          have kg : Kept (fun i => (Value.slice to' xs.length tc).ownBlock ≠ some i) _ w5 := (Kept.refl _ _).grown HG5.out (fun _ _ e h => h e)
          have hlow : ∀ i, (Value.slice to' xs.length tc).ownBlock = some i → w.heap.size ≤ i := fun i e => (World.ownsRow.lt HTx2.out i e).1
          refine ⟨(HK4.out.trans (HKb.out.mono (fun _ _ _ => trivial))).then kg (fun i hi _ e => ?_), ?_⟩
          · have := hlow i e
            omega
          · have hne : ∀ b, (Value.slice to' xs.length tc).ownBlock = some b → ∃ cs fr, (w4.alloc (.cells #[.string ⟨R.2.1.toArray⟩] 9)).heap[b]? = some (.cells cs 9 fr) := fun b hb => by
              rcases ho with ⟨e, _⟩ | ⟨g, cap, cur, e, _, hg, _⟩
              · rw [e] at hb
                simp [Value.ownBlock] at hb
              · rw [e] at hb
                obtain rfl : g = b := by simpa [Value.ownBlock] using hb
                exact ⟨_, _, hg⟩
            have k5 := (HK4.out.trans (HKb.out.mono (fun _ _ _ => trivial))).then kg (fun i hi _ e => by
              have := hlow i e
              omega)
            refine ⟨(kg.block D (lt_of_block hd.self) (fun e => ?_)).trans hd.self, HD.out.types.plain k5 HD.out.plainly, HD.out.cases.plain k5 ⟨HD.out.ne, Ne.symm HD.out.dl.2⟩ HD.out.plainly, hd.left.plain2 kg (fun e => ?_) (fun b cs fr hb e => ?_) (fun b cs fr hb e => ?_), hd.ne⟩
            · obtain ⟨cs, fr, q⟩ := hne D e
              rw [hd.self] at q
              simp only [Option.some.injEq, Obj.cells.injEq] at q
              exact absurd q.2.1 (by decide)
            · obtain ⟨cs, fr, q⟩ := hne L e
              rw [hLm] at q
              cases q
            · obtain ⟨cs', fr', q⟩ := hne b e
              rw [hb] at q
              simp only [Option.some.injEq, Obj.cells.injEq] at q
              exact absurd q.2.1 (by decide)
            · obtain ⟨cs', fr', q⟩ := hne b e
              rw [hb] at q
              simp only [Option.some.injEq, Obj.cells.injEq] at q
              exact absurd q.2.1 (by decide)
        go_wp2_with fail
        go_roundw
        case rel =>
          refine ⟨i + 1, made2, g2, R.1, xs ++ [R.2.1], by omega, by go_num, ⟨HT5.out, HK5.out.1, HK5.out.2, HDL.out, HOK.out, ?_, ?_, HMD.out, fun x => ?_⟩⟩
          · rw [HR.out.same, HM.out, if_pos HH0.out]
          · rw [List.length_append, HR.out.few]
            rfl
          · rw [HDM.out x, HR.out.dom x, HTk.out]
            simp only [List.mem_append, List.mem_singleton]
            constructor
            · rintro ((h | ⟨q, h1, h2⟩) | h)
              · exact .inl h
              · exact .inr ⟨q, .inl h1, h2⟩
              · exact .inr ⟨o, .inr rfl, h.symm⟩
            · rintro (h | ⟨q, h1 | h1, h2⟩)
              · exact .inl (.inl h)
              · exact .inl (.inr ⟨q, h1, h2⟩)
              · subst h1
                exact .inr h2.symm
        case measure => simp [intOf]; omega
      · have h0' : (((R.2.2 : Nat) : Int) != 0) = true := by simpa using h0
        have HH0 : Hid _ := h0
        clear h0 hR
        go_wp2_with fail
        go_ret3
        have e := HR.out.same
        rw [HM.out, if_neg HH0.out] at e
        rw [e]
        exact ⟨_, rfl, Txs.nil _ _, HK4.out, fun h => absurd h HH0.out⟩
    · obtain rfl : i = ops.length := by omega
      have i1 : ¬ ((ops.length : Int) < (ops.length : Int)) := by omega
      go_wp2_with fail
      go_ret3
      have e := HR.out.same
      rw [List.drop_length] at e
      have e' : runP ts most ops l [] 0 = ⟨l', xs, 0, 0⟩ := e
      rw [e']
      have hd := HR.out.dom
      rw [List.take_length] at hd
      exact ⟨_, rfl, HR.out.texts, HR.out.kept, fun _ => ⟨g', made', HR.out.df, HR.out.dl, hd⟩⟩

end Go.Proofs.YtenejaghgehnoaaGreatDoor

namespace Go.Proofs.YtenejaghgehnoaaGreatDoor
open Go.RowKit Go.Maps

set_option maxRecDepth 100000 in
set_option maxHeartbeats 4000000 in
theorem begin_any {w : World} {a : Ft} {n : Nat} {tv : Value} {h : Lk} {s : Sh} (m : Sm w a n tv h s) (most : Nat) :
    Calls Tryz.prog 102 #[.pointer (some ⟨a.S, 0, none⟩), .int .i64 (most : Nat)] w fun e w' => ∃ D L, e = .returned (.pointer (some ⟨D, 0, none⟩)) ∧ Df w' D a.C L n 0 tv 0 most s.types (look s.cs) (fun _ => none) ∧ w.heap.size ≤ D ∧ w.heap.size ≤ L ∧ Kept (fun _ => True) w w' := by
  have hmm := @run_makeMap Tryz.prog
  have C0 := fun W (q : Kept (fun _ => True) w W) => (kept_cell q m.slt trivial).trans m.cell0
  have C1 := fun W (q : Kept (fun _ => True) w W) => (kept_cell q m.slt trivial).trans m.cellC
  obtain ⟨ao, cap, rfl, _⟩ := m.types.form
  have HM : Hid (Sm w a n (.slice ao s.types.length cap) h s) := m
  have HS : Hid (∀ cs : Array Value, w.heap.size ≤ ((w.drew.alloc (.map #[] 0)).alloc (.cells cs 160)).heap.size) := fun cs => by simp; omega
  clear m
  go_enter Tryz.func102, Tryz.ntmps102
  go_upto_region 1 with fail
  go_region_held3 (fun W => Kept (fun _ => True) w W) (first | assumption | (repeat (first | exact Kept.refl _ _ | assumption | refine Kept.drew ?_ | refine Kept.alloc ?_ _))) (fail)
  go_wp2_with fail
  go_ret
  have k1 : Kept (fun _ => True) w (w.drew.alloc (.map #[] 0)) := (Kept.refl (fun _ => True) w).drew.alloc _
  have k2 := (Kept.refl (fun _ => True) (w.drew.alloc (.map #[] 0))).alloc (.cells #[.slice ao s.types.length cap, .map (some a.C), .map (some w.heap.size), .int .i64 0, .int .i64 (most : Nat)] 160)
  have hb := heap_alloc_new (w.drew.alloc (.map #[] 0)) (.cells #[.slice ao s.types.length cap, .map (some a.C), .map (some w.heap.size), .int .i64 0, .int .i64 (most : Nat)] 160)
  have hL := Cmap.made w.drew
  have hC := HM.out.cases.lt
  rw [show (w.drew.alloc (.map #[] 0)).heap.size = w.heap.size + 1 by simp] at hb
  refine ⟨w.heap.size + 1, w.heap.size, rfl, ⟨hb, HM.out.types.all (k1.trans k2), HM.out.cases.all (k1.trans k2), ?_, by omega⟩, by omega, Nat.le_refl _, k1.trans k2⟩
  exact hL.all k2

/-- Elements of one map put over those of another. -/
def overF (f g : List UInt8 → Option Sa) (left : Lit → Bool) (x : List UInt8) : Option Sa := if left (.string x) = true then f x else orF f g x
set_option maxRecDepth 100000 in
set_option maxHeartbeats 4000000 in
/-- maps.Copy(dst, nil) -/
theorem copyM_nil {w : World} {C : Nat} : Calls Tryz.prog 100 #[.map (some C), .map none] w fun e w' => e = .returned (.tuple #[]) ∧ Kept (fun _ => True) w w' := by
  have hrg := run_range_nilMap (P := Tryz.prog) w 110 9 70 Tryz.underlying110
  have hnx : ∀ ty, (Instr.next (.pointer (some ⟨w.heap.size, 0, none⟩)) false ty).run Tryz.prog (w.alloc (.mapIter none 0 #[] 0)) = _ := fun ty => run_next_nilMap _ ty 0 0 #[]
  have K1 : Hid (Kept (fun _ => True) w (w.alloc (.mapIter none 0 #[] 0))) := (Kept.refl _ _).alloc _
  go_enter Tryz.func100, Tryz.ntmps100
  go_wp2_with fail
  go_loopw [8] (fun _ wr => wr = w.alloc (.mapIter none 0 #[] 0)) (fun _ _ => 0)
  case atStart => rfl
  case round =>
    subst hrel
    go_wp2_with fail
    go_end0
    exact ⟨rfl, K1.out⟩

/-- What was found under a name of a map with this datum. -/
theorem Cmap.found {D0 : DataW Unit} {fv : List UInt8 → Option Sr} (hh : Holds codeS D0 fv) {x : List UInt8} {r : Sr} (hat : ∀ d, D0.atKey (.string x) d = srD r) : fv x = some r := by
  cases hf : fv x with
  | none =>
    have := Maps.has_true_of_atKey hat
    rw [hh.no x hf] at this
    cases this
  | some u =>
    have := (hh.yes x u hf (.agg [])).symm.trans (hat (.agg []))
    rw [codeS.inj u r this]
theorem overF_put {f g : List UInt8 → Option Sa} {left : Lit → Bool} {x : List UInt8} {s : Sa} (hg : g x = some s) : putM (overF f g left) x s = overF f g (fun z => left z && !z.sameKey (.string x)) := by
  funext y
  unfold putM overF
  simp only [sameText]
  by_cases e : y = x
  · subst e
    simp [orF, hg]
  · simp [e]

set_option maxRecDepth 100000 in
set_option maxHeartbeats 4000000 in
theorem copyM_any {w : World} {C L n m : Nat} {f g : List UInt8 → Option Sa} (hC : Cmap w C n f) (hL : Cmap w L m g) (hne : C ≠ L) (hn : n + m ≤ 1000000) :
    Calls Tryz.prog 100 #[.map (some C), .map (some L)] w fun e w' => e = .returned (.tuple #[]) ∧ Cmap w' C (n + m) (orF f g) ∧ Kept (· ≠ C) w w' := by
  obtain ⟨fv, ⟨D0, ho, hh⟩, h1, h2⟩ := hL
  have HH : Hid (Holds codeS D0 fv) := hh
  have H1 : Hid (∀ x, fv x = none ↔ g x = none) := h1
  have H2 : Hid (∀ x r s, fv x = some r → g x = some s → StW w r s) := h2
  have HC : Hid (Cmap w C n f) := hC
  have hsz := ho.size_le
  have hCL := hC.lt
  obtain ⟨esC, clC, hCm⟩ := hC.isMap
  have HCm : Hid _ := hCm
  have hLL := ho.lt
  clear hC hh h1 h2 hCm
  go_enter Tryz.func100, Tryz.ntmps100
  go_wp2_with (first | (at_range; refine wpList_range_own _ rfl _ 110 rfl 9 70 text_keyed Tryz.underlying110 _ L m D0 rfl ho ?_; intro w0 hrg0 hg0 hs0) | go_in)
  go_frame
  have hr0 : w.heap.size ≤ w.heap.size := Nat.le_refl _
  have k0 : Kept (fun _ => True) w w0 := (Kept.refl _ _).grown hg0 (fun _ _ e => by cases e)
  have HK0 : Hid _ := k0
  generalize hr : w.heap.size = r at hrg0 hr0 ⊢
  have HR : Hid (w.heap.size = r) := hr
  go_loopw [8] (fun _ wr => ∃ left cnt, wr.ranges Tryz.prog 9 srR L r m D0 left cnt ∧ cnt ≤ m ∧ Cmap wr C (n + (m - cnt)) (overF f g left) ∧ Kept (· ≠ C) w wr) (fun _ wr => wr.rangeLeft L r)
  case atStart =>
    refine ⟨_, _, hrg0, hsz, ?_, HK0.out.mono (fun _ _ _ => trivial)⟩
    refine ((HC.out.all HK0.out).mono (by omega)).congr (fun x => ?_)
    unfold overF orF
    split
    · rfl
    · rename_i hx
      have : fv x = none := by
        cases hf : fv x with
        | none => rfl
        | some u => exact absurd (Maps.has_true_of_atKey (HH.out.yes x u hf)) hx
      rw [(H1.out x).1 this]
      rfl
  case round =>
    obtain ⟨left, cnt, hrg, hcm, hmc, hkw⟩ := hrel
    have HMC : Hid (Cmap wr C (n + (m - cnt)) (overF f g left)) := hmc
    have HW : Hid (Kept (· ≠ C) w wr) := hkw
    clear hmc hkw
    go_wp2_with (first | (at_next; refine wpList_next_ranges _ rfl _ rfl 9 text_keyed srR (fun x : List UInt8 => .string ⟨x.toArray⟩) (fun u : Sr => u.val) (fun key kl hkey => by obtain ⟨x, rfl, _⟩ := textKey_inv hkey; exact ⟨x, rfl⟩) (fun v y hv => by obtain ⟨x, rfl, _⟩ := srR_inv v y hv; exact ⟨x, rfl⟩) L r m D0 left cnt rfl hrg ?_ ?_) | go_in)
    · intro _ hl0
      go_wp2_with fail
      go_end0
      refine ⟨rfl, (HMC.out.mono (by omega)).congr (fun x => ?_), HW.out⟩
      unfold overF
      rw [hl0]
      rfl
    · rintro x u kl yd yp w1 cnt1 hkey hlx hv hat hrg1 hlt hg1 hs1 hen
      obtain ⟨x', ex, rfl, hxl⟩ := textKey_inv hkey
      obtain rfl : x = x' := by simpa using ex
      try dsimp only at hen
      try dsimp only at hv
      obtain ⟨u', ev, ez⟩ := srR_inv _ _ hv
      cases ez
      obtain rfl : u = u' := by
        have := codeS.reads u
        have h' := codeS.reads u'
        change srR u.val = _ at this
        change srR u'.val = _ at h'
        rw [ev, h'] at this
        simp only [Option.some.injEq, Prod.mk.injEq, and_true] at this
        exact (codeS.inj _ _ this).symm
      have hfx := Cmap.found HH.out hat
      obtain ⟨s, hgs⟩ := Option.ne_none_iff_exists'.1 (show g x ≠ none from fun q => (by rw [(H1.out x).2 q] at hfx; cases hfx))
      obtain ⟨t0, ⟨a1, n1, c1⟩, ⟨a2, n2, c2⟩, ⟨a3, n3, c3⟩⟩ := u
      change _ = Result.ok (Value.tuple #[_, .agg #[.string ⟨t0.toArray⟩, .slice a1 n1 c1, .slice a2 n2 c2, .slice a3 n3 c3]]) _ at hen
      have hks : Kept (fun i => i ≠ C) w w1 := HW.out.grown hg1 (fun i hi e => by cases e; omega)
      have kr : Kept (· ≠ r) wr w1 := (Kept.refl _ _).grown hg1 (fun i _ e h => h (by cases e; rfl))
      have hpl : Plainly (· ≠ C) w := (Plainly.noMap w).mono (fun i hi q => hi esC clC (q ▸ HCm.out))
      have hW := (H2.out x _ s hfx hgs).plain hks hpl
      have hrC : C ≠ r := by omega
      have hrm : NoMap wr r := by
        obtain ⟨es, clock, since, seen, c0, hb, F, hs, hD, hr', rest⟩ := hrg
        intro es' clock' e
        rw [hr'] at e
        simp at e
      have hpr : Plainly (· ≠ r) wr := by
        obtain ⟨es, clock, since, seen, c0, hb, F, hs, hD, hr', rest⟩ := hrg
        refine ⟨fun b o y e q => ?_, fun b o y e q => ?_, fun b o y e q => ?_, fun b o y e q => ?_⟩
        · subst q; simp [World.cell?, hr'] at e
        · subst q; rw [hr'] at e; cases e
        · subst q; rw [hr'] at e; cases e
        · subst q; simp [World.cell?, hr'] at e
      have ka := (Kept.refl (fun _ => True) w1).alloc (.cells #[.string ⟨t0.toArray⟩, .slice a1 n1 c1, .slice a2 n2 c2, .slice a3 n3 c3] 70)
      have hC1 := (HMC.out.plain kr hrC hpr).all ka
      obtain ⟨w3, hst, hm3, k3, z3⟩ := hC1.store (x := x) (by unfold maxLen at hxl; omega) (by omega) (hW.plain ka (Plainly.all _))
      have HM3 : Hid (Cmap w3 C (n + (m - cnt) + 1) (overF f g (fun z => left z && !z.sameKey (.string x)))) := by
        show Cmap _ _ _ _
        rw [← overF_put hgs]
        exact hm3
      have HK3 : Hid (Kept (· ≠ C) w w3) := (hks.trans (ka.mono (fun _ _ _ => trivial))).trans k3
      have HR3 : Hid (w3.ranges Tryz.prog 9 srR L r m D0 (fun z => left z && !z.sameKey (.string x)) cnt1) := ranges_kept (ranges_kept hrg1 ka trivial trivial) k3 (Ne.symm hne) (Ne.symm hrC)
      have HMs : Hid (wr.rangeLeft L r = cnt ∧ cnt1 < cnt) := ⟨hrg.left_eq, hlt⟩
      change (Instr.mapUpdate _ _ _ (.agg #[.string ⟨t0.toArray⟩, .slice a1 n1 c1, .slice a2 n2 c2, .slice a3 n3 c3])).run _ _ = _ at hst
      clear hks kr hpl hW hrC hrm hpr ka hC1 hm3 k3 z3 hrg1 hrg hv hat ev hfx hkey ex hlx hg1 hs1
      go_wp2_with fail
      go_roundw
      case rel => exact ⟨_, _, HR3.out, by have := HMs.out.2; omega, HM3.out.mono (by have := HMs.out.2; omega), HK3.out⟩
      case measure =>
        rw [HR3.out.left_eq, HMs.out.1]
        exact HMs.out.2

end Go.Proofs.YtenejaghgehnoaaGreatDoor

namespace Go.Proofs.YtenejaghgehnoaaGreatDoor
open Go.RowKit Go.Maps

/-- An answer's value. -/
def ansV (k : Nat) (tx : Value) (at' : Int) (why : Nat) (data : Value) : Value := .agg #[.int .i64 (k : Nat), tx, .int .i64 at', .int .i64 (why : Nat), data]
/-- What is so of a shard whenever it is called. -/
structure Sok (s : Sh) : Prop where
  types : Tok s.types
  cases : Cok s.types s.cs
  locks : ∀ z ∈ s.lk, z.c.length ≤ 1000 ∧ z.t ≠ []
/-- None of these blocks. -/
def NB (B : Lab → Option Nat) (k : Nat) : Prop := ∀ x, B x ≠ some k
/-- What attempt leaves: refused ahead of running; refused; done. -/
def AttP (w w' : World) (a : Ft) (n : Nat) (tv : Value) (h : Lk) (s : Sh) (tx : List UInt8) (ops : List Oq) (most : Nat) (e : Ending) : Prop :=
  ∃ B', Fstep a w w' { a with B := B' } ∧
    ((staleP s ops = true ∧ e = .returned (.tuple #[ansV 4 (.slice none 0 0) 0 0 (.slice none 0 0), .map none]) ∧ Sm w' { a with B := B' } (n + ops.length) tv h s) ∨
     (staleP s ops = false ∧ busyP s.lk tx ops = true ∧ e = .returned (.tuple #[ansV 3 (.slice none 0 0) 0 0 (.slice none 0 0), .map none]) ∧ Sm w' { a with B := B' } (n + ops.length) tv h s) ∨
     (staleP s ops = false ∧ busyP s.lk tx ops = false ∧ (runP s.types most ops s.cs [] 0).why ≠ 0 ∧ e = .returned (.tuple #[ansV 2 (.slice none 0 0) (runP s.types most ops s.cs [] 0).at' (runP s.types most ops s.cs [] 0).why (.slice none 0 0), .map none]) ∧ Sm w' { a with B := B' } (n + ops.length) tv h s) ∨
     (staleP s ops = false ∧ busyP s.lk tx ops = false ∧ (runP s.types most ops s.cs [] 0).why = 0 ∧ ∃ txv L g, e = .returned (.tuple #[ansV 1 txv 0 0 (.slice none 0 0), .map (some L)]) ∧ Txs w' w.heap.size txv (runP s.types most ops s.cs [] 0).texts ∧ Sm w' { a with B := B' } (n + ops.length) tv (gives h (tag tx) (wantsP ops)) { s with lk := lgives s.lk tx (wantsP ops) } ∧ Cmap w' L ops.length g ∧ w.heap.size ≤ L ∧ ¬ ({ a with B := B' } : Ft).Mine L ∧ (∀ x, look (runP s.types most ops s.cs [] 0).left x = orF (look s.cs) g x)))

theorem five_free {w : World} {b : Nat} {x0 x1 x2 x3 x4 : Value} {t : TypeId} (h : w.heap[b]? = some (.cells #[x0, x1, x2, x3, x4] t (0, 0))) : (w.cell? ⟨b, 0, none⟩ = some x0 ∧ w.cell? ⟨b, 1, none⟩ = some x1 ∧ w.cell? ⟨b, 2, none⟩ = some x2 ∧ w.cell? ⟨b, 3, none⟩ = some x3 ∧ w.cell? ⟨b, 4, none⟩ = some x4) ∧ w.frozen? ⟨b, 0, none⟩ = false ∧ w.frozen? ⟨b, 1, none⟩ = false ∧ w.frozen? ⟨b, 2, none⟩ = false ∧ w.frozen? ⟨b, 3, none⟩ = false ∧ w.frozen? ⟨b, 4, none⟩ = false :=
  ⟨five_cell h, by simp [World.frozen?, h], by simp [World.frozen?, h], by simp [World.frozen?, h], by simp [World.frozen?, h], by simp [World.frozen?, h]⟩
/-- Five cells of a box are written. -/
def put5 (w : World) (D : Nat) (a b c d e : Value) : World := ((((w.setCell ⟨D, 0, none⟩ a).setCell ⟨D, 1, none⟩ b).setCell ⟨D, 2, none⟩ c).setCell ⟨D, 3, none⟩ d).setCell ⟨D, 4, none⟩ e
theorem put5_at {w : World} {D : Nat} {x y z u v : Value} {T : TypeId} {fr : Nat × Nat} (h : w.heap[D]? = some (.cells #[x, y, z, u, v] T fr)) (a b c d e : Value) : (put5 w D a b c d e).heap[D]? = some (.cells #[a, b, c, d, e] T fr) := by
  have := set_cell (set_cell (set_cell (set_cell (set_cell h 0 a) 1 b) 2 c) 3 d) 4 e
  simpa [put5] using this
theorem put5_kept {p : Nat → Prop} {w : World} {D : Nat} (hp : ¬ p D) (a b c d e : Value) : Kept p w (put5 w D a b c d e) := (((((Kept.refl p w).setCell hp _).setCell hp _).setCell hp _).setCell hp _).setCell hp _
theorem put5_new {p : Nat → Prop} {w0 w : World} {D : Nat} (h : Kept p w0 w) (hD : w0.heap.size ≤ D) (a b c d e : Value) : Kept p w0 (put5 w D a b c d e) := ((((h.setNew hD _).setNew hD _).setNew hD _).setNew hD _).setNew hD _
theorem Tryz.sizeAns : (Tryz.prog.info? 35).map (·.size) = some 5 := by kernel_rfl
theorem load_ans {w : World} {g : Nat} {cs : Array Value} {t : TypeId} {fr : Nat × Nat} (hg : w.heap[g]? = some (.cells cs t fr)) (hc : cs.size = 5) : (loadVar 35 ⟨g, 0, none⟩).run Tryz.prog w = .ok (.agg cs) w :=
  run_loadVar_row w g t 35 cs fr _ hg Tryz.underlying35 rfl (by rw [hc]; exact Tryz.sizeAns)
theorem results_ans {fn : Func} {p : Nat} (h : fn.results = #[.cell p 35]) (tmps : Array Value) (w : World) {g : Nat} {cs : Array Value} {t : TypeId} {fr : Nat × Nat} (hp : tmps.getD p undef = .pointer (some ⟨g, 0, none⟩)) (hg : w.heap[g]? = some (.cells cs t fr)) (hc : cs.size = 5) :
    (results fn tmps).run Tryz.prog w = .ok (.agg cs) w :=
  results_cell_row h tmps w g t cs fr _ hp hg Tryz.underlying35 rfl (by rw [hc]; exact Tryz.sizeAns)
/-- Texts stay where another variable is written. -/
theorem Txs.aside {w w' : World} {base R : Nat} {v : Value} {ss : List (List UInt8)} (t : Txs w base v ss) {cs : Array Value} {ty : TypeId} {fr : Nat × Nat} (hR : w.heap[R]? = some (.cells cs ty fr)) (hty : ty ≠ 9) (k : Kept (· ≠ R) w w') : Txs w' base v ss := by
  refine t.kept k (fun b hb e => ?_)
  rcases t.2 with ⟨rfl, _⟩ | ⟨g, cap, cur, rfl, _, hg, _⟩
  · simp [Value.ownBlock] at hb
  · obtain rfl : g = b := by simpa [Value.ownBlock] using hb
    rw [e, hR] at hg
    simp only [Option.some.injEq, Obj.cells.injEq] at hg
    exact hty hg.2.1
theorem stale_take {s : Sh} {ops : List Oq} {i : Nat} (hi : i < ops.length) : staleP s (ops.take (i + 1)) = (staleP s (ops.take i) || decide (s.hs (hashOf (ops[i]).cas) ≠ 1)) := by
  unfold staleP
  rw [List.take_succ_eq_append_getElem hi, List.any_append]
  simp
theorem stale_some {s : Sh} {ops : List Oq} {i : Nat} (hi : i < ops.length) (h : s.hs (hashOf (ops[i]).cas) ≠ 1) : staleP s ops = true := List.any_eq_true.2 ⟨ops[i], List.getElem_mem hi, by simpa using h⟩
theorem count_look {l : Css} (h : (nams l).Nodup) : Count (look l) l.length :=
  ⟨nams l, h, by simp [nams], fun x => by
    rw [← Classical.not_not (a := x ∈ nams l), ← look_none]⟩
theorem lgive_bound {lk : List Lo} {x c : List UInt8} {wr : Bool} {N : Nat} (h : ∀ z ∈ lk, z.c.length ≤ N ∧ z.t ≠ []) (hc : c.length ≤ N) (hx : x ≠ []) : ∀ z ∈ lgive lk x c wr, z.c.length ≤ N ∧ z.t ≠ [] := by
  intro z hz
  rcases List.mem_append.1 hz with hz | hz
  · obtain ⟨y, hy, rfl⟩ := List.mem_map.1 hz
    rw [(lup_tc x c wr y).1, (lup_tc x c wr y).2]
    exact h y hy
  · split at hz
    · simp at hz
    · simp only [List.mem_singleton] at hz
      subst hz
      exact ⟨hc, hx⟩
theorem lgives_bound {x : List UInt8} {N : Nat} (hx : x ≠ []) {l : List (List UInt8 × Bool)} {lk : List Lo} (h : ∀ z ∈ lk, z.c.length ≤ N ∧ z.t ≠ []) (hl : ∀ q ∈ l, q.1.length ≤ N) : ∀ z ∈ lgives lk x l, z.c.length ≤ N ∧ z.t ≠ [] := by
  induction l generalizing lk with
  | nil => exact h
  | cons q l ih => exact ih (lgive_bound h (hl q (List.mem_cons_self ..)) hx) (fun q' hq => hl q' (List.mem_cons_of_mem _ hq))

end Go.Proofs.YtenejaghgehnoaaGreatDoor

namespace Go.Proofs.YtenejaghgehnoaaGreatDoor
open Go.RowKit Go.Maps

theorem out_del (l : List (List UInt8 × List Oq)) (x : List UInt8) (y : List UInt8) : look (delL l x) y = cutM (look l) x y := by
  rw [look_del]
  rfl
theorem out_put (l : List (List UInt8 × Nat)) (x : List UInt8) (k : Nat) (y : List UInt8) : outF (putL l x k) y = putM (outF l) x (k : Int) y := by
  unfold outF putM
  rw [look_put]
  split <;> rfl

set_option maxRecDepth 100000 in
set_option maxHeartbeats 8000000 in
theorem decide_any {w : World} {a : Ft} {n : Nat} {tv : Value} {h : Lk} {s : Sh} {tx : List UInt8} (m : Sm w a n tv h s) (hx : tx.length ≤ 140737488355327) (hn : n ≤ 900000) (k : Nat) :
    Calls Tryz.prog 105 #[.pointer (some ⟨a.S, 0, none⟩), .string ⟨tx.toArray⟩, .int .i64 (k : Nat)] w fun e w' => e = .returned (.tuple #[]) ∧ ∃ B', Sm w' { a with B := B' } (n + 1) tv (freed h (tag tx)) (decideP s tx k) ∧ Fstep a w w' { a with B := B' } := by
  have HM : Hid (Sm w a n tv h s) := m
  have CT := fun W (q : Kept (NB a.B) w W) => (kept_cell q m.slt (fun x => by
    have := m.self
    unfold Af at this
    exact Tw.notMine m.tb this x)).trans m.cellT
  have HCH : Hid (∀ W, Calls Tryz.prog 99 #[.string ⟨tx.toArray⟩] W fun e w' => e = .returned (.string ⟨(tag tx).toArray⟩) ∧ w' = W) := fun W => holder_any tx hx
  have HCF : Hid (∀ W, Kept (fun _ => True) w W → Calls Tryz.prog 98 #[.pointer (some ⟨a.T, 0, none⟩), .string ⟨(tag tx).toArray⟩] W fun e w' => ∃ (q : Bool) (B2 : Lab → Option Nat), e = .returned (.bool q) ∧ Tb w' a.T n B2 (freed h (tag tx)) ∧ Stp a.B W w' B2) := fun W q => by
    have hm := HM.out.all q
    refine (free_any hm.tb (x := tag tx) (by simp [tag]; omega) (by omega) (fun c y e => ?_)).mono fun e w' h => ?_
    · have := (hm.tb.short e).1
      unfold maxLen at this
      omega
    · obtain ⟨b, B2, h1, _, h3, h4⟩ := h
      exact ⟨b, B2, h1, h3, h4⟩
  clear m
  go_enter Tryz.func105, Tryz.ntmps105
  go_upto_region 0 with fail
  go_cut [12] from 6 to 12 (fun _ wx => ∃ (B2 : Lab → Option Nat), Tb wx a.T n B2 (freed h (tag tx)) ∧ Stp a.B w wx B2)
  case first =>
    clear HM
    have hR0 : Kept (NB a.B) w w.drew := (Kept.refl _ _).drew
    go_region_held3 (fun W => Kept (NB a.B) w W) (first | assumption | (repeat (first | exact Kept.refl _ _ | assumption | refine Kept.drew ?_))) (first
      | (go_at_call 99; refine Calls.mono (HCH.out _) ?_; rintro e _ ⟨rfl, rfl⟩)
      | (go_at_call 98; refine Calls.mono (HCF.out _ (by first | assumption | (repeat (first | exact Kept.refl _ _ | assumption | refine Kept.drew ?_)))) ?_; rintro e v6 ⟨b6, B2, rfl, tb, st⟩; have HTB6 : Hid (Tb v6 a.T n B2 (freed h (tag tx))) := tb; have HS6 : Hid (Stp a.B w v6 B2) := (Stp.of a.B ((Kept.refl (fun _ => True) w).drew)).trans st; have s6 : Kept (NB a.B) w v6 := HS6.out.kept; clear tb st))
    all_goals
      go_wp2_with fail
      go_meet
      exact ⟨_, HTB6.out, HS6.out⟩
  case rest =>
    obtain ⟨B2, tb, st⟩ := hcut
    obtain ⟨sm1, fs1⟩ := HM.out.locked (Nat.le_refl _) tb st (freed_alone HM.out.alone _) (rep_freed HM.out.rep tx)
    have c1 := sm1.cellP
    obtain ⟨w2, hdr, hp2, k2, z2⟩ := sm1.preps.drop (x := tx) (by omega) 0
    obtain ⟨sm2, fs2⟩ := sm1.prepsTo (ps' := delL s.ps tx) (Nat.le_refl _) k2 (hp2.congr (fun y => out_del s.ps tx y))
    have c2 := sm2.cellO
    obtain ⟨w3, hst, ho3, k3, z3⟩ := sm2.outs.store Tryz.underlying112 (x := tx) (by omega) (by omega) (k : Int)
    obtain ⟨sm3, fs3⟩ := sm2.outsTo (os' := putL s.outs tx k) (Nat.le_succ n) k3 (ho3.congr (fun y => out_put s.outs tx k y))
    have HM3 : Hid (Sm w3 { a with B := B2 } (n + 1) tv (freed h (tag tx)) (decideP s tx k)) := sm3
    have HF3 : Hid (Fstep a w w3 { a with B := B2 }) := fs1.trans (fs2.trans fs3)
    clear tb st sm1 fs1 hp2 k2 z2 sm2 fs2 ho3 k3 z3 sm3 fs3 CT
    change (Instr.mapUpdate _ _ _ (.int .i64 (k : Nat))).run _ _ = _ at hst
    dsimp only at c1 c2 hdr hst
    go_wp2_with fail
    go_end0
    exact ⟨rfl, B2, HM3.out, HF3.out⟩

end Go.Proofs.YtenejaghgehnoaaGreatDoor

namespace Go.Proofs.YtenejaghgehnoaaGreatDoor
open Go.RowKit Go.Maps

/-- What a command that carries no Data answers and leaves. -/
def DoP (w w' : World) (a : Ft) (n : Nat) (tv : Value) (r : An × Sh) (e : Ending) : Prop :=
  ∃ B' h' txv, e = .returned (ansV r.1.kind txv r.1.at' r.1.why (.slice none 0 0)) ∧ Txs w' w.heap.size txv r.1.texts ∧ Sm w' { a with B := B' } n tv h' r.2 ∧ Fstep a w w' { a with B := B' }
theorem out_one {l : List (List UInt8 × Nat)} {x : List UInt8} : (outF l x).getD 0 = 1 ↔ look l x = some 1 := by
  unfold outF
  cases look l x with
  | none => simp
  | some k =>
    simp only [Option.map_some, Option.getD_some, Option.some.injEq]
    constructor
    · intro h
      have : (k : Int) = 1 := h
      omega
    · rintro rfl
      rfl

set_option maxRecDepth 100000 in
set_option maxHeartbeats 4000000 in
theorem abort_any {w : World} {a : Ft} {n : Nat} {tv : Value} {h : Lk} {s : Sh} {tx : List UInt8} (m : Sm w a n tv h s) (hx : tx.length ≤ 140737488355327) (hn : n ≤ 900000) :
    Calls Tryz.prog 47 #[.pointer (some ⟨a.S, 0, none⟩), .string ⟨tx.toArray⟩] w fun e w' => DoP w w' a (n + 1) tv (abortP s tx) e := by
  have h0 := heap_alloc_new w (.cells #[.int .i64 0, .slice none 0 0, .int .i64 0, .int .i64 0, .slice none 0 0] 35)
  have k0 := (Kept.refl (fun _ => True) w).alloc (.cells #[.int .i64 0, .slice none 0 0, .int .i64 0, .int .i64 0, .slice none 0 0] 35)
  have m1 := m.all k0
  have c1 := m1.cellO
  have hl : _ = Result.ok (Value.int .i64 _) _ := m1.outs.look1 Tryz.underlying112 (zeroNum _) (x := tx) (by omega)
  have cd := decide_any m1 hx hn 2
  have HM : Hid _ := m1
  have HB : Hid _ := h0
  have HK : Hid _ := k0
  have HO1 : Hid _ := out_one (l := s.outs) (x := tx)
  clear m m1 h0 k0
  go_enter Tryz.func47, Tryz.ntmps47
  go_upto_region 1 with fail
  generalize w.alloc (.cells #[.int .i64 0, .slice none 0 0, .int .i64 0, .int .i64 0, .slice none 0 0] 35) = w1 at *
  have HM1 : Hid (Sm w1 a n tv h s) := HM.out
  generalize (outF s.outs tx).getD 0 = v at *
  by_cases hv : v = 1
  · have hv' : (v == 1) = true := by simpa using hv
    have HE : Hid (abortP s tx = (An.of 6, s)) := by
      show _ = _
      unfold abortP
      rw [if_pos (HO1.out.1 hv)]
    obtain ⟨⟨z0, z1, z2, z3, z4⟩, f0, f1, f2, f3, f4⟩ := five_free HB.out
    clear cd hv
    go_wp2_with fail
    refine bodyPost_ret (results_ans rfl _ _ rfl (put5_at HB.out _ _ _ _ _) rfl) rfl ?_
    rw [HE.out]
    exact ⟨a.B, h, _, rfl, Txs.nil _ _, (HM1.out.ans HB.out ⟨_, _, _, rfl⟩ ⟨_, _, _, rfl⟩ (put5_kept (p := (· ≠ w.heap.size)) (by simp) _ _ _ _ _)).mono (Nat.le_succ n), put5_new HK.out (Nat.le_refl _) _ _ _ _ _ |>.mono (fun _ _ _ => trivial), fun _ h => .inl h⟩
  · have hv' : (v == 1) = false := by simpa using hv
    have HE : Hid (abortP s tx = (An.of 5, decideP s tx 2)) := by
      show _ = _
      unfold abortP
      rw [if_neg (fun q => hv (HO1.out.2 q))]
    clear hv
    go_upto_region 4 with (go_at_call 105; refine Calls.mono cd ?_; rintro e w2 ⟨rfl, B2, sm2, fs2⟩; have HM2 : Hid (Sm w2 { a with B := B2 } (n + 1) tv (freed h (tag tx)) (decideP s tx 2)) := sm2; have HF2 : Hid (Fstep a w1 w2 { a with B := B2 }) := fs2; clear cd sm2 fs2)
    have hB2 := (HF2.out.kept.block _ (lt_of_block HB.out) (HM1.out.cells_ne HB.out (by decide))).trans HB.out
    have HB2 : Hid _ := hB2
    obtain ⟨⟨z0, z1, z2, z3, z4⟩, f0, f1, f2, f3, f4⟩ := five_free hB2
    clear hB2 hl c1
    go_wp2_with fail
    refine bodyPost_ret (results_ans rfl _ _ rfl (put5_at HB2.out _ _ _ _ _) rfl) rfl ?_
    rw [HE.out]
    have hf := (Fstep.of a HK.out).trans HF2.out
    exact ⟨B2, _, _, rfl, Txs.nil _ _, HM2.out.ans HB2.out ⟨_, _, _, rfl⟩ ⟨_, _, _, rfl⟩ (put5_kept (p := (· ≠ w.heap.size)) (by simp) _ _ _ _ _), put5_new hf.kept (Nat.le_refl _) _ _ _ _ _, hf.news⟩

end Go.Proofs.YtenejaghgehnoaaGreatDoor

namespace Go.Proofs.YtenejaghgehnoaaGreatDoor
open Go.RowKit Go.Maps

/-- What is so of what is prepared. -/
structure Pok (s : Sh) : Prop where
  few : ∀ x ops, look s.ps x = some ops → ops.length ≤ 4 ∧ ∀ o ∈ ops, o.cas.length ≤ 1000
  runs : ∀ x ops, look s.ps x = some ops → (runP s.types boundless ops s.cs [] 0).why = 0
  mine : ∀ z ∈ s.lk, look s.ps z.t ≠ none
theorem decide_same {s : Sh} (p : Pok s) {x : List UInt8} (hp : look s.ps x = none) (ho : look s.outs x = some 1) : decideP s x 1 = s := by
  unfold decideP
  have e1 : freeL s.lk x = s.lk := free_same (fun z hz e => p.mine z hz (e ▸ hp))
  have e2 : delL s.ps x = s.ps := by
    unfold delL
    rw [List.filter_eq_self]
    intro q hq
    have : q.1 ≠ x := fun e => look_none.1 hp (e ▸ List.mem_map.2 ⟨q, hq, rfl⟩)
    simpa using this
  have e3 : ∀ {l : List (List UInt8 × Nat)}, look l x = some 1 → putL l x 1 = l := by
    intro l
    induction l with
    | nil => intro h; cases h
    | cons q l ih =>
      intro h
      by_cases e : q.1 = x
      · simp only [look, if_pos e, Option.some.injEq] at h
        rw [putL, if_pos e, ← e, ← h]
      · rw [look, if_neg e] at h
        rw [putL, if_neg e, ih h]
  rw [e1, e2, e3 ho]

set_option maxRecDepth 100000 in
set_option maxHeartbeats 8000000 in
theorem commit_any {w : World} {a : Ft} {n : Nat} {tv : Value} {h : Lk} {s : Sh} {tx : List UInt8} (m : Sm w a n tv h s) (ok : Sok s) (p : Pok s) (hTab : Tab w) (hx : tx.length ≤ 140737488355327) (hn : n ≤ 800000) :
    Calls Tryz.prog 46 #[.pointer (some ⟨a.S, 0, none⟩), .string ⟨tx.toArray⟩] w fun e w' => DoP w w' a (n + 5) tv (commitP s tx) e := by
  have h0 := heap_alloc_new w (.cells #[.int .i64 0, .slice none 0 0, .int .i64 0, .int .i64 0, .slice none 0 0] 35)
  have k0 := (Kept.refl (fun _ => True) w).alloc (.cells #[.int .i64 0, .slice none 0 0, .int .i64 0, .int .i64 0, .slice none 0 0] 35)
  have m1 := m.all k0
  have c1 := m1.cellP
  have c2 := m1.cellO
  obtain ⟨ao, om, oc, hlp, hov⟩ := m1.preps.look (x := tx) (by omega)
  have hl : _ = Result.ok (Value.int .i64 _) _ := m1.outs.look1 Tryz.underlying112 (zeroNum _) (x := tx) (by omega)
  have HM : Hid (Sm _ a n tv h s) := m1
  have HB : Hid _ := h0
  have HK : Hid _ := k0
  have HOV : Hid (Ov _ (.slice ao om oc) ((look s.ps tx).getD [])) := hov
  have HOK : Hid (Sok s) := ok
  have HP : Hid (Pok s) := p
  have HTb : Hid (Tab _) := hTab.all k0
  have HO1 : Hid _ := out_one (l := s.outs) (x := tx)
  clear m m1 h0 k0 hov ok p hTab
  go_enter Tryz.func46, Tryz.ntmps46
  go_upto_region 1 with fail
  generalize w.alloc (.cells #[.int .i64 0, .slice none 0 0, .int .i64 0, .int .i64 0, .slice none 0 0] 35) = w1 at *
  generalize (outF s.outs tx).getD 0 = v at *
  obtain ⟨ops, hops⟩ : ∃ ops, (look s.ps tx).getD [] = ops := ⟨_, rfl⟩
  obtain ⟨q, hq⟩ : ∃ q, (look s.ps tx).isSome = q := ⟨_, rfl⟩
  rw [hops] at HOV
  rw [hq] at hlp
  have HQ : Hid _ := hq
  have HOp : Hid _ := hops
  clear hq hops
  by_cases hc : q = false ∧ v ≠ 1
  · obtain ⟨rfl, hv⟩ := hc
    have hv' : (v != 1) = true := by simpa using hv
    have hpn : look s.ps tx = none := by simpa using HQ.out
    have HE : Hid (commitP s tx = (An.of 6, s)) := by
      show _ = _
      unfold commitP
      rw [hpn]
      dsimp only
      rw [if_neg (fun e => hv (HO1.out.2 e))]
    obtain ⟨⟨z0, z1, z2, z3, z4⟩, f0, f1, f2, f3, f4⟩ := five_free HB.out
    clear hv hpn
    go_wp2_with fail
    refine bodyPost_ret (results_ans rfl _ _ rfl (put5_at HB.out _ _ _ _ _) rfl) rfl ?_
    rw [HE.out]
    exact ⟨a.B, h, _, rfl, Txs.nil _ _, (HM.out.ans HB.out ⟨_, _, _, rfl⟩ ⟨_, _, _, rfl⟩ (put5_kept (p := (· ≠ w.heap.size)) (by simp) _ _ _ _ _)).mono (by omega), put5_new HK.out (Nat.le_refl _) _ _ _ _ _ |>.mono (fun _ _ _ => trivial), fun _ h => .inl h⟩
  · obtain ⟨R, hR⟩ : ∃ R, runP s.types boundless ops s.cs [] 0 = R := ⟨_, rfl⟩
    have hops4 : ops.length ≤ 4 ∧ ∀ o ∈ ops, o.cas.length ≤ 1000 := by
      rw [← HOp.out]
      cases e : look s.ps tx with
      | none => exact ⟨by simp, fun o ho => by cases ho⟩
      | some l => exact HP.out.few tx l e
    have h0 : R.why = 0 := by
      rw [← hR, ← HOp.out]
      cases e : look s.ps tx with
      | none => rfl
      | some l => exact HP.out.runs tx l e
    have HE : Hid (commitP s tx = (An.of 5, decideP { s with cs := R.left } tx 1)) := by
      show _ = _
      unfold commitP
      cases e : look s.ps tx with
      | some l =>
        rw [e] at HOp
        dsimp only
        rw [← hR, ← HOp.out]
        rfl
      | none =>
        have ho1 : look s.outs tx = some 1 := by
          refine HO1.out.1 (Classical.byContradiction fun hv => hc ⟨?_, hv⟩)
          rw [← HQ.out, e]
          rfl
        dsimp only
        rw [if_pos ho1]
        have e2 : R.left = s.cs := by
          rw [← hR, ← HOp.out, e]
          rfl
        rw [e2]
        exact Prod.ext rfl (decide_same HP.out e ho1).symm
    have cb := begin_any HM.out boundless
    have HR : Hid _ := hR
    have HH0 : Hid _ := h0
    have HO4 : Hid _ := hops4
    have htest : (q = true ∨ (q = false ∧ v = 1)) := by
      cases q with
      | true => exact .inl rfl
      | false => exact .inr ⟨rfl, Classical.byContradiction fun hv => hc ⟨rfl, hv⟩⟩
    clear hc hR h0 hops4
    go_upto_region 2 with fail
    go_cut [27] from 17 to 27 (fun tA wx => tA = .bool false ∧ wx = w1)
    case first =>
      clear HE HR HH0 HO4 cb HM HB HK HOV HOK HP HTb HO1 HQ HOp
      rcases htest with rfl | ⟨rfl, rfl⟩
      all_goals
        go_wp2_with fail
        go_meet
        exact ⟨rfl, rfl⟩
    case rest =>
    obtain ⟨rfl, hwc⟩ := hcut
    subst wc
    clear htest c2 hl hlp c1
    change Calls _ _ #[_, .int .i64 9223372036854775807] _ _ at cb
    go_upto_region 5 with (go_at_call 102; refine Calls.mono cb ?_; rintro e w3 ⟨D, L, rfl, df, hD, hL, k3⟩; have HDf : Hid (Df w3 D a.C L n 0 tv 0 boundless s.types (look s.cs) (fun _ => none)) := df; have HK3 : Hid (Kept (fun _ => True) w1 w3) := k3; have HDl : Hid (w1.heap.size ≤ D ∧ w1.heap.size ≤ L) := ⟨hD, hL⟩; clear cb df hD hL k3)
    have cr := run_any (l := s.cs) (k := s.cs.length) HDf.out ⟨fun x => by simp [orF], by simp, count_look HOK.out.cases.alone⟩ HOK.out.types HOK.out.cases (HTb.out.all HK3.out) (HOV.out.all HK3.out) (fun o ho => by have := HO4.out.2 o ho; omega) (by have := HO4.out.1; omega) (by omega) (by decide) (Nat.le_refl _)
    rw [HR.out] at cr
    go_upto_region 6 with (go_at_call 103; refine Calls.mono cr ?_; rintro e w4 ⟨txv, rfl, hq⟩; have HQ4 : Hid (Rq w3 w4 D a.C L n 0 tv boundless s.types (look s.cs) (fun _ => none) ops R s.cs.length txv) := hq; clear cr hq)
    have hRlt : w.heap.size < w1.heap.size := lt_of_block HB.out
    have HM4 : Hid (Sm w4 a n tv h s) := by
      refine (HM.out.all HK3.out).beside HQ4.out.kept HDf.out.plainly (fun i q => ?_) ?_
      · have := HM.out.mine_lt q
        have := HDl.out
        omega
      · obtain ⟨cs, fr, e⟩ := HM.out.tself
        have := lt_of_block e
        have := HDl.out
        omega
    have HF4 : Hid (Fstep a w w4 a) := by
      refine ⟨((HK.out.trans HK3.out).mono (fun _ _ _ => trivial)).then HQ4.out.kept (fun i hi _ => ?_), fun _ h => .inl h⟩
      have := HDl.out
      omega
    have HB4 : Hid (w4.heap[w.heap.size]? = _) := ((HQ4.out.kept.block w.heap.size (by have := HK3.out.size; omega) (by have := HDl.out; omega)).trans ((HK3.out.block _ hRlt trivial).trans HB.out))
    obtain ⟨g2, made2, hdf, hdl, hdom⟩ := HQ4.out.goes HH0.out
    have HDl4 : Hid (Dl (look s.cs) g2 R.left s.cs.length made2) := hdl
    have hCS : a.S ≠ a.C := (HM4.out.notS HM4.out.cases.isMap).1
    have CC := fun W (q : Kept (· ≠ a.C) w4 W) => (kept_cell q HM4.out.slt hCS).trans HM4.out.cellC
    have CL := fun W (q : Kept (· ≠ a.C) w4 W) => (kept_cell q (lt_of_block hdf.self) hdf.dl.2).trans (five_cell hdf.self).2.2.1
    have HCC : Hid (∀ W, Kept (fun _ => True) w4 W → Calls Tryz.prog 100 #[.map (some a.C), .map (some L)] W fun e w' => e = .returned (.tuple #[]) ∧ Cmap w' a.C (n + (0 + ops.length)) (orF (look s.cs) g2) ∧ Kept (· ≠ a.C) W w') := fun W q => copyM_any (HM4.out.cases.all q) (hdf.left.all q) hdf.ne (by have := HO4.out.1; omega)
    clear hdf hdl hdom hCS
    go_cut [42] from 34 to 42 (fun _ wx => Cmap wx a.C (n + (0 + ops.length)) (orF (look s.cs) g2) ∧ Kept (· ≠ a.C) w4 wx)
    case first =>
      clear HE HR HH0 HO4 HM HB HK HOV HOK HP HTb HO1 HQ HOp HDf HK3 HDl HQ4 HM4 HF4 HB4 HDl4
      go_region_held3 (fun W => Kept (· ≠ a.C) w4 W) (first | assumption | (repeat (first | exact Kept.refl _ _ | assumption | refine Kept.drew ?_))) (first
        | (go_at_call 100; refine Calls.mono (HCC.out _ (by first | assumption | (repeat (first | exact Kept.refl _ _ | assumption | refine Kept.drew ?_)))) ?_; rintro e v6 ⟨rfl, hc6, k6⟩; have HC6 : Hid (Cmap v6 a.C (n + (0 + ops.length)) (orF (look s.cs) g2)) := hc6; have s6 : Kept (· ≠ a.C) w4 v6 := (((Kept.refl (fun _ => True) w4).drew).mono (fun _ _ _ => trivial)).trans k6; clear hc6 k6))
      all_goals
        go_wp2_with fail
        go_meet
        exact ⟨HC6.out, s6⟩
    case rest =>
    obtain ⟨hc5, k5⟩ := hcut
    obtain ⟨sm5, fs5⟩ := HM4.out.casesTo (cs' := R.left) (q := n + (0 + ops.length)) (by omega) k5 (hc5.congr (fun x => HDl4.out.same x))
    have cd := decide_any sm5 hx (by have := HO4.out.1; omega) 1
    have HF5 : Hid (Fstep a w wc a) := HF4.out.trans fs5
    have hB5 := (k5.block _ (lt_of_block HB4.out) (fun e => by
      obtain ⟨es, clock, q⟩ := HM4.out.cases.isMap
      rw [← e, HB4.out] at q
      cases q)).trans HB4.out
    have HB5 : Hid _ := hB5
    have HM5 : Hid (Sm wc a (n + (0 + ops.length)) tv h { s with cs := R.left }) := sm5
    clear hc5 k5 sm5 fs5 hB5 CC CL
    go_upto_region 8 with (go_at_call 105; refine Calls.mono cd ?_; rintro e w6 ⟨rfl, B2, sm2, fs2⟩; have HM6 : Hid (Sm w6 { a with B := B2 } (n + (0 + ops.length) + 1) tv (freed h (tag tx)) (decideP { s with cs := R.left } tx 1)) := sm2; have HF6 : Hid (Fstep a wc w6 { a with B := B2 }) := fs2; clear cd sm2 fs2)
    have hB6 := (HF6.out.kept.block _ (lt_of_block HB5.out) (HM5.out.cells_ne HB5.out (by decide))).trans HB5.out
    have HB6 : Hid _ := hB6
    obtain ⟨⟨z0, z1, z2, z3, z4⟩, f0, f1, f2, f3, f4⟩ := five_free hB6
    clear hB6
    go_wp2_with fail
    refine bodyPost_ret (results_ans rfl _ _ rfl (put5_at HB6.out _ _ _ _ _) rfl) rfl ?_
    rw [HE.out]
    have hf := HF5.out.trans HF6.out
    exact ⟨B2, _, _, rfl, Txs.nil _ _, (HM6.out.ans HB6.out ⟨_, _, _, rfl⟩ ⟨_, _, _, rfl⟩ (put5_kept (p := (· ≠ w.heap.size)) (by simp) _ _ _ _ _)).mono (by have := HO4.out.1; omega), put5_new hf.kept (Nat.le_refl _) _ _ _ _ _, hf.news⟩

end Go.Proofs.YtenejaghgehnoaaGreatDoor

namespace Go.Proofs.YtenejaghgehnoaaGreatDoor
open Go.RowKit Go.Maps

set_option maxRecDepth 100000 in
set_option maxHeartbeats 4000000 in
theorem placed_any {w : World} {atv : Value} {at' : List Int} (k i why : Nat) (to' : Option Addr) (tn tc : Nat) (ha : Cv w atv (iv at')) (hi : k = 2 → 0 < at'.length → i < at'.length) :
    Calls Tryz.prog 101 #[ansV k (.slice to' tn tc) (i : Int) why (.slice none 0 0), atv] w fun e w' => e = .returned (ansV k (.slice to' tn tc) (if k = 2 then placedP at' i else (i : Int)) why (.slice none 0 0)) ∧ Kept (fun _ => True) w w' := by
  obtain ⟨ao, cap, rfl, hl, hat⟩ := ha.ints
  have HA : Hid (Cv w (.slice ao at'.length cap) (iv at')) := ha
  unfold ansV
  have hX := heap_alloc_new w (.cells #[.int .i64 (k : Nat), .slice to' tn tc, .int .i64 (i : Int), .int .i64 (why : Nat), .slice none 0 0] 35)
  have k1 := (Kept.refl (fun _ => True) w).alloc (.cells #[.int .i64 (k : Nat), .slice to' tn tc, .int .i64 (i : Int), .int .i64 (why : Nat), .slice none 0 0] 35)
  have hR := heap_alloc_new (w.alloc (.cells #[.int .i64 (k : Nat), .slice to' tn tc, .int .i64 (i : Int), .int .i64 (why : Nat), .slice none 0 0] 35)) (.cells #[.int .i64 0, .slice none 0 0, .int .i64 0, .int .i64 0, .slice none 0 0] 35)
  have k2 := (Kept.refl (fun _ => True) (w.alloc (.cells #[.int .i64 (k : Nat), .slice to' tn tc, .int .i64 (i : Int), .int .i64 (why : Nat), .slice none 0 0] 35))).alloc (.cells #[.int .i64 0, .slice none 0 0, .int .i64 0, .int .i64 0, .slice none 0 0] 35)
  rw [show (w.alloc (.cells #[.int .i64 (k : Nat), .slice to' tn tc, .int .i64 (i : Int), .int .i64 (why : Nat), .slice none 0 0] 35)).heap.size = w.heap.size + 1 by simp] at hR
  have hX2 := (k2.block _ (lt_of_block hX) trivial).trans hX
  have HX : Hid _ := hX2
  have HR : Hid _ := hR
  have HK : Hid _ := k1.trans k2
  clear ha hX hR k1 k2 hX2 hat
  go_enter Tryz.func101, Tryz.ntmps101
  go_upto_region 1 with fail
  generalize (w.alloc (.cells #[.int .i64 (k : Nat), .slice to' tn tc, .int .i64 (i : Int), .int .i64 (why : Nat), .slice none 0 0] 35)).alloc (.cells #[.int .i64 0, .slice none 0 0, .int .i64 0, .int .i64 0, .slice none 0 0] 35) = w2 at *
  have HRX : Hid (w.heap.size ≠ w.heap.size + 1) := by show _ ≠ _; omega
  obtain ⟨⟨x0, x1, x2, x3, x4⟩, e0, e1, e2, e3, e4⟩ := five_free HX.out
  obtain ⟨⟨z0, z1, z2, z3, z4⟩, f0, f1, f2, f3, f4⟩ := five_free HR.out
  by_cases hc : k = 2 ∧ 0 < at'.length
  · obtain ⟨rfl, h0⟩ := hc
    have hlt := hi rfl h0
    obtain ⟨b, off, rfl, hb, hc⟩ := HA.out.intAt i hlt
    rw [← kept_cell HK.out hb trivial] at hc
    have g1 : (0 : Int) < (at'.length : Int) := by omega
    have g2 : (i : Int) < (at'.length : Int) := by omega
    have g3 : (0 : Int) ≤ (i : Int) := by omega
    have HE : Hid (placedP at' i = at'[i]) := by
      show _ = _
      unfold placedP
      rw [if_neg (by omega)]
      simp [hlt]
    have HX2 : Hid ((w2.setCell ⟨w.heap.size, 2, none⟩ (.int .i64 at'[i])).heap[w.heap.size]? = some (.cells #[.int .i64 ((2 : Nat) : Int), .slice to' tn tc, .int .i64 at'[i], .int .i64 (why : Nat), .slice none 0 0] 35 (0, 0))) := by
      show _ = _
      have := set_cell HX.out 2 (.int .i64 at'[i])
      simpa using this
    generalize at'[i] = y at *
    clear h0 hlt hb hi
    go_upto_region 3 with fail
    have kx : Kept (· ≠ w.heap.size) w2 (w2.setCell ⟨w.heap.size, 2, none⟩ (.int .i64 y)) := (Kept.refl _ _).setCell (by simp) _
    have HR2 : Hid _ := (kx.block _ (lt_of_block HR.out) (by simp)).trans HR.out
    have HK2 : Hid (Kept (fun _ => True) w (w2.setCell ⟨w.heap.size, 2, none⟩ (.int .i64 y))) := HK.out.setNew (Nat.le_refl _) _
    clear kx x0 x1 x2 x3 x4 e0 e1 e2 e3 e4 z0 z1 z2 z3 z4 f0 f1 f2 f3 f4 hc
    generalize w2.setCell ⟨w.heap.size, 2, none⟩ (.int .i64 y) = w3 at *
    obtain ⟨⟨x0, x1, x2, x3, x4⟩, _⟩ := five_free HX2.out
    obtain ⟨⟨z0, z1, z2, z3, z4⟩, f0, f1, f2, f3, f4⟩ := five_free HR2.out
    go_wp2_with fail
    refine bodyPost_ret (results_ans rfl _ _ rfl (put5_at HR2.out _ _ _ _ _) rfl) rfl ?_
    rw [HE.out]
    exact ⟨rfl, put5_new HK2.out (Nat.le_succ _) _ _ _ _ _⟩
  · have HE : Hid ((if k = 2 then placedP at' i else (i : Int)) = (i : Int)) := by
      show _ = _
      by_cases h2 : k = 2
      · rw [if_pos h2]
        have : at'.length = 0 := by
          have := fun h0 => hc ⟨h2, h0⟩
          omega
        unfold placedP
        rw [if_pos this]
      · rw [if_neg h2]
    clear hi
    by_cases h2 : k = 2
    · subst h2
      have g1 : ¬ ((0 : Int) < (at'.length : Int)) := by
        have := fun h0 => hc ⟨rfl, h0⟩
        omega
      have HE2 : Hid (placedP at' i = (i : Int)) := by
        have := HE.out
        rw [if_pos rfl] at this
        exact this
      clear hc
      go_wp2_with fail
      refine bodyPost_ret (results_ans rfl _ _ rfl (put5_at HR.out _ _ _ _ _) rfl) rfl ?_
      rw [HE2.out]
      refine ⟨?_, put5_new HK.out (Nat.le_succ _) _ _ _ _ _⟩
      first | rfl | simp
    · have g0 : ((k : Int) == 2) = false := by simp; omega
      have g0' : ¬ ((k : Int) = 2) := by omega
      have g0'' : decide ((k : Int) = 2) = false := by simp; omega
      have HH2 : Hid _ := h2
      clear hc h2
      go_wp2_with fail
      refine bodyPost_ret (results_ans rfl _ _ rfl (put5_at HR.out _ _ _ _ _) rfl) rfl ?_
      refine ⟨?_, put5_new HK.out (Nat.le_succ _) _ _ _ _ _⟩
      first | rfl | (rw [HE.out]; rfl) | simp [HH2.out]

end Go.Proofs.YtenejaghgehnoaaGreatDoor

namespace Go.Proofs.YtenejaghgehnoaaGreatDoor
open Go.RowKit Go.Maps

set_option maxRecDepth 100000 in
set_option maxHeartbeats 8000000 in
theorem attempt_any {w : World} {a : Ft} {n most : Nat} {tv ov : Value} {h : Lk} {s : Sh} {tx : List UInt8} {ops : List Oq} (m : Sm w a n tv h s) (ok : Sok s) (hTab : Tab w) (ho : Ov w ov ops) (hs : ∀ o ∈ ops, o.cas.length ≤ 1000) (hl : ops.length ≤ 1000) (hx : tx.length ≤ 140737488355327) (hfree : ∀ z ∈ s.lk, z.t ≠ tx) (hn : n + ops.length ≤ 900000) (hmost : most ≤ 9223372036854775807) :
    Calls Tryz.prog 97 #[.pointer (some ⟨a.S, 0, none⟩), .string ⟨tx.toArray⟩, ov, .int .i64 (most : Nat)] w fun e w' => AttP w w' a n tv h s tx ops most e := by
  obtain ⟨ao, cap, rfl, hl2⟩ := ho.form
  have HO : Hid (Ov w (.slice ao ops.length cap) ops) := ho
  have HM : Hid (Sm w a n tv h s) := m
  have HOK : Hid (Sok s) := ok
  have HTb : Hid (Tab w) := hTab
  have HSh : Hid (∀ o ∈ ops, o.cas.length ≤ 1000) := hs
  have HFr : Hid (∀ z ∈ s.lk, z.t ≠ tx) := hfree
  have H0 : Hid (staleP s (ops.take 0) = false) := rfl
  have h0 := heap_alloc_new w (.cells #[.int .i64 0, .slice none 0 0, .int .i64 0, .int .i64 0, .slice none 0 0] 35)
  have k0 := (Kept.refl (fun _ => True) w).alloc (.cells #[.int .i64 0, .slice none 0 0, .int .i64 0, .int .i64 0, .slice none 0 0] 35)
  have HB0 : Hid _ := h0
  have HK0 : Hid _ := k0
  clear ho m ok hTab hs hfree h0 k0
  go_enter Tryz.func97, Tryz.ntmps97
  go_wp2_with fail
  go_loopw [11, 18] (fun _ ti wr => ∃ i : Nat, i ≤ ops.length ∧ ti = .int .i64 i ∧ staleP s (ops.take i) = false ∧ wr.heap[w.heap.size]? = some (.cells #[.int .i64 0, .slice none 0 0, .int .i64 0, .int .i64 0, .slice none 0 0] 35 (0, 0)) ∧ Kept (fun _ => True) w wr) (fun _ ti _ => ops.length - (intOf ti).toNat)
  case atStart => exact ⟨0, Nat.zero_le _, rfl, H0.out, HB0.out, HK0.out⟩
  case round =>
    obtain ⟨i, hi, rfl, hst, hb, hk⟩ := hrel
    have HST : Hid (staleP s (ops.take i) = false) := hst
    have HB : Hid _ := hb
    have HK : Hid (Kept (fun _ => True) w wr) := hk
    clear hst hb
    by_cases hlt : i < ops.length
    · obtain ⟨b, off, rfl, hb, q0, q1, q2, q3⟩ := HO.out.at i hlt
      rw [← kept_cell hk hb trivial] at q0 q1 q2 q3
      have HS1 : Hid _ := stale_take (s := s) hlt
      have HS2 : Hid _ := stale_some (s := s) hlt
      have hoc := HSh.out _ (List.getElem_mem hlt)
      have i1 : (i : Int) < (ops.length : Int) := by omega
      have i0 : (0 : Int) ≤ (i : Int) := by omega
      clear hb hk
      generalize ops[i] = o at *
      have ka := (Kept.refl (fun _ => True) wr).alloc (.cells #[.int .i64 o.kind, .string ⟨o.cas.toArray⟩, .string ⟨o.name.toArray⟩, .int .i64 o.n] 61)
      have HX : Hid _ := heap_alloc_new wr (.cells #[.int .i64 o.kind, .string ⟨o.cas.toArray⟩, .string ⟨o.name.toArray⟩, .int .i64 o.n] 61)
      have HB1 : Hid _ := (ka.block _ (lt_of_block HB.out) trivial).trans HB.out
      have HK1 : Hid _ := HK.out.trans ka
      have ch := fun W => hash_any (w := W) o.cas (by omega)
      have hlt8 := hashOf_lt o.cas
      go_upto_region 4 with fail
      clear ka q0 q1 q2 q3
      generalize wr.alloc (.cells #[.int .i64 o.kind, .string ⟨o.cas.toArray⟩, .string ⟨o.name.toArray⟩, .int .i64 o.n] 61) = w2 at *
      generalize wr.heap.size = X at *
      have CH := fun W (q : Kept (fun _ => True) w2 W) => (kept_cell q (HM.out.all HK1.out).slt trivial).trans ((HM.out.all HK1.out).cellH hlt8)
      have CX := fun W (q : Kept (fun _ => True) w2 W) => (kept_cell q (lt_of_block HX.out) trivial).trans (four_cell HX.out).1.2.1
      generalize hashOf o.cas = H at *
      have hH0 : (0 : Int) ≤ (H : Int) := by omega
      have hH1 : (H : Int) < 256 := by omega
      have HC : Hid (∀ W, Calls Tryz.prog 86 #[.string ⟨o.cas.toArray⟩] W fun e w' => e = .returned (.int .i64 (H : Nat)) ∧ Kept (fun _ => True) W w') := ch
      clear ch hlt8
      go_cut [30] from 22 to 30 (fun tA wx => tA = .bool ((s.hs H : Int) != 1) ∧ Kept (fun _ => True) w2 wx)
      case first =>
        clear HO HM HOK HTb HSh HFr H0 HB0 HK0 HST HB HK HS1 HS2 HX HB1 HK1
        go_region_held3 (fun W => Kept (fun _ => True) w2 W) (first | assumption | (repeat (first | exact Kept.refl _ _ | assumption | refine Kept.drew ?_))) (first
          | (go_at_call 86; refine Calls.mono (HC.out _) ?_; rintro e v5 ⟨rfl, m5⟩; have p5 : Kept (fun _ => True) w2 v5 := Kept.trans (by first | assumption | (repeat (first | exact Kept.refl _ _ | assumption | refine Kept.drew ?_))) m5; clear m5))
        all_goals
          go_wp2_with fail
          go_meet
          exact ⟨rfl, p5⟩
      case rest =>
        obtain ⟨rfl, kx⟩ := hcut
        have HB2 : Hid _ := (kx.block _ (lt_of_block HB1.out) trivial).trans HB1.out
        have HK2 : Hid (Kept (fun _ => True) w wc) := HK1.out.trans kx
        have hb2 := HB2.out
        clear kx CH CX
        by_cases hv : s.hs H = 1
        · have hv' : ((s.hs H : Int) != 1) = false := by simp [hv]
          have HST2 : Hid (staleP s (ops.take (i + 1)) = false) := by
            show _ = _
            rw [HS1.out, HST.out, hv]
            rfl
          clear hv hb2
          go_wp2_with fail
          go_roundw
          case rel => exact ⟨i + 1, by omega, by go_num, HST2.out, HB2.out, HK2.out⟩
          case measure => simp [intOf]; omega
        · have hv' : ((s.hs H : Int) != 1) = true := by simp; omega
          have HV : Hid (s.hs H ≠ 1) := hv
          obtain ⟨⟨z0, z1, z2, z3, z4⟩, f0, f1, f2, f3, f4⟩ := five_free hb2
          clear hv hb2
          go_wp2_with fail
          refine bodyPost_ret (results_two rfl _ _ rfl (load_ans (put5_at HB2.out _ _ _ _ _) rfl)) rfl ?_
          have kf := put5_new HK2.out (Nat.le_refl _) (.int .i64 4) (.slice none 0 0) (.int .i64 0) (.int .i64 0) (.slice none 0 0)
          exact ⟨a.B, Fstep.of a kf, .inl ⟨HS2.out HV.out, rfl, (HM.out.all kf).mono (by omega)⟩⟩
    · obtain rfl : i = ops.length := by omega
      have i1 : ¬ ((ops.length : Int) < (ops.length : Int)) := by omega
      have HST0 : Hid (staleP s ops = false) := by
        have := HST.out
        rw [List.take_length] at this
        exact this
      have hmr := HM.out.all hk
      have HMr : Hid (Sm wr a n tv h s) := hmr
      have hSB : ∀ x, a.B x ≠ some a.S := fun x => by
        have := hmr.self
        unfold Af at this
        exact Tw.notMine hmr.tb this x
      have CT := fun W (q : Kept (NB a.B) wr W) => (kept_cell q hmr.slt hSB).trans hmr.cellT
      have HCH : Hid (∀ W, Calls Tryz.prog 99 #[.string ⟨tx.toArray⟩] W fun e w' => e = .returned (.string ⟨(tag tx).toArray⟩) ∧ w' = W) := fun W => holder_any tx hx
      have HCW : Hid (∀ W, Kept (fun _ => True) wr W → Calls Tryz.prog 152 #[.slice ao ops.length cap] W fun e w' => ∃ v, e = .returned v ∧ Wn w' v (wantsP ops) ∧ Kept (fun _ => True) W w') := fun W q => wants_any (HO.out.all (HK.out.trans q)) hl
      have HCT : Hid (∀ W v, Kept (fun _ => True) wr W → Wn W v (wantsP ops) → Calls Tryz.prog 151 #[.pointer (some ⟨a.T, 0, none⟩), .string ⟨(tag tx).toArray⟩, v] W fun e w' => ∃ (r : Int) (h' : Lk) (B' : Lab → Option Nat), e = .returned (.int .i64 r) ∧ Takes h (tag tx) (wantsP ops) r h' ∧ Tb w' a.T (n + ops.length) B' h' ∧ Stp a.B W w' B') := fun W v q hw => by
        have := take_any (HMr.out.all q).tb HMr.out.alone (x := tag tx) (by simp [tag]; omega) hw (fun z hz => by
          obtain ⟨o, ho, rfl⟩ := List.mem_map.1 hz
          have := HSh.out o ho
          dsimp only
          omega) (by rw [wantsP_len]; omega)
        rw [wantsP_len] at this
        exact this
      clear hk hmr hSB
      go_upto_region 7 with fail
      go_cut [42] from 33 to 42 (fun tA wx => ∃ (r : Int) (h' : Lk) (B' : Lab → Option Nat), tA = .bool (r != 0) ∧ Takes h (tag tx) (wantsP ops) r h' ∧ Tb wx a.T (n + ops.length) B' h' ∧ Stp a.B wr wx B')
      case first =>
        clear HO HM HOK HTb HSh HFr H0 HB0 HK0 HST HB HK HST0 HMr
        have hR0 : Kept (NB a.B) wr wr.drew := (Kept.refl _ _).drew
        go_region_held3 (fun W => Kept (NB a.B) wr W) (first | assumption | (repeat (first | exact Kept.refl _ _ | assumption | refine Kept.drew ?_))) (first
          | (go_at_call 99; refine Calls.mono (HCH.out _) ?_; rintro e _ ⟨rfl, rfl⟩)
          | (go_at_call 152; refine Calls.mono (HCW.out _ (by first | assumption | (repeat (first | exact Kept.refl _ _ | assumption | refine Kept.drew ?_)))) ?_; rintro e v5 ⟨v, rfl, hw5, m5⟩; obtain ⟨wo, wc5, rfl, _⟩ := id hw5; have HW5 : Hid (Wn v5 _ (wantsP ops)) := hw5; have p5 : Kept (fun _ => True) wr v5 := Kept.trans (by first | assumption | (repeat (first | exact Kept.refl _ _ | assumption | refine Kept.drew ?_))) m5; have s5 : Kept (NB a.B) wr v5 := p5.mono (fun _ _ _ => trivial); clear m5 hw5)
          | (go_at_call 151; refine Calls.mono (HCT.out _ _ p5 HW5.out) ?_; rintro e v6 ⟨r, h', B', rfl, hT, tb, st⟩; have HT6 : Hid (Takes h (tag tx) (wantsP ops) r h') := hT; have HTB6 : Hid (Tb v6 a.T (n + ops.length) B' h') := tb; have HS6 : Hid (Stp a.B wr v6 B') := (Stp.of a.B p5).trans st; have s6 : Kept (NB a.B) wr v6 := HS6.out.kept; clear hT tb st))
        all_goals
          go_wp2_with fail
          go_meet
          exact ⟨_, _, _, rfl, HT6.out, HTB6.out, HS6.out⟩
      case rest =>
        obtain ⟨r, h', B', rfl, hT, tb, st⟩ := hcut
        have hBR : ∀ x, a.B x ≠ some w.heap.size := fun x => Tw.notMine HMr.out.tb HB.out x
        have HB2 : Hid _ := (st.kept.block _ (lt_of_block HB.out) hBR).trans HB.out
        have ha' := hT.alone HMr.out.alone
        clear CT hBR
        rcases takes_of HMr.out.rep hT with ⟨hb, rfl, rfl⟩ | ⟨hb, rfl, rfl⟩
        · obtain ⟨sm2, fs2⟩ := HMr.out.locked (Nat.le_add_right n ops.length) tb st ha' HMr.out.rep
          have HBU : Hid (busyP s.lk tx ops = true) := hb
          have HM2 : Hid (Sm wc { a with B := B' } (n + ops.length) tv h' s) := sm2
          have HF2 : Hid (Fstep a w wc { a with B := B' }) := (Fstep.of a HK.out).trans fs2
          obtain ⟨⟨z0, z1, z2, z3, z4⟩, f0, f1, f2, f3, f4⟩ := five_free HB2.out
          clear hT tb st ha' hb sm2 fs2
          go_wp2_with fail
          refine bodyPost_ret (results_two rfl _ _ rfl (load_ans (put5_at HB2.out _ _ _ _ _) rfl)) rfl ?_
          have kb := put5_kept (p := (· ≠ w.heap.size)) (w := wc) (D := w.heap.size) (by simp) (.int .i64 3) (.slice none 0 0) (.int .i64 0) (.int .i64 0) (.slice none 0 0)
          exact ⟨B', ⟨put5_new HF2.out.kept (Nat.le_refl _) _ _ _ _ _, HF2.out.news⟩, .inr (.inl ⟨HST0.out, HBU.out, rfl, HM2.out.ans HB2.out ⟨_, _, _, rfl⟩ ⟨_, _, _, rfl⟩ kb⟩)⟩
        · obtain ⟨sm2, fs2⟩ := HMr.out.locked (Nat.le_add_right n ops.length) tb st ha' (rep_gives HMr.out.rep tx (wantsP ops))
          have HBU : Hid (busyP s.lk tx ops = false) := hb
          have HM2 : Hid (Sm wc { a with B := B' } (n + ops.length) tv (gives h (tag tx) (wantsP ops)) { s with lk := lgives s.lk tx (wantsP ops) }) := sm2
          have HF2 : Hid (Fstep a w wc { a with B := B' }) := (Fstep.of a HK.out).trans fs2
          have hpl : Plainly (fun k => ∀ x, a.B x ≠ some k) wr := (Plainly.noMap wr).mono (fun i hi x e => Tw.noMap HMr.out.tb hi x e)
          have HOc : Hid (Ov wc (.slice ao ops.length cap) ops) := (HO.out.all HK.out).plain st.kept hpl
          have HTc : Hid (Tab wc) := (HTb.out.all HK.out).plain st.kept hpl
          have cb := begin_any sm2 most
          clear hT tb st ha' hb sm2 fs2 hpl
          go_upto_region 10 with (go_at_call 102; refine Calls.mono cb ?_; rintro e w3 ⟨D, L, rfl, df, hD, hL, k3⟩; have HDf : Hid (Df w3 D a.C L (n + ops.length) 0 tv 0 most s.types (look s.cs) (fun _ => none)) := df; have HK3 : Hid (Kept (fun _ => True) wc w3) := k3; have HDl : Hid (wc.heap.size ≤ D ∧ wc.heap.size ≤ L) := ⟨hD, hL⟩; clear cb df hD hL k3)
          have cr := run_any (l := s.cs) (k := s.cs.length) HDf.out ⟨fun x => by simp [orF], by simp, count_look HOK.out.cases.alone⟩ HOK.out.types HOK.out.cases (HTc.out.all HK3.out) (HOc.out.all HK3.out) (fun o ho => by have := HSh.out o ho; omega) (by omega) (by omega) hmost (Nat.le_refl _)
          obtain ⟨R, hR⟩ : ∃ R, runP s.types most ops s.cs [] 0 = R := ⟨_, rfl⟩
          rw [hR] at cr
          have HR : Hid (runP s.types most ops s.cs [] 0 = R) := hR
          clear hR
          go_upto_region 11 with (go_at_call 103; refine Calls.mono cr ?_; rintro e w4 ⟨txv, rfl, hq⟩; have HQ : Hid (Rq w3 w4 D a.C L (n + ops.length) 0 tv most s.types (look s.cs) (fun _ => none) ops R s.cs.length txv) := hq; clear cr hq)
          have hRlt : w.heap.size < wc.heap.size := lt_of_block HB2.out
          have HM4 : Hid (Sm w4 { a with B := B' } (n + ops.length) tv (gives h (tag tx) (wantsP ops)) { s with lk := lgives s.lk tx (wantsP ops) }) := by
            refine (HM2.out.all HK3.out).beside HQ.out.kept HDf.out.plainly (fun i q => ?_) ?_
            · have := HM2.out.mine_lt q
              have := HDl.out
              omega
            · obtain ⟨cs, fr, e⟩ := HM2.out.tself
              have := lt_of_block e
              have := HDl.out
              show a.T ≠ L ∧ a.T ≠ D
              have e2 : ({ a with B := B' } : Ft).T = a.T := rfl
              omega
          have HF4 : Hid (Fstep a w w4 { a with B := B' }) := by
            refine ⟨(HF2.out.ahead HK3.out).kept.then HQ.out.kept (fun i hi _ => ?_), HF2.out.news⟩
            have := HDl.out
            omega
          have HB4 : Hid (w4.heap[w.heap.size]? = _) := ((HQ.out.kept.block w.heap.size (by have := HK3.out.size; omega) (by have := HDl.out; omega)).trans ((HK3.out.block _ hRlt trivial).trans HB2.out))
          obtain ⟨to', tc, rfl⟩ := own_shape_any HQ.out.texts
          by_cases h0 : R.why = 0
          · have h0' : (((R.why : Nat) : Int) != 0) = false := by simp [h0]
            obtain ⟨g2, made2, hdf, hdl, hdom⟩ := HQ.out.goes h0
            have HH0 : Hid (R.why = 0) := h0
            have HDf4 : Hid (Df w4 D a.C L (n + ops.length) (0 + ops.length) tv made2 most s.types (look s.cs) g2) := hdf
            have HDl4 : Hid (Dl (look s.cs) g2 R.left s.cs.length made2) := hdl
            obtain ⟨⟨z0, z1, z2, z3, z4⟩, f0, f1, f2, f3, f4⟩ := five_free HB4.out
            have hDR : D ≠ w.heap.size := by have := HDl.out; omega
            have CL := fun W (q : Kept (· ≠ w.heap.size) w4 W) => (kept_cell q (lt_of_block hdf.self) hDR).trans (five_cell hdf.self).2.2.1
            clear h0 hdf hdl hdom hDR hRlt
            go_upto_region 14 with fail
            go_cut [9] from 66 to 71 (fun tA wx => tA = .map (some L) ∧ wx = put5 w4.drew w.heap.size (.int .i64 1) (.slice to' R.texts.length tc) (.int .i64 0) (.int .i64 0) (.slice none 0 0))
            case first =>
              clear HO HM HOK HTb HSh HFr H0 HB0 HK0 HST HB HK HST0 HMr HM4 HF4 HB4 HQ HR HH0 HDf HDl HK3 HOc HTc HF2 HM2 HB2 HBU HCW HCT HDf4 HDl4 HCH
              go_region_held3 (fun W => Kept (· ≠ w.heap.size) w4 W) (first | assumption | (repeat (first | exact Kept.refl _ _ | assumption | refine Kept.drew ?_ | refine Kept.setCell ?_ (by simp) _))) (fail)
              go_wp2_with fail
              go_meet
              exact ⟨rfl, rfl⟩
            case rest =>
            obtain ⟨rfl, rfl⟩ := hcut
            go_wp2_with fail
            have kd := (Kept.refl (fun _ => True) w4).drew
            have hB5 := (kd.block _ (lt_of_block HB4.out) trivial).trans HB4.out
            refine bodyPost_ret (results_two rfl _ _ rfl (load_ans (put5_at hB5 _ _ _ _ _) rfl)) rfl ?_
            have kb := put5_kept (p := (· ≠ w.heap.size)) (w := w4.drew) (D := w.heap.size) (by simp) (.int .i64 1) (.slice to' R.texts.length tc) (.int .i64 0) (.int .i64 0) (.slice none 0 0)
            have kp := plainly_ne hB5 (by decide) (by decide) (fun i v e => by rcases i with _ | _ | _ | _ | _ | i <;> simp at e <;> subst e <;> simp)
            rw [← HR.out] at HH0
            refine ⟨B', ⟨put5_new (HF4.out.ahead kd).kept (Nat.le_refl _) _ _ _ _ _, HF4.out.news⟩, .inr (.inr (.inr ⟨HST0.out, HBU.out, HH0.out, .slice to' R.texts.length tc, L, g2, rfl, ?_, (HM4.out.all kd).ans hB5 ⟨_, _, _, rfl⟩ ⟨_, _, _, rfl⟩ kb, ?_, ?_, ?_, ?_⟩))⟩
            · have hle : w.heap.size ≤ w3.heap.size := Nat.le_trans (Nat.le_of_lt (lt_of_block HB2.out)) HK3.out.size
              have ht : Txs w4.drew w.heap.size (.slice to' R.texts.length tc) R.texts := Txs.kept (w := w4) (ownsRow_low HQ.out.texts hle) kd (fun _ _ => trivial)
              rw [HR.out]
              exact Txs.aside ht hB5 (by decide) kb
            · have := (HDf4.out.left.all kd).plain kb (by have := HDl.out; have := lt_of_block HB2.out; omega) kp
              rw [Nat.zero_add] at this
              exact this
            · have := HDl.out
              have := lt_of_block HB2.out
              omega
            · intro q
              have := HM2.out.mine_lt q
              have := HDl.out
              omega
            · intro x
              rw [HR.out]
              exact HDl4.out.same x
          · have h0' : (((R.why : Nat) : Int) != 0) = true := by simpa using h0
            have HH0 : Hid (R.why ≠ 0) := h0
            have CT := fun W (q : Kept (NB B') w4 W) => (kept_cell q HM4.out.slt (fun x => by
              have := HM4.out.self
              unfold Af at this
              exact Tw.notMine HM4.out.tb this x)).trans HM4.out.cellT
            have HCF : Hid (∀ W, Kept (fun _ => True) w4 W → Calls Tryz.prog 98 #[.pointer (some ⟨a.T, 0, none⟩), .string ⟨(tag tx).toArray⟩] W fun e w' => ∃ (q : Bool) (B2 : Lab → Option Nat), e = .returned (.bool q) ∧ Tb w' a.T (n + ops.length) B2 h ∧ Stp B' W w' B2) := fun W q => by
              have hm := HM4.out.all q
              refine (free_any hm.tb (x := tag tx) (by simp [tag]; omega) (by omega) (fun c y e => ?_)).mono fun e w' h => ?_
              · have := (hm.tb.short e).1
                unfold maxLen at this
                omega
              · obtain ⟨b, B2, h1, _, h3, h4⟩ := h
                rw [freed_gives (none_held HMr.out.rep HFr.out)] at h3
                exact ⟨b, B2, h1, h3, h4⟩
            clear h0 hRlt
            go_upto_region 12 with fail
            go_cut [62] from 56 to 62 (fun _ wx => ∃ (B2 : Lab → Option Nat), Tb wx a.T (n + ops.length) B2 h ∧ Stp B' w4 wx B2)
            case first =>
              clear HO HM HOK HTb HSh HFr H0 HB0 HK0 HST HB HK HST0 HMr HM4 HF4 HB4 HQ HR HH0 HDf HDl HK3 HOc HTc HF2 HM2 HB2 HBU HCW HCT
              have hR0 : Kept (NB B') w4 w4.drew := (Kept.refl _ _).drew
              go_region_held3 (fun W => Kept (NB B') w4 W) (first | assumption | (repeat (first | exact Kept.refl _ _ | assumption | refine Kept.drew ?_))) (first
                | (go_at_call 99; refine Calls.mono (HCH.out _) ?_; rintro e _ ⟨rfl, rfl⟩)
                | (go_at_call 98; refine Calls.mono (HCF.out _ (by first | assumption | (repeat (first | exact Kept.refl _ _ | assumption | refine Kept.drew ?_)))) ?_; rintro e v6 ⟨b6, B2, rfl, tb, st⟩; have HTB6 : Hid (Tb v6 a.T (n + ops.length) B2 h) := tb; have HS6 : Hid (Stp B' w4 v6 B2) := (Stp.of B' ((Kept.refl (fun _ => True) w4).drew)).trans st; have s6 : Kept (NB B') w4 v6 := HS6.out.kept; clear tb st))
              all_goals
                go_wp2_with fail
                go_meet
                exact ⟨_, HTB6.out, HS6.out⟩
            case rest =>
              obtain ⟨B2, tb, st⟩ := hcut
              obtain ⟨sm5, fs5⟩ := HM4.out.locked (Nat.le_refl _) tb st HMr.out.alone HMr.out.rep
              have HM5 : Hid (Sm _ { a with B := B2 } (n + ops.length) tv h s) := sm5
              have HF5 : Hid (Fstep a w _ { a with B := B2 }) := HF4.out.trans fs5
              have hB5 := (st.kept.block _ (lt_of_block HB4.out) (fun x => Tw.notMine HM4.out.tb HB4.out x)).trans HB4.out
              have HB5 : Hid _ := hB5
              obtain ⟨⟨z0, z1, z2, z3, z4⟩, f0, f1, f2, f3, f4⟩ := five_free hB5
              clear tb st sm5 fs5 hB5 CT
              go_wp2_with fail
              refine bodyPost_ret (results_two rfl _ _ rfl (load_ans (put5_at HB5.out _ _ _ _ _) rfl)) rfl ?_
              rw [← HR.out] at HH0 ⊢
              exact ⟨B2, ⟨put5_new HF5.out.kept (Nat.le_refl _) _ _ _ _ _, HF5.out.news⟩, .inr (.inr (.inl ⟨HST0.out, HBU.out, HH0.out, rfl, HM5.out.ans HB5.out ⟨_, _, _, rfl⟩ ⟨_, _, _, rfl⟩ (put5_kept (p := (· ≠ w.heap.size)) (by simp) _ _ _ _ _)⟩))⟩

end Go.Proofs.YtenejaghgehnoaaGreatDoor

namespace Go.Proofs.YtenejaghgehnoaaGreatDoor
open Go.RowKit Go.Maps

/-- What is left apart: nothing, or a map. -/
def Lft (w' : World) (a : Ft) (base m : Nat) (s : Sh) (lv : Value) (cs' : Css) : Prop :=
  (lv = .map none ∧ cs' = s.cs) ∨ ∃ L g, lv = .map (some L) ∧ Cmap w' L m g ∧ base ≤ L ∧ ¬ a.Mine L ∧ ∀ x, look cs' x = orF (look s.cs) g x
theorem Lft.plain {w w' : World} {a : Ft} {base m : Nat} {s : Sh} {lv : Value} {cs' : Css} (l : Lft w a base m s lv cs') {p : Nat → Prop} (k : Kept p w w') (hp : Plainly p w) (hm : ∀ i, ¬ a.Mine i → base ≤ i → (∃ es clock, w.heap[i]? = some (.map es clock)) → p i) : Lft w' a base m s lv cs' := by
  rcases l with l | ⟨L, g, h1, h2, h3, h4, h5⟩
  · exact .inl l
  · exact .inr ⟨L, g, h1, h2.plain k (hm L h4 h3 h2.isMap) hp, h3, h4, h5⟩
theorem run_texts {ts : List Ty} {most : Nat} : ∀ {ops : List Oq} {l : Css} {xs : List (List UInt8)} {i : Nat}, (runP ts most ops l xs i).why ≠ 0 → (runP ts most ops l xs i).texts = [] ∧ i ≤ (runP ts most ops l xs i).at' ∧ (runP ts most ops l xs i).at' < i + ops.length
  | [], _, _, _, h => absurd rfl h
  | o :: os, l, xs, i, h => by
    unfold runP at h ⊢
    by_cases h0 : (stepP ts most l o).2.2 = 0
    · rw [if_pos h0] at h ⊢
      have := run_texts h
      rw [List.length_cons]
      exact ⟨this.1, by omega, by omega⟩
    · rw [if_neg h0] at h ⊢
      exact ⟨rfl, Nat.le_refl _, by simp⟩
/-- An attempt for nobody. -/
theorem AttP.once {w w' : World} {a : Ft} {n : Nat} {tv : Value} {h : Lk} {s : Sh} {c : Cm} {e : Ending} (t : AttP w w' a n tv h s [] c.ops 32 e) (ok : Sok s) (hr : Rep (tagd s.lk) h) :
    ∃ B' k i why to' tn tc lv h1 lk1 cs', e = .returned (.tuple #[ansV k (.slice to' tn tc) ((i : Nat) : Int) why (.slice none 0 0), lv]) ∧ Fstep a w w' { a with B := B' } ∧ Sm w' { a with B := B' } (n + c.ops.length) tv h1 { s with lk := lk1 } ∧ freed h1 (tag []) = h ∧ Lft w' { a with B := B' } w.heap.size c.ops.length s lv cs' ∧
      (k = 2 → i < c.ops.length) ∧ (onceP s c).2 = { s with cs := cs' } ∧ (onceP s c).1.kind = k ∧ (onceP s c).1.at' = (if k = 2 then placedP c.at' i else (i : Int)) ∧ (onceP s c).1.why = why ∧ Txs w' w.heap.size (.slice to' tn tc) (onceP s c).1.texts := by
  obtain ⟨B', fs, t⟩ := t
  have hn : ∀ c, h c (tag []) = none := none_held hr (fun z hz => (ok.locks z hz).2)
  rcases t with ⟨h1, rfl, sm⟩ | ⟨h1, h2, rfl, sm⟩ | ⟨h1, h2, h3, rfl, sm⟩ | ⟨h1, h2, h3, txv, L, g, rfl, tx, sm, hc, hL, hM, hg⟩
  · have e : onceP s c = (An.of 4, s) := by unfold onceP; rw [if_pos h1]
    exact ⟨B', 4, 0, 0, none, 0, 0, _, h, s.lk, s.cs, rfl, fs, sm, freed_same hn, .inl ⟨rfl, rfl⟩, fun h => (by cases h), by rw [e], by rw [e]; rfl, by rw [e]; rfl, by rw [e]; rfl, by rw [e]; exact Txs.nil _ _⟩
  · have e : onceP s c = (An.of 3, s) := by unfold onceP; rw [if_neg (by simp [h1]), if_pos h2]
    exact ⟨B', 3, 0, 0, none, 0, 0, _, h, s.lk, s.cs, rfl, fs, sm, freed_same hn, .inl ⟨rfl, rfl⟩, fun h => (by cases h), by rw [e], by rw [e]; rfl, by rw [e]; rfl, by rw [e]; rfl, by rw [e]; exact Txs.nil _ _⟩
  · have e : onceP s c = (⟨2, [], placedP c.at' (runP s.types 32 c.ops s.cs [] 0).at', (runP s.types 32 c.ops s.cs [] 0).why⟩, s) := by
      unfold onceP ranP
      rw [if_neg (by simp [h1]), if_neg (by simp [h2]), if_neg h3, if_neg h3]
    have hb := (run_texts h3).2.2
    exact ⟨B', 2, _, _, none, 0, 0, _, h, s.lk, s.cs, rfl, fs, sm, freed_same hn, .inl ⟨rfl, rfl⟩, fun _ => by omega, by rw [e], by rw [e], by rw [e, if_pos rfl], by rw [e], by rw [e]; exact Txs.nil _ _⟩
  · have e : onceP s c = (⟨1, (runP s.types 32 c.ops s.cs [] 0).texts, 0, 0⟩, { s with cs := (runP s.types 32 c.ops s.cs [] 0).left }) := by
      unfold onceP ranP
      rw [if_neg (by simp [h1]), if_neg (by simp [h2]), if_pos h3, if_pos h3]
    obtain ⟨to', tc, rfl⟩ := own_shape_any tx
    exact ⟨B', 1, 0, 0, to', _, tc, _, _, _, (runP s.types 32 c.ops s.cs [] 0).left, rfl, fs, sm, freed_gives hn _, .inr ⟨L, g, rfl, hc, hL, hM, hg⟩, fun h => (by cases h), by rw [e], by rw [e], by rw [e]; rfl, by rw [e], by rw [e]; exact tx⟩

/-- A command that is looked at, but for its Data. -/
structure CmV (w : World) (c : Cm) (ov av : Value) : Prop where
  ops : Ov w ov c.ops
  at' : Cv w av (iv c.at')
  zero : ∀ n k, ov = .slice none n k → k = 0
def cmdV (c : Cm) (ov av dv : Value) : Value := .agg #[.int .i64 c.kind, .string ⟨c.tx.toArray⟩, ov, av, .int .i64 c.lo, .int .i64 c.hi, dv]
theorem CmV.all {w w' : World} {c : Cm} {ov av : Value} (h : CmV w c ov av) (k : Kept (fun _ => True) w w') : CmV w' c ov av := ⟨h.ops.all k, h.at'.all k, h.zero⟩
theorem seven_cell {w : World} {b : Nat} {x0 x1 x2 x3 x4 x5 x6 : Value} {t : TypeId} (h : w.heap[b]? = some (.cells #[x0, x1, x2, x3, x4, x5, x6] t (0, 0))) : w.cell? ⟨b, 0, none⟩ = some x0 ∧ w.cell? ⟨b, 1, none⟩ = some x1 ∧ w.cell? ⟨b, 2, none⟩ = some x2 ∧ w.cell? ⟨b, 3, none⟩ = some x3 ∧ w.cell? ⟨b, 4, none⟩ = some x4 ∧ w.cell? ⟨b, 5, none⟩ = some x5 ∧ w.cell? ⟨b, 6, none⟩ = some x6 := by
  refine ⟨?_, ?_, ?_, ?_, ?_, ?_, ?_⟩ <;> simp [World.cell?, h]
/-- What is so of a command's operations. -/
structure Cok2 (c : Cm) : Prop where
  few : c.ops.length ≤ 4
  short : ∀ o ∈ c.ops, o.cas.length ≤ 1000
  at' : c.at'.length = 0 ∨ c.at'.length = c.ops.length
  tx : c.tx.length ≤ 140737488355327

/-- Where the hashes stand as they did, what is no map is as it was. -/
theorem Sm.calm {w w' : World} {a : Ft} {n n' : Nat} {tv : Value} {h h' : Lk} {s s' : Sh} {B' : Lab → Option Nat} (m : Sm w a n tv h s) (m' : Sm w' { a with B := B' } n' tv h' s') (hs : s'.hs = s.hs) (f : Fstep a w w' { a with B := B' }) : Calm w w' := by
  refine ⟨f.kept.os, f.kept.tape, f.kept.output, f.kept.size, fun i hi hn => ?_⟩
  by_cases q : a.Mine i
  · rcases m.kinds q with rfl | ⟨es, clock, e⟩
    · have h1 := m.self
      have h2 := m'.self
      unfold Af at h1 h2
      rw [hs] at h2
      rw [h1]
      exact h2
    · exact absurd e (hn es clock)
  · exact f.kept.block i hi q
theorem Cv.calm {w w' : World} {v : Value} {xs : List Value} (h : Cv w v xs) (k : Calm w w') : Cv w' v xs := by
  obtain ⟨ao, cap, e, hl, hn, h⟩ := h
  refine ⟨ao, cap, e, hl, hn, fun h0 => ?_⟩
  obtain ⟨b, off, e, hb, hc⟩ := h h0
  have hpb : NoMap w b := noMap_cell (hc 0 h0)
  refine ⟨b, off, e, Nat.lt_of_lt_of_le hb k.size, fun i hi => ?_⟩
  exact (kept_cell k hb hpb).trans (hc i hi)
theorem Ov.calm {w w' : World} {v : Value} {xs : List Oq} (h : Ov w v xs) (k : Calm w w') : Ov w' v xs := h.plain k (Plainly.noMap w)
theorem CmV.calm {w w' : World} {c : Cm} {ov av : Value} (h : CmV w c ov av) (k : Calm w w') : CmV w' c ov av := ⟨h.ops.calm k, h.at'.calm k, h.zero⟩

end Go.Proofs.YtenejaghgehnoaaGreatDoor

namespace Go.Proofs.YtenejaghgehnoaaGreatDoor
open Go.RowKit Go.Maps

/-- maps.Copy of what is left. -/
theorem copyL_any {w : World} {a : Ft} {base N m : Nat} {tv : Value} {h : Lk} {s : Sh} {lv : Value} {cs' : Css} (sm : Sm w a N tv h s) (l : Lft w a base m s lv cs') (hn : N + m ≤ 1000000) :
    Calls Tryz.prog 100 #[.map (some a.C), lv] w fun e w' => e = .returned (.tuple #[]) ∧ Sm w' a (N + m) tv h { s with cs := cs' } ∧ Fstep a w w' a ∧ Kept (· ≠ a.C) w w' := by
  rcases l with ⟨rfl, rfl⟩ | ⟨L, g, rfl, hc, _, hM, hg⟩
  · exact copyM_nil.mono fun e w' h => ⟨h.1, (sm.all h.2).mono (by omega), Fstep.of a h.2, h.2.mono (fun _ _ _ => trivial)⟩
  · refine (copyM_any sm.cases hc (fun e => hM (.inr (.inl e.symm))) hn).mono fun e w' h => ?_
    obtain ⟨r1, r2⟩ := sm.casesTo (cs' := cs') (q := N + m) (by omega) h.2.2 (h.2.1.congr hg)
    exact ⟨h.1, r1, r2, h.2.2⟩

set_option maxRecDepth 100000 in
set_option maxHeartbeats 8000000 in
theorem once_any {w : World} {a : Ft} {n : Nat} {tv ov av dv : Value} {h : Lk} {s : Sh} {c : Cm} (m : Sm w a n tv h s) (ok : Sok s) (hTab : Tab w) (hv : CmV w c ov av) (hdv : ∃ o k l, dv = .slice o k l) (hc : Cok2 c) (hn : n ≤ 800000) :
    Calls Tryz.prog 44 #[.pointer (some ⟨a.S, 0, none⟩), cmdV c ov av dv] w fun e w' => DoP w w' a (n + 10) tv (onceP s c) e := by
  obtain ⟨d1, d2, d3, rfl⟩ := hdv
  obtain ⟨oo, oc, rfl, _⟩ := hv.ops.form
  obtain ⟨ao, ac, rfl, _, _⟩ := hv.at'.ints
  unfold cmdV
  have hX := heap_alloc_new w (.cells #[.int .i64 c.kind, .string ⟨c.tx.toArray⟩, .slice oo c.ops.length oc, .slice ao c.at'.length ac, .int .i64 c.lo, .int .i64 c.hi, .slice d1 d2 d3] 40)
  have k1 := (Kept.refl (fun _ => True) w).alloc (.cells #[.int .i64 c.kind, .string ⟨c.tx.toArray⟩, .slice oo c.ops.length oc, .slice ao c.at'.length ac, .int .i64 c.lo, .int .i64 c.hi, .slice d1 d2 d3] 40)
  have hsz : (w.alloc (.cells #[.int .i64 c.kind, .string ⟨c.tx.toArray⟩, .slice oo c.ops.length oc, .slice ao c.at'.length ac, .int .i64 c.lo, .int .i64 c.hi, .slice d1 d2 d3] 40)).heap.size = w.heap.size + 1 := by simp
  go_enter Tryz.func44, Tryz.ntmps44
  go_upto_region 1 with fail
  have HSz : Hid _ := hsz
  have HX0 : Hid _ := hX
  have HK1 : Hid _ := k1
  clear hX k1 hsz
  generalize w.alloc (.cells #[.int .i64 c.kind, .string ⟨c.tx.toArray⟩, .slice oo c.ops.length oc, .slice ao c.at'.length ac, .int .i64 c.lo, .int .i64 c.hi, .slice d1 d2 d3] 40) = w0 at *
  have hR := heap_alloc_new w0 (.cells #[.int .i64 0, .slice none 0 0, .int .i64 0, .int .i64 0, .slice none 0 0] 35)
  have k2 := (Kept.refl (fun _ => True) w0).alloc (.cells #[.int .i64 0, .slice none 0 0, .int .i64 0, .int .i64 0, .slice none 0 0] 35)
  rw [HSz.out] at hR
  have HR : Hid _ := hR
  have HK : Hid _ := HK1.out.trans k2
  have HX : Hid _ := (k2.block _ (lt_of_block HX0.out) trivial).trans HX0.out
  clear HSz HX0 HK1 hR k2
  generalize w0.alloc (.cells #[.int .i64 0, .slice none 0 0, .int .i64 0, .int .i64 0, .slice none 0 0] 35) = w1 at *
  have HM : Hid (Sm w1 a n tv h s) := m.all HK.out
  have HOK : Hid (Sok s) := ok
  have HV : Hid (CmV w1 c (.slice oo c.ops.length oc) (.slice ao c.at'.length ac)) := hv.all HK.out
  have HC : Hid (Cok2 c) := hc
  have HW1 : Hid (w.heap.size + 1 < w1.heap.size) := lt_of_block HR.out
  have ca := attempt_any (tx := []) (most := 32) HM.out ok (hTab.all HK.out) HV.out.ops hc.short (by have := hc.few; omega) (by simp) (fun z hz => (ok.locks z hz).2) (by have := hc.few; omega) (by decide)
  obtain ⟨⟨x0, x1, x2, x3, x4, x5, x6⟩⟩ : _ ∧ True := ⟨seven_cell HX.out, trivial⟩
  clear m ok hTab hv hc
  go_upto_region 2 with (go_at_call 97; refine Calls.mono ca ?_; rintro e w3 ht; obtain ⟨B', k, i, why, to', tn, tc, lv, h1, lk1, cs', rfl, fs, sm, hfr, hlf, hik, he2, hk1, hk2, hk3, htx⟩ := ht.once HOK.out HM.out.rep; unfold ansV; have HF3 : Hid (Fstep a w1 w3 { a with B := B' }) := fs; have HM3 : Hid (Sm w3 { a with B := B' } (n + c.ops.length) tv h1 { s with lk := lk1 }) := sm; have HFr : Hid (freed h1 (tag []) = h) := hfr; have HLf : Hid (Lft w3 { a with B := B' } w1.heap.size c.ops.length s lv cs') := hlf; have HIk : Hid (k = 2 → i < c.ops.length) := hik; have HE2 : Hid ((onceP s c).2 = { s with cs := cs' }) := he2; have HEk : Hid ((onceP s c).1.kind = k ∧ (onceP s c).1.at' = (if k = 2 then placedP c.at' i else (i : Int)) ∧ (onceP s c).1.why = why) := ⟨hk1, hk2, hk3⟩; have HTx : Hid (Txs w3 w1.heap.size (.slice to' tn tc) (onceP s c).1.texts) := htx; clear ca ht fs sm hfr hlf hik he2 hk1 hk2 hk3 htx x0 x1 x2 x3 x4 x5 x6)
  have kc3 : Calm w1 w3 := HM.out.calm HM3.out rfl HF3.out
  have ka := (Kept.refl (fun _ => True) w3).alloc (.cells #[.int .i64 (k : Nat), .slice to' tn tc, .int .i64 (i : Int), .int .i64 (why : Nat), .slice none 0 0] 35)
  have kc4 := kc3.trans (Calm.of ka)
  have HX4 : Hid _ := kc4.cells HX.out
  have HR4 : Hid _ := kc4.cells HR.out
  have HA4 : Hid (Cv _ (.slice ao c.at'.length ac) (iv c.at')) := HV.out.at'.calm kc4
  have HY4 : Hid _ := heap_alloc_new w3 (.cells #[.int .i64 (k : Nat), .slice to' tn tc, .int .i64 (i : Int), .int .i64 (why : Nat), .slice none 0 0] 35)
  have HM4 : Hid (Sm _ { a with B := B' } (n + c.ops.length) tv h1 { s with lk := lk1 }) := HM3.out.all ka
  have HF4 : Hid (Fstep a w1 _ { a with B := B' }) := HF3.out.ahead ka
  have HLf4 : Hid (Lft _ { a with B := B' } w1.heap.size c.ops.length s lv cs') := HLf.out.plain ka (Plainly.all _) (fun _ _ _ _ => trivial)
  have HTx4 : Hid (Txs _ w1.heap.size (.slice to' tn tc) (onceP s c).1.texts) := HTx.out.kept (p := fun _ => True) ka (fun _ _ => trivial)
  have HYlt : Hid (w1.heap.size ≤ w3.heap.size) := HF3.out.kept.size
  clear kc3 ka kc4 HF3 HM3 HLf HTx HX HR
  generalize w3.alloc (.cells #[.int .i64 (k : Nat), .slice to' tn tc, .int .i64 (i : Int), .int .i64 (why : Nat), .slice none 0 0] 35) = w4 at *
  generalize w3.heap.size = Y at *
  have CT := fun W (q : Kept (NB B') w4 W) => (kept_cell q HM4.out.slt (fun x => by
    have := HM4.out.self
    unfold Af at this
    exact Tw.notMine HM4.out.tb this x)).trans HM4.out.cellT
  have HCH : Hid (∀ W, Calls Tryz.prog 99 #[.string ⟨#[]⟩] W fun e w' => e = .returned (.string ⟨(tag []).toArray⟩) ∧ w' = W) := fun W => holder_any [] (by simp)
  have HCF : Hid (∀ W, Kept (fun _ => True) w4 W → Calls Tryz.prog 98 #[.pointer (some ⟨a.T, 0, none⟩), .string ⟨(tag []).toArray⟩] W fun e w' => ∃ (q : Bool) (B2 : Lab → Option Nat), e = .returned (.bool q) ∧ Tb w' a.T (n + c.ops.length) B2 h ∧ Stp B' W w' B2) := fun W q => by
    have hm := HM4.out.all q
    refine (free_any hm.tb (x := tag []) (by simp [tag]) (by have := HC.out.few; omega) (fun c y e => ?_)).mono fun e w' h => ?_
    · have := (hm.tb.short e).1
      unfold maxLen at this
      omega
    · obtain ⟨b, B2, h1, _, h3, h4⟩ := h
      rw [HFr.out] at h3
      exact ⟨b, B2, h1, h3, h4⟩
  go_cut [19] from 14 to 19 (fun _ wx => ∃ (B2 : Lab → Option Nat), Tb wx a.T (n + c.ops.length) B2 h ∧ Stp B' w4 wx B2)
  case first =>
    clear HM HOK HV HC HW1 HK HX4 HR4 HA4 HY4 HM4 HF4 HLf4 HTx4 HYlt HFr HIk HE2 HEk
    have hR0 : Kept (NB B') w4 w4.drew := (Kept.refl _ _).drew
    go_region_held3 (fun W => Kept (NB B') w4 W) (first | assumption | (repeat (first | exact Kept.refl _ _ | assumption | refine Kept.drew ?_))) (first
      | (go_at_call 99; refine Calls.mono (HCH.out _) ?_; rintro e _ ⟨rfl, rfl⟩)
      | (go_at_call 98; refine Calls.mono (HCF.out _ (by first | assumption | (repeat (first | exact Kept.refl _ _ | assumption | refine Kept.drew ?_)))) ?_; rintro e v6 ⟨b6, B2, rfl, tb, st⟩; have HTB6 : Hid (Tb v6 a.T (n + c.ops.length) B2 h) := tb; have HS6 : Hid (Stp B' w4 v6 B2) := (Stp.of B' ((Kept.refl (fun _ => True) w4).drew)).trans st; have s6 : Kept (NB B') w4 v6 := HS6.out.kept; clear tb st))
    all_goals
      go_wp2_with fail
      go_meet
      exact ⟨_, HTB6.out, HS6.out⟩
  case rest =>
    obtain ⟨B2, tb, st⟩ := hcut
    have kcl : Calm w4 wc := st.kept.mono (fun i _ hi x => Tw.noMap HM4.out.tb hi x)
    obtain ⟨sm5, fs5⟩ := HM4.out.locked (Nat.le_refl _) tb st HM.out.alone HM.out.rep
    have hmine : ∀ i, w1.heap.size ≤ i → (∃ es clock, w4.heap[i]? = some (.map es clock)) → ¬ ({ a with B := B' } : Ft).Mine i → ¬ ({ a with B := B2 } : Ft).Mine i := fun i _ hm hn q => by
      rcases fs5.news i q with e | e
      · exact hn e
      · obtain ⟨es, clock, e'⟩ := hm
        have := lt_of_block e'
        omega
    have HLf5 : Hid (Lft wc { a with B := B2 } w1.heap.size c.ops.length s lv cs') := by
      rcases HLf4.out with l | ⟨L, g, h1, h2, h3, h4, h5⟩
      · exact .inl l
      · exact .inr ⟨L, g, h1, h2.plain st.kept (fun x e => h4 (.inr (.inr (.inr (.inr ⟨x, e⟩))))) ((Plainly.noMap w4).mono (fun i hi x e => Tw.noMap HM4.out.tb hi x e)), h3, hmine L h3 h2.isMap h4, h5⟩
    have HM5 : Hid (Sm wc { a with B := B2 } (n + c.ops.length) tv h s) := sm5
    have HF5 : Hid (Fstep a w1 wc { a with B := B2 }) := HF4.out.trans fs5
    have HX5 : Hid _ := kcl.cells HX4.out
    have HR5 : Hid _ := kcl.cells HR4.out
    have HY5 : Hid _ := kcl.cells HY4.out
    have HA5 : Hid (Cv _ (.slice ao c.at'.length ac) (iv c.at')) := HA4.out.calm kcl
    have HTx5 : Hid (Txs _ w1.heap.size (.slice to' tn tc) (onceP s c).1.texts) := kcl.txs HTx4.out
    have cc := copyL_any (base := w1.heap.size) (m := c.ops.length) HM5.out HLf5.out (by have := HC.out.few; omega)
    have cC := HM5.out.cellC
    clear tb st kcl sm5 fs5 hmine CT HX4 HR4 HA4 HY4 HM4 HF4 HLf4 HTx4
    dsimp only at cC cc
    go_upto_region 4 with (go_at_call 100; refine Calls.mono cc ?_; rintro e w6 ⟨rfl, sm6, fs6, k6⟩; have HM6 : Hid (Sm w6 { a with B := B2 } (n + c.ops.length + c.ops.length) tv h { s with cs := cs' }) := sm6; have HF6 : Hid (Fstep { a with B := B2 } wc w6 { a with B := B2 }) := fs6; have HK6 : Hid (Kept (· ≠ a.C) wc w6) := k6; clear cc sm6 fs6 k6)
    have kcl : Calm wc w6 := HK6.out.mono (fun i _ hi e => by
      obtain ⟨es, clock, q⟩ := HM5.out.cases.isMap
      exact hi es clock (e ▸ q))
    have hX6 := kcl.cells HX5.out
    have hR6 := kcl.cells HR5.out
    have hY6 := kcl.cells HY5.out
    have hA6 := HA5.out.calm kcl
    have HTx6 : Hid (Txs _ w1.heap.size (.slice to' tn tc) (onceP s c).1.texts) := kcl.txs HTx5.out
    have cp := placed_any k i why to' tn tc hA6 (fun hk h0 => by
      have := HIk.out hk
      have := HC.out.at'
      omega)
    unfold ansV at cp
    obtain ⟨pl, hpl⟩ : ∃ pl, (if k = 2 then placedP c.at' i else (i : Int)) = pl := ⟨_, rfl⟩
    rw [hpl] at cp
    have HPl : Hid _ := hpl
    clear hpl
    have HR6 : Hid _ := hR6
    obtain ⟨y0, y1, y2, y3, y4⟩ := five_cell hY6
    obtain ⟨x0, x1, x2, x3, x4, x5, x6⟩ := seven_cell hX6
    clear kcl hX6 hR6 hY6 hA6 HX5 HR5 HY5 HA5 HTx5 cC x0 x1 x2 x4 x5 x6
    obtain ⟨⟨z0, z1, z2, z3, z4⟩, f0, f1, f2, f3, f4⟩ := five_free HR6.out
    have hRk : ∀ w7, Kept (fun _ => True) w6 w7 → w7.heap[w.heap.size + 1]? = _ := fun w7 k7 => (k7.block _ (lt_of_block HR6.out) trivial).trans HR6.out
    have HRk : Hid _ := hRk
    clear hRk z0 z1 z2 z3 z4 f0 f1 f2 f3 f4
    go_wp2_with (go_at_call 101; refine Calls.mono cp ?_; rintro e w7 ⟨rfl, k7⟩; have HK7 : Hid (Kept (fun _ => True) w6 w7) := k7; obtain ⟨⟨z0, z1, z2, z3, z4⟩, f0, f1, f2, f3, f4⟩ := five_free (HRk.out w7 k7); clear cp k7)
    refine bodyPost_ret (results_ans rfl _ _ rfl (put5_at (HRk.out w7 HK7.out) _ _ _ _ _) rfl) rfl ?_
    have hf := (Fstep.of a HK.out).trans ((HF5.out.trans HF6.out).ahead HK7.out)
    have hR7 := HRk.out w7 HK7.out
    have hle : w.heap.size ≤ w1.heap.size := HK.out.size
    refine ⟨B2, h, .slice to' tn tc, ?_, ?_, ?_, put5_new hf.kept (Nat.le_succ _) _ _ _ _ _, hf.news⟩
    · rw [HEk.out.1, HEk.out.2.1, HEk.out.2.2, HPl.out]
      rfl
    · exact Txs.aside (Txs.kept (p := fun _ => True) (w := w6) (ownsRow_low HTx6.out hle) HK7.out (fun _ _ => trivial)) hR7 (by decide) (put5_kept (p := (· ≠ w.heap.size + 1)) (by simp) _ _ _ _ _)
    · rw [HE2.out]
      exact ((HM6.out.all HK7.out).ans hR7 ⟨_, _, _, rfl⟩ ⟨_, _, _, rfl⟩ (put5_kept (p := (· ≠ w.heap.size + 1)) (by simp) _ _ _ _ _)).mono (by have := HC.out.few; omega)

end Go.Proofs.YtenejaghgehnoaaGreatDoor

namespace Go.Proofs.YtenejaghgehnoaaGreatDoor
open Go.RowKit Go.Maps

/-- Prepare of a transaction that nobody knows. -/
def prepA (s : Sh) (c : Cm) : An × Sh :=
  if staleP s c.ops = true then (An.of 4, s) else if busyP s.lk c.tx c.ops = true then (An.of 3, s)
  else (ranP c.at' (runP s.types 32 c.ops s.cs [] 0), if (runP s.types 32 c.ops s.cs [] 0).why = 0 then { s with lk := lgives s.lk c.tx (wantsP c.ops), ps := s.ps ++ [(c.tx, c.ops)] } else s)
theorem prepare_new {s : Sh} {c : Cm} (h1 : look s.ps c.tx = none) (h2 : look s.outs c.tx = none) : prepareP s c = prepA s c := by
  unfold prepareP
  rw [h1]
  dsimp only
  rw [if_neg (by simp [h2])]
  rfl
theorem prepare_done {s : Sh} {c : Cm} (h1 : look s.ps c.tx = none) (h2 : look s.outs c.tx ≠ none) : prepareP s c = (An.of 5, s) := by
  unfold prepareP
  rw [h1]
  dsimp only
  rw [if_pos h2]
theorem prepare_again {s : Sh} {c : Cm} {ops : List Oq} (h1 : look s.ps c.tx = some ops) : prepareP s c = againP s ops := by
  unfold prepareP
  rw [h1]
theorem AttP.prep {w w' : World} {a : Ft} {n : Nat} {tv : Value} {h : Lk} {s : Sh} {c : Cm} {e : Ending} (t : AttP w w' a n tv h s c.tx c.ops 32 e) :
    ∃ B' k i why to' tn tc lv h1 lk1, e = .returned (.tuple #[ansV k (.slice to' tn tc) ((i : Nat) : Int) why (.slice none 0 0), .map lv]) ∧ Fstep a w w' { a with B := B' } ∧ Sm w' { a with B := B' } (n + c.ops.length) tv h1 { s with lk := lk1 } ∧
      (k = 2 → i < c.ops.length) ∧ (k = 1 → (prepA s c).2 = { s with lk := lk1, ps := s.ps ++ [(c.tx, c.ops)] }) ∧ (k ≠ 1 → (prepA s c).2 = { s with lk := lk1 }) ∧ (prepA s c).1.kind = k ∧ (prepA s c).1.at' = (if k = 2 then placedP c.at' i else (i : Int)) ∧ (prepA s c).1.why = why ∧ Txs w' w.heap.size (.slice to' tn tc) (prepA s c).1.texts := by
  obtain ⟨B', fs, t⟩ := t
  rcases t with ⟨h1, rfl, sm⟩ | ⟨h1, h2, rfl, sm⟩ | ⟨h1, h2, h3, rfl, sm⟩ | ⟨h1, h2, h3, txv, L, g, rfl, tx, sm, hc, hL, hM, hg⟩
  · have e : prepA s c = (An.of 4, s) := by unfold prepA; rw [if_pos h1]
    exact ⟨B', 4, 0, 0, none, 0, 0, _, h, s.lk, rfl, fs, sm, fun h => (by cases h), fun h => (by cases h), fun _ => (by rw [e]), by rw [e]; rfl, by rw [e]; rfl, by rw [e]; rfl, by rw [e]; exact Txs.nil _ _⟩
  · have e : prepA s c = (An.of 3, s) := by unfold prepA; rw [if_neg (by simp [h1]), if_pos h2]
    exact ⟨B', 3, 0, 0, none, 0, 0, _, h, s.lk, rfl, fs, sm, fun h => (by cases h), fun h => (by cases h), fun _ => (by rw [e]), by rw [e]; rfl, by rw [e]; rfl, by rw [e]; rfl, by rw [e]; exact Txs.nil _ _⟩
  · have e : prepA s c = (⟨2, [], placedP c.at' (runP s.types 32 c.ops s.cs [] 0).at', (runP s.types 32 c.ops s.cs [] 0).why⟩, s) := by
      unfold prepA ranP
      rw [if_neg (by simp [h1]), if_neg (by simp [h2]), if_neg h3, if_neg h3]
    have hb := (run_texts h3).2.2
    exact ⟨B', 2, _, _, none, 0, 0, _, h, s.lk, rfl, fs, sm, fun _ => by omega, fun h => (by cases h), fun _ => (by rw [e]), by rw [e], by rw [e, if_pos rfl], by rw [e], by rw [e]; exact Txs.nil _ _⟩
  · have e : prepA s c = (⟨1, (runP s.types 32 c.ops s.cs [] 0).texts, 0, 0⟩, { s with lk := lgives s.lk c.tx (wantsP c.ops), ps := s.ps ++ [(c.tx, c.ops)] }) := by
      unfold prepA ranP
      rw [if_neg (by simp [h1]), if_neg (by simp [h2]), if_pos h3, if_pos h3]
    obtain ⟨to', tc, rfl⟩ := own_shape_any tx
    exact ⟨B', 1, 0, 0, to', _, tc, _, _, _, rfl, fs, sm, fun h => (by cases h), fun _ => (by rw [e]), fun h => absurd rfl h, by rw [e], by rw [e]; rfl, by rw [e], by rw [e]; exact tx⟩

theorem Pmap.lookK {w : World} {P n : Nat} {f : List UInt8 → Option (List Oq)} (h : Pmap w P n f) {x : List UInt8} (hx : x.length ≤ 9223372036854775807) :
    ∃ ao m c, Ov w (.slice ao m c) ((f x).getD []) ∧ ∀ W, Kept (fun _ => True) w W → (Instr.lookup 111 (.map (some P)) (.string ⟨x.toArray⟩) true).run Tryz.prog W = .ok (.tuple #[.slice ao m c, .bool (f x).isSome]) W := by
  obtain ⟨fv, m, h1, h2⟩ := h
  have L := fun W (k : Kept (fun _ => True) w W) => (m.kept k trivial).look Tryz.underlying111 (zeroOps W) hx
  cases e : fv x with
  | none =>
    rw [e] at L
    refine ⟨none, 0, 0, ?_, fun W k => ?_⟩
    · rw [(h1 x).1 e]
      exact Ov.empty w
    · rw [(h1 x).1 e]
      exact L W k
  | some r =>
    rw [e] at L
    obtain ⟨s, hs⟩ := Option.ne_none_iff_exists'.1 (show f x ≠ none from fun q => (by rw [(h1 x).2 q] at e; cases e))
    refine ⟨r.a, r.n, r.c, ?_, fun W k => ?_⟩
    · rw [hs]
      exact h2 x r s e hs
    · rw [hs]
      exact L W k
theorem out_zero {l : List (List UInt8 × Nat)} {x : List UInt8} (hz : ∀ k, look l x = some k → k ≠ 0) : (outF l x).getD 0 = 0 ↔ look l x = none := by
  unfold outF
  cases e : look l x with
  | none => simp
  | some k =>
    simp only [Option.map_some, Option.getD_some]
    have := hz k e
    constructor
    · intro h
      have : (k : Int) = 0 := h
      omega
    · intro h
      cases h
/-- Operations' cells. -/
def olay (o : Oq) : List Value := [.int .i64 o.kind, .string ⟨o.cas.toArray⟩, .string ⟨o.name.toArray⟩, .int .i64 o.n]
def orow (l : List Oq) : List Value := l.flatMap olay
theorem olay_len (o : Oq) : (olay o).length = 4 := rfl
theorem orow_one (l : List Oq) : ∀ u ∈ orow l, u.oneCell' = true := by
  intro u hu
  obtain ⟨o, _, h⟩ := List.mem_flatMap.1 hu
  simp only [olay, List.mem_cons, List.not_mem_nil, or_false] at h
  rcases h with rfl | rfl | rfl | rfl <;> rfl
theorem Ov.flat {w : World} {ao : Option Addr} {m c : Nat} {l : List Oq} (h : Ov w (.slice ao m c) l) (hn : ao = none → c = 0) : Fl w (.slice ao m c) m 4 (orow l) := by
  obtain ⟨ao', cap', e, hl, h⟩ := h
  cases e
  refine ⟨ao, c, rfl, by rw [orow, flat_length olay_len], hl, hn, fun h0 => ?_⟩
  obtain ⟨b, off, e, hb, hc⟩ := h h0
  refine ⟨b, off, e, hb, fun j u hu => ?_⟩
  have hj : j < (orow l).length := by
    rcases Nat.lt_or_ge j (orow l).length with q | q
    · exact q
    · rw [List.getElem?_eq_none q] at hu; cases hu
  rw [orow, flat_length olay_len] at hj
  have hi : j / 4 < l.length := by omega
  have := flat_get olay_len l (j / 4) hi (j % 4) (Nat.mod_lt _ (by decide))
  rw [show j / 4 * 4 + j % 4 = j by omega] at this
  have hu' : (orow l)[j]? = (olay l[j / 4])[j % 4]? := this
  rw [hu'] at hu
  obtain ⟨c0, c1, c2, c3⟩ := hc (j / 4) hi
  have hm : j % 4 = 0 ∨ j % 4 = 1 ∨ j % 4 = 2 ∨ j % 4 = 3 := by omega
  rcases hm with e | e | e | e <;> rw [e] at hu <;> simp [olay] at hu <;> subst hu
  · rw [show off + j = off + j / 4 * 4 by omega]; exact c0
  · rw [show off + j = off + j / 4 * 4 + 1 by omega]; exact c1
  · rw [show off + j = off + j / 4 * 4 + 2 by omega]; exact c2
  · rw [show off + j = off + j / 4 * 4 + 3 by omega]; exact c3
theorem own_ov {w : World} {base : Nat} {v : Value} {l : List Oq} (h : w.ownsRow base 61 4 v l.length (orow l)) (hl : l.length ≤ 281474976710656) : Ov w v l := by
  rcases h.2 with ⟨rfl, h0⟩ | ⟨g, cap, cur, rfl, _, hg, _⟩
  · obtain rfl := List.eq_nil_of_length_eq_zero h0
    exact Ov.empty w
  · have hc : ∀ i (_ : i < l.length) (j : Nat), j < 4 → w.cell? ⟨g, 0 + i * 4 + j, none⟩ = (olay l[i])[j]? := fun i hi j hj => by
      have := (h.cellAt (i * 4 + j) (by omega)).trans (flat_get olay_len l i hi j hj)
      rw [Nat.zero_add]
      exact this
    exact ⟨_, _, rfl, hl, fun _ => ⟨g, 0, rfl, lt_of_block hg, fun i hi => ⟨hc i hi 0 (by omega), hc i hi 1 (by omega), hc i hi 2 (by omega), hc i hi 3 (by omega)⟩⟩⟩

end Go.Proofs.YtenejaghgehnoaaGreatDoor

namespace Go.Proofs.YtenejaghgehnoaaGreatDoor
open Go.RowKit Go.Maps

set_option maxRecDepth 100000 in
set_option maxHeartbeats 8000000 in
theorem prepare_any {w : World} {a : Ft} {n : Nat} {tv ov av dv : Value} {h : Lk} {s : Sh} {c : Cm} (m : Sm w a n tv h s) (ok : Sok s) (p : Pok s) (hz : ∀ k, look s.outs c.tx = some k → k ≠ 0) (hTab : Tab w) (hv : CmV w c ov av) (hdv : ∃ o k l, dv = .slice o k l) (hc : Cok2 c) (hn : n ≤ 800000) :
    Calls Tryz.prog 45 #[.pointer (some ⟨a.S, 0, none⟩), cmdV c ov av dv] w fun e w' => DoP w w' a (n + 10) tv (prepareP s c) e := by
  obtain ⟨d1, d2, d3, rfl⟩ := hdv
  obtain ⟨oo, oc, rfl, _⟩ := hv.ops.form
  obtain ⟨ao, ac, rfl, _, _⟩ := hv.at'.ints
  unfold cmdV
  have hX := heap_alloc_new w (.cells #[.int .i64 c.kind, .string ⟨c.tx.toArray⟩, .slice oo c.ops.length oc, .slice ao c.at'.length ac, .int .i64 c.lo, .int .i64 c.hi, .slice d1 d2 d3] 40)
  have k1 := (Kept.refl (fun _ => True) w).alloc (.cells #[.int .i64 c.kind, .string ⟨c.tx.toArray⟩, .slice oo c.ops.length oc, .slice ao c.at'.length ac, .int .i64 c.lo, .int .i64 c.hi, .slice d1 d2 d3] 40)
  have hsz : (w.alloc (.cells #[.int .i64 c.kind, .string ⟨c.tx.toArray⟩, .slice oo c.ops.length oc, .slice ao c.at'.length ac, .int .i64 c.lo, .int .i64 c.hi, .slice d1 d2 d3] 40)).heap.size = w.heap.size + 1 := by simp
  go_enter Tryz.func45, Tryz.ntmps45
  go_upto_region 1 with fail
  have HSz : Hid _ := hsz
  have HX0 : Hid _ := hX
  have HK1 : Hid _ := k1
  clear hX k1 hsz
  generalize w.alloc (.cells #[.int .i64 c.kind, .string ⟨c.tx.toArray⟩, .slice oo c.ops.length oc, .slice ao c.at'.length ac, .int .i64 c.lo, .int .i64 c.hi, .slice d1 d2 d3] 40) = w0 at *
  have hR := heap_alloc_new w0 (.cells #[.int .i64 0, .slice none 0 0, .int .i64 0, .int .i64 0, .slice none 0 0] 35)
  have k2 := (Kept.refl (fun _ => True) w0).alloc (.cells #[.int .i64 0, .slice none 0 0, .int .i64 0, .int .i64 0, .slice none 0 0] 35)
  rw [HSz.out] at hR
  have HR : Hid _ := hR
  have HK : Hid _ := HK1.out.trans k2
  have HX : Hid _ := (k2.block _ (lt_of_block HX0.out) trivial).trans HX0.out
  clear HSz HX0 HK1 hR k2
  generalize w0.alloc (.cells #[.int .i64 0, .slice none 0 0, .int .i64 0, .int .i64 0, .slice none 0 0] 35) = w1 at *
  have HM : Hid (Sm w1 a n tv h s) := m.all HK.out
  have HOK : Hid (Sok s) := ok
  have HP : Hid (Pok s) := p
  have HTb : Hid (Tab w1) := hTab.all HK.out
  have HV : Hid (CmV w1 c (.slice oo c.ops.length oc) (.slice ao c.at'.length ac)) := hv.all HK.out
  have HC : Hid (Cok2 c) := hc
  have HZ : Hid _ := out_zero (l := s.outs) (x := c.tx) hz
  have hctx : c.tx.length ≤ 140737488355327 := hc.tx
  have HW1 : Hid (w.heap.size + 1 < w1.heap.size) := lt_of_block HR.out
  obtain ⟨po, pm, pc, hov, hlp⟩ := HM.out.preps.lookK (x := c.tx) (by omega)
  have hlo : ∀ W, Kept (fun _ => True) w1 W → (Instr.lookup 112 (.map (some a.O)) (.string ⟨c.tx.toArray⟩) false).run Tryz.prog W = .ok (.int .i64 ((outF s.outs c.tx).getD 0)) W := fun W q => (HM.out.outs.kept q trivial).look1 Tryz.underlying112 (zeroNum W) (by omega)
  have C1 := fun W (q : Kept (fun _ => True) w1 W) => (kept_cell q (lt_of_block HX.out) trivial).trans (seven_cell HX.out).2.1
  have C2 := fun W (q : Kept (fun _ => True) w1 W) => (kept_cell q (lt_of_block HX.out) trivial).trans (seven_cell HX.out).2.2.1
  have CP := fun W (q : Kept (fun _ => True) w1 W) => (kept_cell q HM.out.slt trivial).trans HM.out.cellP
  have CO := fun W (q : Kept (fun _ => True) w1 W) => (kept_cell q HM.out.slt trivial).trans HM.out.cellO
  have HOv : Hid (Ov w1 (.slice po pm pc) ((look s.ps c.tx).getD [])) := hov
  clear m ok p hz hTab hv hc hov
  obtain ⟨q, hq⟩ : ∃ q, (look s.ps c.tx).isSome = q := ⟨_, rfl⟩
  rw [hq] at hlp
  have HQ : Hid _ := hq
  generalize (outF s.outs c.tx).getD 0 = v at *
  clear hq
  go_cut [5, 6] from 12 to 21 (fun tA tB wx => tA = .slice po pm pc ∧ tB = .bool q ∧ Kept (fun _ => True) w1 wx)
  case first =>
    clear HX HR HK HM HOK HP HTb HV HC HZ HW1 HOv HQ hlo CO C2
    go_region_held3 (fun W => Kept (fun _ => True) w1 W) (first | assumption | (repeat (first | exact Kept.refl _ _ | assumption | refine Kept.drew ?_))) (fail)
    go_wp2_with fail
    go_meet
    exact ⟨rfl, rfl, (Kept.refl _ _).drew⟩
  case rest =>
    obtain ⟨rfl, rfl, kx⟩ := hcut
    have HKx : Hid (Kept (fun _ => True) w1 wc) := kx
    have HM2 : Hid (Sm wc a n tv h s) := HM.out.all kx
    have HR2 : Hid _ := (kx.block _ (lt_of_block HR.out) trivial).trans HR.out
    have HK2 : Hid (Kept (fun _ => True) w wc) := HK.out.trans kx
    clear hlp CP
    cases q with
    | true =>
      obtain ⟨l, hl⟩ := Option.isSome_iff_exists.1 HQ.out
      have HE : Hid _ := prepare_again hl
      have hO2 := HOv.out.all kx
      rw [hl] at hO2
      have hf := HP.out.few c.tx l hl
      have HO2 : Hid (Ov wc (.slice po pm pc) l) := hO2
      have HFew : Hid _ := hf
      have cb := begin_any HM2.out boundless
      change Calls _ _ #[_, .int .i64 9223372036854775807] _ _ at cb
      clear hl hO2 hf kx C1 C2 CO hlo
      obtain ⟨R, hR⟩ : ∃ R, runP s.types boundless l s.cs [] 0 = R := ⟨_, rfl⟩
      have HRR : Hid _ := hR
      clear hR
      go_upto_region 4 with (first
        | (go_at_call 102; refine Calls.mono cb ?_; rintro e w3 ⟨D, L, rfl, df, hD, hL, k3⟩; have HDf : Hid (Df w3 D a.C L n 0 tv 0 boundless s.types (look s.cs) (fun _ => none)) := df; have HK3 : Hid (Kept (fun _ => True) wc w3) := k3; have HDl : Hid (wc.heap.size ≤ D ∧ wc.heap.size ≤ L) := ⟨hD, hL⟩; have cr := run_any (l := s.cs) (k := s.cs.length) df ⟨fun x => (by simp [orF]), (by simp), count_look HOK.out.cases.alone⟩ HOK.out.types HOK.out.cases (HTb.out.all (HKx.out.trans k3)) (HO2.out.all k3) (fun o ho => (by have := HFew.out.2 o ho; omega)) (by have := HFew.out.1; omega) (by omega) (by decide) (Nat.le_refl _); rw [HRR.out] at cr; clear cb df hD hL k3)
        | (go_at_call 103; refine Calls.mono cr ?_; rintro e w4 ⟨txv, rfl, hq⟩; obtain ⟨to', tc, rfl⟩ := own_shape_any hq.texts; have HQ4 : Hid (Rq w3 w4 D a.C L n 0 tv boundless s.types (look s.cs) (fun _ => none) l R s.cs.length (.slice to' R.texts.length tc)) := hq; clear cr hq))
      have hRlt : w.heap.size + 1 < wc.heap.size := lt_of_block HR2.out
      have HM4 : Hid (Sm w4 a n tv h s) := by
        refine (HM2.out.all HK3.out).beside HQ4.out.kept HDf.out.plainly (fun i q => ?_) ?_
        · have := HM2.out.mine_lt q
          have := HDl.out
          omega
        · obtain ⟨cs, fr, e⟩ := HM2.out.tself
          have := lt_of_block e
          have := HDl.out
          omega
      have HF4 : Hid (Fstep a w w4 a) := by
        refine ⟨((HK2.out.trans HK3.out).mono (fun _ _ _ => trivial)).then HQ4.out.kept (fun i hi _ => ?_), fun _ h => .inl h⟩
        have := HDl.out
        have := HK2.out.size
        omega
      have HB4 : Hid (w4.heap[w.heap.size + 1]? = _) := ((HQ4.out.kept.block (w.heap.size + 1) (by have := HK3.out.size; omega) (by have := HDl.out; omega)).trans ((HK3.out.block _ hRlt trivial).trans HR2.out))
      obtain ⟨⟨z0, z1, z2, z3, z4⟩, f0, f1, f2, f3, f4⟩ := five_free HB4.out
      clear hRlt
      go_wp2_with fail
      refine bodyPost_ret (results_ans rfl _ _ rfl (put5_at HB4.out _ _ _ _ _) rfl) rfl ?_
      rw [HE.out]
      unfold againP
      rw [HRR.out]
      have hle : w.heap.size ≤ w3.heap.size := Nat.le_trans HK2.out.size HK3.out.size
      exact ⟨a.B, h, _, rfl, Txs.aside (ownsRow_low HQ4.out.texts hle) HB4.out (by decide) (put5_kept (p := (· ≠ w.heap.size + 1)) (by simp) _ _ _ _ _), (HM4.out.ans HB4.out ⟨_, _, _, rfl⟩ ⟨_, _, _, rfl⟩ (put5_kept (p := (· ≠ w.heap.size + 1)) (by simp) _ _ _ _ _)).mono (by omega), put5_new HF4.out.kept (Nat.le_succ _) _ _ _ _ _, HF4.out.news⟩
    | false =>
      have hpn : look s.ps c.tx = none := by simpa using HQ.out
      have HPN : Hid _ := hpn
      clear hpn HOv
      go_upto_region 5 with fail
      go_cut [40] from 33 to 40 (fun tA wx => tA = .bool (v != 0) ∧ Kept (fun _ => True) w1 wx)
      case first =>
        clear HX HR HK HM HOK HP HTb HV HC HZ HW1 HQ HPN HM2 HR2 HK2 HKx C2
        go_region_held3 (fun W => Kept (fun _ => True) w1 W) (first | assumption | (repeat (first | exact Kept.refl _ _ | assumption | refine Kept.drew ?_))) (fail)
        go_wp2_with fail
        go_meet
        exact ⟨rfl, kx.drew⟩
      case rest =>
        obtain ⟨rfl, ky⟩ := hcut
        clear kx HKx HM2 HR2 HK2 C1 C2 CO hlo
        have HM2 : Hid (Sm wc a n tv h s) := HM.out.all ky
        have HR2 : Hid _ := (ky.block _ (lt_of_block HR.out) trivial).trans HR.out
        have HX2 : Hid _ := (ky.block _ (lt_of_block HX.out) trivial).trans HX.out
        have HV2 : Hid (CmV wc c (.slice oo c.ops.length oc) (.slice ao c.at'.length ac)) := HV.out.all ky
        have HK2 : Hid (Kept (fun _ => True) w wc) := HK.out.trans ky
        have HTb2 : Hid (Tab wc) := HTb.out.all ky
        clear ky
        by_cases hv : v = 0
        · have hv' : (v != 0) = false := by simp [hv]
          have hon : look s.outs c.tx = none := HZ.out.1 hv
          have HE : Hid _ := prepare_new HPN.out hon
          have hfr : ∀ z ∈ s.lk, z.t ≠ c.tx := fun z hz e => HP.out.mine z hz (e ▸ HPN.out)
          have ca := attempt_any (tx := c.tx) (most := 32) HM2.out HOK.out HTb2.out HV2.out.ops HC.out.short (by have := HC.out.few; omega) hctx hfr (by have := HC.out.few; omega) (by decide)
          obtain ⟨x0, x1, x2, x3, x4, x5, x6⟩ := seven_cell HX2.out
          clear hv hon hfr
          go_upto_region 8 with (go_at_call 97; refine Calls.mono ca ?_; rintro e w3 ht; obtain ⟨B', k, i, why, to', tn, tc, lv, h1, lk1, rfl, fs, sm, hik, he1, he2, hk1, hk2, hk3, htx⟩ := ht.prep; unfold ansV; have HF3 : Hid (Fstep a wc w3 { a with B := B' }) := fs; have HM3 : Hid (Sm w3 { a with B := B' } (n + c.ops.length) tv h1 { s with lk := lk1 }) := sm; have HIk : Hid (k = 2 → i < c.ops.length) := hik; have HE1 : Hid (k = 1 → (prepA s c).2 = { s with lk := lk1, ps := s.ps ++ [(c.tx, c.ops)] }) := he1; have HE2 : Hid (k ≠ 1 → (prepA s c).2 = { s with lk := lk1 }) := he2; have HEk : Hid ((prepA s c).1.kind = k ∧ (prepA s c).1.at' = (if k = 2 then placedP c.at' i else (i : Int)) ∧ (prepA s c).1.why = why) := ⟨hk1, hk2, hk3⟩; have HTx : Hid (Txs w3 wc.heap.size (.slice to' tn tc) (prepA s c).1.texts) := htx; clear ca ht fs sm hik he1 he2 hk1 hk2 hk3 htx x0 x1 x2 x3 x4 x5 x6)
          have kc3 : Calm wc w3 := HM2.out.calm HM3.out rfl HF3.out
          have ka := (Kept.refl (fun _ => True) w3).alloc (.cells #[.int .i64 (k : Nat), .slice to' tn tc, .int .i64 (i : Int), .int .i64 (why : Nat), .slice none 0 0] 35)
          have kc4 := kc3.trans (Calm.of ka)
          have HX4 : Hid _ := kc4.cells HX2.out
          have HR4 : Hid _ := kc4.cells HR2.out
          have HV4 : Hid (CmV _ c (.slice oo c.ops.length oc) (.slice ao c.at'.length ac)) := HV2.out.calm kc4
          have HY4 : Hid _ := heap_alloc_new w3 (.cells #[.int .i64 (k : Nat), .slice to' tn tc, .int .i64 (i : Int), .int .i64 (why : Nat), .slice none 0 0] 35)
          have HM4 : Hid (Sm _ { a with B := B' } (n + c.ops.length) tv h1 { s with lk := lk1 }) := HM3.out.all ka
          have HF4 : Hid (Fstep a wc _ { a with B := B' }) := HF3.out.ahead ka
          have HTx4 : Hid (Txs _ wc.heap.size (.slice to' tn tc) (prepA s c).1.texts) := HTx.out.kept (p := fun _ => True) ka (fun _ _ => trivial)
          clear kc3 ka kc4 HF3 HM3 HTx HX HR HX2 HR2 HV HV2
          generalize w3.alloc (.cells #[.int .i64 (k : Nat), .slice to' tn tc, .int .i64 (i : Int), .int .i64 (why : Nat), .slice none 0 0] 35) = w4 at *
          generalize w3.heap.size = Y at *
          have hstep : ∃ ps', ((k = 1 ∧ ps' = s.ps ++ [(c.tx, c.ops)]) ∨ (k ≠ 1 ∧ ps' = s.ps)) ∧ (prepA s c).2 = { s with lk := lk1, ps := ps' } := by
            by_cases h1 : k = 1
            · exact ⟨_, .inl ⟨h1, rfl⟩, HE1.out h1⟩
            · exact ⟨_, .inr ⟨h1, rfl⟩, HE2.out h1⟩
          obtain ⟨ps', hps, hes⟩ := hstep
          have HPs : Hid _ := hps
          have HEs : Hid ((prepA s c).2 = { s with lk := lk1, ps := ps' }) := hes
          clear hps hes
          obtain ⟨y0, y1, y2, y3, y4⟩ := five_cell HY4.out
          go_upto_if 53 with fail
          go_cut [] from 51 to 62 (fun wx => Sm wx { a with B := B' } (n + c.ops.length + 1) tv h1 { s with lk := lk1, ps := ps' } ∧ Fstep { a with B := B' } w4 wx { a with B := B' } ∧ Calm w4 wx)
          case first =>
            by_cases h1 : k = 1
            · subst h1
              obtain ⟨_, rfl⟩ | ⟨h1, _⟩ := HPs.out
              · have CX1 := fun W (q : Kept (· ≠ a.P) w4 W) => (kept_cell q (lt_of_block HX4.out) (fun e => by
                  obtain ⟨es, clock, e'⟩ := HM4.out.preps.isMap
                  have := HX4.out
                  rw [e] at this
                  exact noMap_cells this es clock e')).trans (seven_cell HX4.out).2.1
                have CX2 := fun W (q : Kept (· ≠ a.P) w4 W) => (kept_cell q (lt_of_block HX4.out) (fun e => by
                  obtain ⟨es, clock, e'⟩ := HM4.out.preps.isMap
                  have := HX4.out
                  rw [e] at this
                  exact noMap_cells this es clock e')).trans (seven_cell HX4.out).2.2.1
                have CP := fun W (q : Kept (· ≠ a.P) w4 W) => (kept_cell q HM4.out.slt (HM4.out.notS HM4.out.preps.isMap).1).trans HM4.out.cellP
                have HCc : Hid (∀ W, Kept (fun _ => True) w4 W → Calls Tryz.prog 104 #[.slice oo c.ops.length oc] W fun e w' => ∃ v', e = .returned v' ∧ Ov w' v' c.ops ∧ Kept (fun _ => True) W w') := fun W q => by
                  have hf := HC.out.few
                  refine (clone_ops ((HV4.out.ops.flat (fun e => HV4.out.zero _ _ (by rw [e]))).all q) (orow_one _) (by omega)).mono fun e w' h => ?_
                  obtain ⟨v', h1, h2, h3⟩ := h
                  exact ⟨v', h1, own_ov h2 (by omega), h3⟩
                have HSt : Hid (∀ W ao' m' c', Kept (fun _ => True) w4 W → Ov W (.slice ao' m' c') c.ops → ∃ w', (Instr.mapUpdate 111 (.map (some a.P)) (.string ⟨c.tx.toArray⟩) (.slice ao' m' c')).run Tryz.prog W = .ok () w' ∧ Pmap w' a.P (n + c.ops.length + 1) (look (s.ps ++ [(c.tx, c.ops)])) ∧ Kept (· ≠ a.P) W w') := fun W ao' m' c' q ho => by
                  have hf := HC.out.few
                  obtain ⟨w', e1, e2, e3, _⟩ := (HM4.out.all q).preps.store (x := c.tx) (by omega) (by omega) ho
                  refine ⟨w', e1, e2.congr (fun x => ?_), e3⟩
                  rw [← put_new HPN.out, look_put]
                  rfl
                go_upto_region 9 with fail
                clear y0 y1 y2 y3 y4
                go_region_held3 (fun W => Kept (· ≠ a.P) w4 W) (first | assumption | (repeat (first | exact Kept.refl _ _ | assumption | refine Kept.drew ?_))) (first
                  | (go_at_call 104; refine Calls.mono (HCc.out _ (by first | assumption | (repeat (first | exact Kept.refl _ _ | assumption | refine Kept.drew ?_)))) ?_; rintro e v5 ⟨v', rfl, ho5, m5⟩; obtain ⟨uo, uc, rfl, _⟩ := ho5.form; have p5 : Kept (fun _ => True) w4 v5 := Kept.trans (by first | assumption | (repeat (first | exact Kept.refl _ _ | assumption | refine Kept.drew ?_))) m5; have s5 : Kept (· ≠ a.P) w4 v5 := p5.mono (fun _ _ _ => trivial); obtain ⟨w7, hst, hm7, k7⟩ := HSt.out _ _ _ _ p5 ho5; have HM7 : Hid (Pmap w7 a.P (n + c.ops.length + 1) (look (s.ps ++ [(c.tx, c.ops)]))) := hm7; have HK7 : Hid (Kept (· ≠ a.P) w4 w7) := Kept.trans s5 k7; have s7 : Kept (· ≠ a.P) w4 w7 := HK7.out; clear ho5 m5 hm7 k7))
                go_wp2_with fail
                go_meet
                obtain ⟨r1, r2⟩ := HM4.out.prepsTo (q := n + c.ops.length + 1) (by omega) HK7.out HM7.out
                exact ⟨r1, r2, HK7.out.mono (fun i _ hi e => by
                  obtain ⟨es, clock, e'⟩ := HM4.out.preps.isMap
                  exact hi es clock (e ▸ e'))⟩
              · exact absurd rfl h1
            · obtain ⟨h1', _⟩ | ⟨_, rfl⟩ := HPs.out
              · exact absurd h1' h1
              · have g0 : ((k : Int) == 1) = false := by simp; omega
                have g0' : ¬ ((k : Int) = 1) := by omega
                go_wp2_with fail
                go_meet
                exact ⟨HM4.out.mono (by omega), Fstep.refl _ _, Calm.refl _⟩
          case rest =>
            obtain ⟨sm6, fs6, kcl⟩ := hcut
            have HM6 : Hid (Sm wc { a with B := B' } (n + c.ops.length + 1) tv h1 { s with lk := lk1, ps := ps' }) := sm6
            have HF6 : Hid (Fstep { a with B := B' } w4 wc { a with B := B' }) := fs6
            have hX6 := kcl.cells HX4.out
            have hR6 := kcl.cells HR4.out
            have hY6 := kcl.cells HY4.out
            have hA6 := HV4.out.at'.calm kcl
            have HTx6 : Hid (Txs _ _ (.slice to' tn tc) (prepA s c).1.texts) := kcl.txs HTx4.out
            have cp := placed_any k i why to' tn tc hA6 (fun hk h0 => by
              have := HIk.out hk
              have := HC.out.at'
              omega)
            unfold ansV at cp
            obtain ⟨pl, hpl⟩ : ∃ pl, (if k = 2 then placedP c.at' i else (i : Int)) = pl := ⟨_, rfl⟩
            rw [hpl] at cp
            have HPl : Hid _ := hpl
            have HR6 : Hid _ := hR6
            clear hpl y0 y1 y2 y3 y4
            obtain ⟨y0, y1, y2, y3, y4⟩ := five_cell hY6
            obtain ⟨x0, x1, x2, x3, x4, x5, x6⟩ := seven_cell hX6
            have HRk : Hid (∀ w7, Kept (fun _ => True) wc w7 → w7.heap[w.heap.size + 1]? = _) := fun w7 k7 => (k7.block _ (lt_of_block HR6.out) trivial).trans HR6.out
            clear kcl hX6 hR6 hY6 hA6 x0 x1 x2 x4 x5 x6 sm6 fs6
            go_wp2_with (go_at_call 101; refine Calls.mono cp ?_; rintro e w7 ⟨rfl, k7⟩; have HK7 : Hid (Kept (fun _ => True) wc w7) := k7; obtain ⟨⟨z0, z1, z2, z3, z4⟩, f0, f1, f2, f3, f4⟩ := five_free (HRk.out w7 k7); clear cp k7)
            refine bodyPost_ret (results_ans rfl _ _ rfl (put5_at (HRk.out w7 HK7.out) _ _ _ _ _) rfl) rfl ?_
            have hf := (Fstep.of a HK2.out).trans ((HF4.out.trans HF6.out).ahead HK7.out)
            have hR7 := HRk.out w7 HK7.out
            rw [HE.out]
            refine ⟨B', h1, .slice to' tn tc, ?_, ?_, ?_, put5_new hf.kept (Nat.le_succ _) _ _ _ _ _, hf.news⟩
            · rw [HEk.out.1, HEk.out.2.1, HEk.out.2.2, HPl.out]
              rfl
            · exact Txs.aside (Txs.kept (p := fun _ => True) (w := wc) (ownsRow_low HTx6.out HK2.out.size) HK7.out (fun _ _ => trivial)) hR7 (by decide) (put5_kept (p := (· ≠ w.heap.size + 1)) (by simp) _ _ _ _ _)
            · rw [HEs.out]
              exact ((HM6.out.all HK7.out).ans hR7 ⟨_, _, _, rfl⟩ ⟨_, _, _, rfl⟩ (put5_kept (p := (· ≠ w.heap.size + 1)) (by simp) _ _ _ _ _)).mono (by have := HC.out.few; omega)
        · have hv' : (v != 0) = true := by simpa using hv
          have HE : Hid _ := prepare_done HPN.out (fun e => hv (HZ.out.2 e))
          obtain ⟨⟨z0, z1, z2, z3, z4⟩, f0, f1, f2, f3, f4⟩ := five_free HR2.out
          clear hv
          go_wp2_with fail
          refine bodyPost_ret (results_ans rfl _ _ rfl (put5_at HR2.out _ _ _ _ _) rfl) rfl ?_
          rw [HE.out]
          exact ⟨a.B, h, _, rfl, Txs.nil _ _, (HM2.out.ans HR2.out ⟨_, _, _, rfl⟩ ⟨_, _, _, rfl⟩ (put5_kept (p := (· ≠ w.heap.size + 1)) (by simp) _ _ _ _ _)).mono (by omega), put5_new HK2.out (Nat.le_succ _) _ _ _ _ _ |>.mono (fun _ _ _ => trivial), fun _ h => .inl h⟩

end Go.Proofs.YtenejaghgehnoaaGreatDoor

namespace Go.Proofs.YtenejaghgehnoaaGreatDoor
open Go.RowKit Go.Maps

theorem all_take {p : Oq → Bool} {l : List Oq} {i : Nat} (hi : i < l.length) : (l.take (i + 1)).all p = ((l.take i).all p && p l[i]) := by
  rw [List.take_succ_eq_append_getElem hi, List.all_append]
  simp
theorem all_no {p : Oq → Bool} {l : List Oq} {i : Nat} (hi : i < l.length) (h : p l[i] = false) : l.all p = false := by
  cases e : l.all p with
  | false => rfl
  | true =>
    have := List.all_eq_true.1 e l[i] (List.getElem_mem hi)
    rw [h] at this
    cases this
def kindOk (o : Oq) : Bool := decide (1 ≤ o.kind) && decide (o.kind ≤ 5)
def sizesOk (c : Cm) : Bool := decide (c.ops.length ≠ 0) && decide (c.ops.length ≤ 4) && (decide (c.at'.length = 0) || decide (c.at'.length = c.ops.length))
theorem opsOk_parts (c : Cm) : opsOk c = (sizesOk c && c.ops.all kindOk) := rfl

set_option maxRecDepth 100000 in
set_option maxHeartbeats 8000000 in
theorem formedOps_any {w : World} {ov av dv : Value} {c : Cm} (hv : CmV w c ov av) (hdv : ∃ o k l, dv = .slice o k l) :
    Calls Tryz.prog 96 #[cmdV c ov av dv] w fun e w' => e = .returned (.bool (opsOk c)) ∧ Kept (fun _ => True) w w' := by
  obtain ⟨d1, d2, d3, rfl⟩ := hdv
  obtain ⟨oo, oc, rfl, ho⟩ := hv.ops.form
  obtain ⟨ao, ac, rfl, ha, _⟩ := hv.at'.ints
  unfold cmdV
  have HV : Hid (CmV w c (.slice oo c.ops.length oc) (.slice ao c.at'.length ac)) := hv
  have hX := heap_alloc_new w (.cells #[.int .i64 c.kind, .string ⟨c.tx.toArray⟩, .slice oo c.ops.length oc, .slice ao c.at'.length ac, .int .i64 c.lo, .int .i64 c.hi, .slice d1 d2 d3] 40)
  have k1 := (Kept.refl (fun _ => True) w).alloc (.cells #[.int .i64 c.kind, .string ⟨c.tx.toArray⟩, .slice oo c.ops.length oc, .slice ao c.at'.length ac, .int .i64 c.lo, .int .i64 c.hi, .slice d1 d2 d3] 40)
  have HX : Hid _ := hX
  have HK : Hid _ := k1
  rw [opsOk_parts]
  clear hv hX k1
  go_enter Tryz.func96, Tryz.ntmps96
  go_upto_region 1 with fail
  generalize w.alloc (.cells #[.int .i64 c.kind, .string ⟨c.tx.toArray⟩, .slice oo c.ops.length oc, .slice ao c.at'.length ac, .int .i64 c.lo, .int .i64 c.hi, .slice d1 d2 d3] 40) = w1 at *
  generalize w.heap.size = X at *
  obtain ⟨x0, x1, x2, x3, x4, x5, x6⟩ := seven_cell HX.out
  cases hq : sizesOk c with
  | false =>
    have HSz : Hid _ := hq
    have HF : Hid (¬ (c.ops.length ≠ 0 ∧ c.ops.length ≤ 4 ∧ (c.at'.length = 0 ∨ c.at'.length = c.ops.length))) := by
      intro h
      have : sizesOk c = true := by
        unfold sizesOk
        simp only [Bool.and_eq_true, decide_eq_true_eq, Bool.or_eq_true]
        exact ⟨⟨h.1, h.2.1⟩, h.2.2⟩
      rw [hq] at this
      cases this
    clear hq
    by_cases h1 : c.ops.length = 0
    · have g1 : ((c.ops.length : Int) == 0) = true := beq_iff_eq.2 (by omega)
      clear h1
      go_wp2_with fail
      go_ret
      rw [HSz.out]
      exact ⟨rfl, HK.out⟩
    · have g1 : ((c.ops.length : Int) == 0) = false := beq_eq_false_iff_ne.2 (by omega)
      by_cases h2 : 4 < c.ops.length
      · have g2 : (4 : Int) < (c.ops.length : Int) := by omega
        clear h1 h2
        go_wp2_with fail
        go_ret
        rw [HSz.out]
        exact ⟨rfl, HK.out⟩
      · have g2 : ¬ ((4 : Int) < (c.ops.length : Int)) := by omega
        have hh := HF.out
        have h3 : ¬ (c.at'.length = 0 ∨ c.at'.length = c.ops.length) := fun h => hh ⟨h1, by omega, h⟩
        have g3 : ((c.at'.length : Int) != 0) = true := bne_iff_ne.2 (by omega)
        have g4 : ((c.at'.length : Int) != (c.ops.length : Int)) = true := bne_iff_ne.2 (by omega)
        clear h1 h2 h3 hh
        go_wp2_with fail
        go_ret
        rw [HSz.out]
        exact ⟨rfl, HK.out⟩
  | true =>
    have HSz : Hid _ := hq
    have hh : (c.ops.length ≠ 0 ∧ c.ops.length ≤ 4) ∧ (c.at'.length = 0 ∨ c.at'.length = c.ops.length) := by
      unfold sizesOk at hq
      simpa only [Bool.and_eq_true, decide_eq_true_eq, Bool.or_eq_true] using hq
    clear hq
    have g1 : ((c.ops.length : Int) == 0) = false := beq_eq_false_iff_ne.2 (by omega)
    have g2 : ¬ ((4 : Int) < (c.ops.length : Int)) := by omega
    have H0 : Hid ((c.ops.take 0).all kindOk = true) := rfl
    go_cut [29] from 5 to 29 (fun tA wx => tA = .bool false ∧ wx = w1)
    case first =>
      clear HV HX HK H0
      by_cases h3 : c.at'.length = 0
      · have g3 : ((c.at'.length : Int) != 0) = false := bne_eq_false_iff_eq.2 (by omega)
        clear hh h3
        go_wp2_with fail
        go_meet
        exact ⟨rfl, rfl⟩
      · have g3 : ((c.at'.length : Int) != 0) = true := bne_iff_ne.2 (by omega)
        have g4 : ((c.at'.length : Int) != (c.ops.length : Int)) = false := bne_eq_false_iff_eq.2 (by omega)
        clear hh h3
        go_wp2_with fail
        go_meet
        exact ⟨rfl, rfl⟩
    case rest =>
    obtain ⟨rfl, hwc⟩ := hcut
    subst wc
    clear g1 g2 hh
    go_wp2_with fail
    go_loopw [4, 33] (fun _ ti wr => ∃ i : Nat, i ≤ c.ops.length ∧ ti = .int .i64 i ∧ (c.ops.take i).all kindOk = true ∧ Kept (fun _ => True) w1 wr) (fun _ ti _ => c.ops.length - (intOf ti).toNat)
    case atStart => exact ⟨0, Nat.zero_le _, rfl, H0.out, Kept.refl _ _⟩
    case round =>
      obtain ⟨i, hi, rfl, hall, hk⟩ := hrel
      have HA : Hid _ := hall
      have HKr : Hid (Kept (fun _ => True) w1 wr) := hk
      clear hall
      by_cases hlt : i < c.ops.length
      · obtain ⟨b, off, rfl, hb, q0, q1, q2, q3⟩ := HV.out.ops.at i hlt
        rw [← kept_cell (HK.out.trans hk) hb trivial] at q0 q1 q2 q3
        have HT : Hid _ := all_take (p := kindOk) hlt
        have HN : Hid _ := all_no (p := kindOk) hlt
        have i1 : (i : Int) < (c.ops.length : Int) := by omega
        have i0 : (0 : Int) ≤ (i : Int) := by omega
        clear hb hk x0 x1 x2 x3 x4 x5 x6
        generalize c.ops[i] = o at *
        have HKa : Hid _ := HKr.out.alloc (.cells #[.int .i64 o.kind, .string ⟨o.cas.toArray⟩, .string ⟨o.name.toArray⟩, .int .i64 o.n] 61)
        by_cases h1 : o.kind < 1
        · have HB : Hid (kindOk o = false) := by
            show _ = _
            unfold kindOk
            rw [decide_eq_false (by omega)]
            rfl
          go_wp2_with fail
          go_ret
          rw [HSz.out, HN.out HB.out]
          exact ⟨rfl, HK.out.trans HKa.out⟩
        · by_cases h2 : 5 < o.kind
          · have HB : Hid (kindOk o = false) := by
              show _ = _
              unfold kindOk
              rw [decide_eq_false (p := o.kind ≤ 5) (by omega), Bool.and_false]
            go_wp2_with fail
            go_ret
            rw [HSz.out, HN.out HB.out]
            exact ⟨rfl, HK.out.trans HKa.out⟩
          · have HB : Hid (kindOk o = true) := by
              show _ = _
              unfold kindOk
              rw [decide_eq_true (by omega), decide_eq_true (by omega)]
              rfl
            go_wp2_with fail
            go_roundw
            case rel => exact ⟨i + 1, by omega, by go_num, by rw [HT.out, HA.out, HB.out]; rfl, HKa.out⟩
            case measure => simp [intOf]; omega
      · obtain rfl : i = c.ops.length := by omega
        have i1 : ¬ ((c.ops.length : Int) < (c.ops.length : Int)) := by omega
        clear hk
        go_wp2_with fail
        go_ret
        have := HA.out
        rw [List.take_length] at this
        rw [HSz.out, this]
        exact ⟨rfl, HK.out.trans HKr.out⟩

end Go.Proofs.YtenejaghgehnoaaGreatDoor

namespace Go.Proofs.YtenejaghgehnoaaGreatDoor
open Go.RowKit Go.Maps

theorem formed_once {c : Cm} (h : c.kind = 1) : formedP c = opsOk c := by unfold formedP; rw [if_pos h]
theorem formed_prepare {c : Cm} (h : c.kind = 2) : formedP c = (decide (c.tx ≠ []) && opsOk c) := by unfold formedP; rw [if_neg (by omega), if_pos h]
theorem formed_end {c : Cm} (h : c.kind = 3 ∨ c.kind = 4) : formedP c = decide (c.tx ≠ []) := by unfold formedP; rw [if_neg (by omega), if_neg (by omega), if_pos h]

set_option maxRecDepth 100000 in
set_option maxHeartbeats 8000000 in
theorem formed_few {w : World} {ov av dv : Value} {c : Cm} (hv : CmV w c ov av) (hdv : ∃ o k l, dv = .slice o k l) (hk4 : c.kind = 1 ∨ c.kind = 2 ∨ c.kind = 3 ∨ c.kind = 4) :
    Calls Tryz.prog 43 #[cmdV c ov av dv] w fun e w' => e = .returned (.bool (formedP c)) ∧ Kept (fun _ => True) w w' := by
  obtain ⟨d1, d2, d3, rfl⟩ := hdv
  obtain ⟨oo, oc, rfl, ho⟩ := hv.ops.form
  obtain ⟨ao, ac, rfl, ha, _⟩ := hv.at'.ints
  have hX := heap_alloc_new w (.cells #[.int .i64 c.kind, .string ⟨c.tx.toArray⟩, .slice oo c.ops.length oc, .slice ao c.at'.length ac, .int .i64 c.lo, .int .i64 c.hi, .slice d1 d2 d3] 40)
  have k1 := (Kept.refl (fun _ => True) w).alloc (.cells #[.int .i64 c.kind, .string ⟨c.tx.toArray⟩, .slice oo c.ops.length oc, .slice ao c.at'.length ac, .int .i64 c.lo, .int .i64 c.hi, .slice d1 d2 d3] 40)
  have cf := formedOps_any (dv := .slice d1 d2 d3) (hv.all k1) ⟨_, _, _, rfl⟩
  unfold cmdV at cf ⊢
  have HX : Hid _ := hX
  have HK : Hid _ := k1
  clear hv hX k1
  go_enter Tryz.func43, Tryz.ntmps43
  go_upto_region 1 with fail
  generalize w.alloc (.cells #[.int .i64 c.kind, .string ⟨c.tx.toArray⟩, .slice oo c.ops.length oc, .slice ao c.at'.length ac, .int .i64 c.lo, .int .i64 c.hi, .slice d1 d2 d3] 40) = w1 at *
  generalize w.heap.size = X at *
  obtain ⟨x0, x1, x2, x3, x4, x5, x6⟩ := seven_cell HX.out
  rcases hk4 with hk | hk | hk | hk
  · have HE : Hid _ := formed_once hk
    have e1 : (c.kind == 1) = true := by rw [hk]; rfl
    clear hk
    go_wp2_with (go_at_call 96; refine Calls.mono cf ?_; rintro e w2 ⟨rfl, k2⟩; have HK2 : Hid _ := k2; clear cf k2)
    go_ret
    rw [HE.out]
    exact ⟨rfl, HK.out.trans HK2.out⟩
  · have HE : Hid _ := formed_prepare hk
    have e1 : (c.kind == 1) = false := by rw [hk]; rfl
    have e2 : (c.kind == 2) = true := by rw [hk]; rfl
    clear hk
    by_cases ht : c.tx = []
    · have t1 : c.tx.isEmpty = true := by simp [ht]
      have HD : Hid (decide (c.tx ≠ []) = false) := decide_eq_false (fun h => h ht)
      clear ht
      go_wp2_with fail
      go_ret
      rw [HE.out, HD.out]
      exact ⟨rfl, HK.out⟩
    · have t1 : c.tx.isEmpty = false := by simp [ht]
      have HD : Hid (decide (c.tx ≠ []) = true) := decide_eq_true ht
      clear ht
      go_wp2_with (go_at_call 96; refine Calls.mono cf ?_; rintro e w2 ⟨rfl, k2⟩; have HK2 : Hid _ := k2; clear cf k2)
      go_ret
      rw [HE.out, HD.out]
      exact ⟨rfl, HK.out.trans HK2.out⟩
  · have HE : Hid _ := formed_end (.inl hk)
    have e1 : (c.kind == 1) = false := by rw [hk]; rfl
    have e2 : (c.kind == 2) = false := by rw [hk]; rfl
    have e3 : (c.kind == 3) = true := by rw [hk]; rfl
    clear hk
    by_cases ht : c.tx = []
    · have t1 : c.tx.isEmpty = true := by simp [ht]
      have HD : Hid (decide (c.tx ≠ []) = false) := decide_eq_false (fun h => h ht)
      clear ht
      go_wp2_with fail
      go_ret
      rw [HE.out, HD.out]
      exact ⟨rfl, HK.out⟩
    · have t1 : c.tx.isEmpty = false := by simp [ht]
      have HD : Hid (decide (c.tx ≠ []) = true) := decide_eq_true ht
      clear ht
      go_wp2_with fail
      go_ret
      rw [HE.out, HD.out]
      exact ⟨rfl, HK.out⟩
  · have HE : Hid _ := formed_end (.inr hk)
    have e1 : (c.kind == 1) = false := by rw [hk]; rfl
    have e2 : (c.kind == 2) = false := by rw [hk]; rfl
    have e3 : (c.kind == 3) = false := by rw [hk]; rfl
    have e4 : (c.kind == 4) = true := by rw [hk]; rfl
    clear hk
    by_cases ht : c.tx = []
    · have t1 : c.tx.isEmpty = true := by simp [ht]
      have HD : Hid (decide (c.tx ≠ []) = false) := decide_eq_false (fun h => h ht)
      clear ht
      go_wp2_with fail
      go_ret
      rw [HE.out, HD.out]
      exact ⟨rfl, HK.out⟩
    · have t1 : c.tx.isEmpty = false := by simp [ht]
      have HD : Hid (decide (c.tx ≠ []) = true) := decide_eq_true ht
      clear ht
      go_wp2_with fail
      go_ret
      rw [HE.out, HD.out]
      exact ⟨rfl, HK.out⟩

end Go.Proofs.YtenejaghgehnoaaGreatDoor

namespace Go.Proofs.YtenejaghgehnoaaGreatDoor
open Go.RowKit Go.Maps

theorem formed_ops {c : Cm} (h : opsOk c = true) : c.ops.length ≤ 4 ∧ (c.at'.length = 0 ∨ c.at'.length = c.ops.length) := by
  rw [opsOk_parts] at h
  simp only [Bool.and_eq_true, sizesOk, decide_eq_true_eq, Bool.or_eq_true] at h
  exact ⟨h.1.1.2, h.1.2⟩
/-- What a command may bring. -/
structure Cin (c : Cm) : Prop where
  short : ∀ o ∈ c.ops, o.cas.length ≤ 1000
  tx : c.tx.length ≤ 140737488355327
/-- All that is so of a shard between commands. -/
structure Sall (s : Sh) : Prop where
  ok : Sok s
  pok : Pok s
  outs : ∀ x k, look s.outs x = some k → k ≠ 0

set_option maxRecDepth 100000 in
set_option maxHeartbeats 8000000 in
theorem do_few {w : World} {a : Ft} {n : Nat} {tv ov av dv : Value} {h : Lk} {s : Sh} {c : Cm} (m : Sm w a n tv h s) (all : Sall s) (hTab : Tab w) (hv : CmV w c ov av) (hdv : ∃ o k l, dv = .slice o k l) (hin : Cin c) (hk4 : c.kind = 1 ∨ c.kind = 2 ∨ c.kind = 3 ∨ c.kind = 4) (hn : n ≤ 800000) :
    Calls Tryz.prog 13 #[.pointer (some ⟨a.S, 0, none⟩), cmdV c ov av dv] w fun e w' => DoP w w' a (n + 10) tv (doP s c) e := by
  obtain ⟨d1, d2, d3, rfl⟩ := hdv
  obtain ⟨oo, oc, rfl, _⟩ := hv.ops.form
  obtain ⟨ao, ac, rfl, _, _⟩ := hv.at'.ints
  have hX := heap_alloc_new w (.cells #[.int .i64 c.kind, .string ⟨c.tx.toArray⟩, .slice oo c.ops.length oc, .slice ao c.at'.length ac, .int .i64 c.lo, .int .i64 c.hi, .slice d1 d2 d3] 40)
  have k1 := (Kept.refl (fun _ => True) w).alloc (.cells #[.int .i64 c.kind, .string ⟨c.tx.toArray⟩, .slice oo c.ops.length oc, .slice ao c.at'.length ac, .int .i64 c.lo, .int .i64 c.hi, .slice d1 d2 d3] 40)
  have hsz : (w.alloc (.cells #[.int .i64 c.kind, .string ⟨c.tx.toArray⟩, .slice oo c.ops.length oc, .slice ao c.at'.length ac, .int .i64 c.lo, .int .i64 c.hi, .slice d1 d2 d3] 40)).heap.size = w.heap.size + 1 := by simp
  have HSz : Hid _ := hsz
  have HX0 : Hid _ := hX
  have HK1 : Hid _ := k1
  clear hX k1 hsz
  unfold cmdV
  go_enter Tryz.func13, Tryz.ntmps13
  go_upto_region 1 with fail
  generalize w.alloc (.cells #[.int .i64 c.kind, .string ⟨c.tx.toArray⟩, .slice oo c.ops.length oc, .slice ao c.at'.length ac, .int .i64 c.lo, .int .i64 c.hi, .slice d1 d2 d3] 40) = w0 at *
  have hR := heap_alloc_new w0 (.cells #[.int .i64 0, .slice none 0 0, .int .i64 0, .int .i64 0, .slice none 0 0] 35)
  have k2 := (Kept.refl (fun _ => True) w0).alloc (.cells #[.int .i64 0, .slice none 0 0, .int .i64 0, .int .i64 0, .slice none 0 0] 35)
  rw [HSz.out] at hR
  have HR : Hid _ := hR
  have HK : Hid _ := HK1.out.trans k2
  have HX : Hid _ := (k2.block _ (lt_of_block HX0.out) trivial).trans HX0.out
  clear HSz HX0 HK1 hR k2
  generalize w0.alloc (.cells #[.int .i64 0, .slice none 0 0, .int .i64 0, .int .i64 0, .slice none 0 0] 35) = w1 at *
  have cf := formed_few (dv := .slice d1 d2 d3) (hv.all HK.out) ⟨_, _, _, rfl⟩ hk4
  unfold cmdV at cf
  obtain ⟨x0, x1, x2, x3, x4, x5, x6⟩ := seven_cell HX.out
  go_upto_if 7 with (go_at_call 43; refine Calls.mono cf ?_; rintro e w2 ⟨rfl, k2⟩; have HKa : Hid (Kept (fun _ => True) w1 w2) := k2; clear cf k2)
  clear x0 x1 x2 x3 x4 x5 x6
  have HK2 : Hid (Kept (fun _ => True) w w2) := HK.out.trans HKa.out
  have HR2 : Hid _ := (HKa.out.block _ (lt_of_block HR.out) trivial).trans HR.out
  have HX2 : Hid _ := (HKa.out.block _ (lt_of_block HX.out) trivial).trans HX.out
  have HM2 : Hid (Sm w2 a n tv h s) := m.all HK2.out
  have HV2 : Hid (CmV w2 c (.slice oo c.ops.length oc) (.slice ao c.at'.length ac)) := hv.all HK2.out
  have HTb2 : Hid (Tab w2) := hTab.all HK2.out
  have HA : Hid (Sall s) := all
  have HIn : Hid (Cin c) := hin
  clear m hv hTab all hin
  cases hf : formedP c with
  | false =>
    have HE : Hid (doP s c = (An.of 6, s)) := by
      show _ = _
      unfold doP
      rw [if_pos hf]
    obtain ⟨⟨z0, z1, z2, z3, z4⟩, f0, f1, f2, f3, f4⟩ := five_free HR2.out
    clear hf
    go_wp2_with fail
    refine bodyPost_ret (results_ans rfl _ _ rfl (put5_at HR2.out _ _ _ _ _) rfl) rfl ?_
    rw [HE.out]
    exact ⟨a.B, h, _, rfl, Txs.nil _ _, (HM2.out.ans HR2.out ⟨_, _, _, rfl⟩ ⟨_, _, _, rfl⟩ (put5_kept (p := (· ≠ w.heap.size + 1)) (by simp) _ _ _ _ _)).mono (by omega), put5_new HK2.out (Nat.le_succ _) _ _ _ _ _ |>.mono (fun _ _ _ => trivial), fun _ h => .inl h⟩
  | true =>
    have HF1 : Hid (formedP c = true) := hf
    obtain ⟨x0, x1, x2, x3, x4, x5, x6⟩ := seven_cell HX2.out
    clear hf
    have hc2 : (c.kind = 1 ∨ c.kind = 2) → Cok2 c := fun hk => by
      have h1 : opsOk c = true := by
        rcases hk with hk | hk
        · rw [← formed_once hk]; exact HF1.out
        · have := HF1.out
          rw [formed_prepare hk, Bool.and_eq_true] at this
          exact this.2
      exact ⟨(formed_ops h1).1, HIn.out.short, (formed_ops h1).2, HIn.out.tx⟩
    have HC2 : Hid _ := hc2
    clear hc2
    rcases hk4 with hk | hk | hk | hk
    · have HE : Hid (doP s c = onceP s c) := by
        show _ = _
        unfold doP
        rw [if_neg (by rw [HF1.out]; decide), if_pos hk]
      have cc := once_any (dv := .slice d1 d2 d3) HM2.out HA.out.ok HTb2.out HV2.out ⟨_, _, _, rfl⟩ (HC2.out (.inl hk)) hn
      unfold cmdV at cc
      have e1 : (c.kind == 1) = true := by rw [hk]; rfl
      clear hk
      go_wp2_with (go_at_call 44; refine Calls.mono cc ?_; rintro e w3 ⟨B', h', txv, rfl, htx, sm, fs⟩; obtain ⟨to', tc, rfl⟩ := own_shape_any htx; unfold ansV; have HTx : Hid (Txs w3 w2.heap.size (.slice to' (onceP s c).1.texts.length tc) (onceP s c).1.texts) := htx; have HM3 : Hid (Sm w3 { a with B := B' } (n + 10) tv h' (onceP s c).2) := sm.mono (by omega); have HF3 : Hid (Fstep a w2 w3 { a with B := B' }) := fs; have hR3 := (fs.kept.block _ (lt_of_block HR2.out) (HM2.out.cells_ne HR2.out (by decide))).trans HR2.out; have HR3 : Hid _ := hR3; obtain ⟨⟨z0, z1, z2, z3, z4⟩, f0, f1, f2, f3, f4⟩ := five_free hR3; clear cc htx sm fs hR3)
      refine bodyPost_ret (results_ans rfl _ _ rfl (put5_at HR3.out _ _ _ _ _) rfl) rfl ?_
      rw [HE.out]
      have hf := (Fstep.of a HK2.out).trans HF3.out
      exact ⟨B', h', _, rfl, Txs.aside (ownsRow_low HTx.out HK2.out.size) HR3.out (by decide) (put5_kept (p := (· ≠ w.heap.size + 1)) (by simp) _ _ _ _ _), HM3.out.ans HR3.out ⟨_, _, _, rfl⟩ ⟨_, _, _, rfl⟩ (put5_kept (p := (· ≠ w.heap.size + 1)) (by simp) _ _ _ _ _), put5_new hf.kept (Nat.le_succ _) _ _ _ _ _, hf.news⟩
    · have HE : Hid (doP s c = prepareP s c) := by
        show _ = _
        unfold doP
        rw [if_neg (by rw [HF1.out]; decide), if_neg (by omega), if_pos hk]
      have cc := prepare_any (dv := .slice d1 d2 d3) HM2.out HA.out.ok HA.out.pok (HA.out.outs c.tx) HTb2.out HV2.out ⟨_, _, _, rfl⟩ (HC2.out (.inr hk)) hn
      unfold cmdV at cc
      have e1 : (c.kind == 1) = false := by rw [hk]; rfl
      have e2 : (c.kind == 2) = true := by rw [hk]; rfl
      clear hk
      go_wp2_with (go_at_call 45; refine Calls.mono cc ?_; rintro e w3 ⟨B', h', txv, rfl, htx, sm, fs⟩; obtain ⟨to', tc, rfl⟩ := own_shape_any htx; unfold ansV; have HTx : Hid (Txs w3 w2.heap.size (.slice to' (prepareP s c).1.texts.length tc) (prepareP s c).1.texts) := htx; have HM3 : Hid (Sm w3 { a with B := B' } (n + 10) tv h' (prepareP s c).2) := sm.mono (by omega); have HF3 : Hid (Fstep a w2 w3 { a with B := B' }) := fs; have hR3 := (fs.kept.block _ (lt_of_block HR2.out) (HM2.out.cells_ne HR2.out (by decide))).trans HR2.out; have HR3 : Hid _ := hR3; obtain ⟨⟨z0, z1, z2, z3, z4⟩, f0, f1, f2, f3, f4⟩ := five_free hR3; clear cc htx sm fs hR3)
      refine bodyPost_ret (results_ans rfl _ _ rfl (put5_at HR3.out _ _ _ _ _) rfl) rfl ?_
      rw [HE.out]
      have hf := (Fstep.of a HK2.out).trans HF3.out
      exact ⟨B', h', _, rfl, Txs.aside (ownsRow_low HTx.out HK2.out.size) HR3.out (by decide) (put5_kept (p := (· ≠ w.heap.size + 1)) (by simp) _ _ _ _ _), HM3.out.ans HR3.out ⟨_, _, _, rfl⟩ ⟨_, _, _, rfl⟩ (put5_kept (p := (· ≠ w.heap.size + 1)) (by simp) _ _ _ _ _), put5_new hf.kept (Nat.le_succ _) _ _ _ _ _, hf.news⟩
    · have HE : Hid (doP s c = commitP s c.tx) := by
        show _ = _
        unfold doP
        rw [if_neg (by rw [HF1.out]; decide), if_neg (by omega), if_neg (by omega), if_pos hk]
      have cc := commit_any HM2.out HA.out.ok HA.out.pok HTb2.out HIn.out.tx hn
      have e1 : (c.kind == 1) = false := by rw [hk]; rfl
      have e2 : (c.kind == 2) = false := by rw [hk]; rfl
      have e3 : (c.kind == 3) = true := by rw [hk]; rfl
      clear hk
      go_wp2_with (go_at_call 46; refine Calls.mono cc ?_; rintro e w3 ⟨B', h', txv, rfl, htx, sm, fs⟩; obtain ⟨to', tc, rfl⟩ := own_shape_any htx; unfold ansV; have HTx : Hid (Txs w3 w2.heap.size (.slice to' (commitP s c.tx).1.texts.length tc) (commitP s c.tx).1.texts) := htx; have HM3 : Hid (Sm w3 { a with B := B' } (n + 10) tv h' (commitP s c.tx).2) := sm.mono (by omega); have HF3 : Hid (Fstep a w2 w3 { a with B := B' }) := fs; have hR3 := (fs.kept.block _ (lt_of_block HR2.out) (HM2.out.cells_ne HR2.out (by decide))).trans HR2.out; have HR3 : Hid _ := hR3; obtain ⟨⟨z0, z1, z2, z3, z4⟩, f0, f1, f2, f3, f4⟩ := five_free hR3; clear cc htx sm fs hR3)
      refine bodyPost_ret (results_ans rfl _ _ rfl (put5_at HR3.out _ _ _ _ _) rfl) rfl ?_
      rw [HE.out]
      have hf := (Fstep.of a HK2.out).trans HF3.out
      exact ⟨B', h', _, rfl, Txs.aside (ownsRow_low HTx.out HK2.out.size) HR3.out (by decide) (put5_kept (p := (· ≠ w.heap.size + 1)) (by simp) _ _ _ _ _), HM3.out.ans HR3.out ⟨_, _, _, rfl⟩ ⟨_, _, _, rfl⟩ (put5_kept (p := (· ≠ w.heap.size + 1)) (by simp) _ _ _ _ _), put5_new hf.kept (Nat.le_succ _) _ _ _ _ _, hf.news⟩
    · have HE : Hid (doP s c = abortP s c.tx) := by
        show _ = _
        unfold doP
        rw [if_neg (by rw [HF1.out]; decide), if_neg (by omega), if_neg (by omega), if_neg (by omega), if_pos hk]
      have cc := abort_any (tx := c.tx) HM2.out HIn.out.tx (by omega)
      have e1 : (c.kind == 1) = false := by rw [hk]; rfl
      have e2 : (c.kind == 2) = false := by rw [hk]; rfl
      have e3 : (c.kind == 3) = false := by rw [hk]; rfl
      have e4 : (c.kind == 4) = true := by rw [hk]; rfl
      clear hk
      go_wp2_with (go_at_call 47; refine Calls.mono cc ?_; rintro e w3 ⟨B', h', txv, rfl, htx, sm, fs⟩; obtain ⟨to', tc, rfl⟩ := own_shape_any htx; unfold ansV; have HTx : Hid (Txs w3 w2.heap.size (.slice to' (abortP s c.tx).1.texts.length tc) (abortP s c.tx).1.texts) := htx; have HM3 : Hid (Sm w3 { a with B := B' } (n + 10) tv h' (abortP s c.tx).2) := sm.mono (by omega); have HF3 : Hid (Fstep a w2 w3 { a with B := B' }) := fs; have hR3 := (fs.kept.block _ (lt_of_block HR2.out) (HM2.out.cells_ne HR2.out (by decide))).trans HR2.out; have HR3 : Hid _ := hR3; obtain ⟨⟨z0, z1, z2, z3, z4⟩, f0, f1, f2, f3, f4⟩ := five_free hR3; clear cc htx sm fs hR3)
      refine bodyPost_ret (results_ans rfl _ _ rfl (put5_at HR3.out _ _ _ _ _) rfl) rfl ?_
      rw [HE.out]
      have hf := (Fstep.of a HK2.out).trans HF3.out
      exact ⟨B', h', _, rfl, Txs.aside (ownsRow_low HTx.out HK2.out.size) HR3.out (by decide) (put5_kept (p := (· ≠ w.heap.size + 1)) (by simp) _ _ _ _ _), HM3.out.ans HR3.out ⟨_, _, _, rfl⟩ ⟨_, _, _, rfl⟩ (put5_kept (p := (· ≠ w.heap.size + 1)) (by simp) _ _ _ _ _), put5_new hf.kept (Nat.le_succ _) _ _ _ _ _, hf.news⟩

end Go.Proofs.YtenejaghgehnoaaGreatDoor

namespace Go.Proofs.YtenejaghgehnoaaGreatDoor
open Go.RowKit

section
variable {ts : List Ty} {most : Nat} {l l' : Css} {o : Oq}
/-- One operation that is done leaves one case more at most. -/
theorem step_len (_ : (stepP ts most l o).2.2 = 0) : (stepP ts most l o).1.length ≤ l.length + 1 := by
  unfold stepP
  by_cases hk : o.kind = 1
  · rw [if_pos hk]
    cases hl : look l o.cas with
    | some s => exact Nat.zero_le _
    | none =>
      show (madeP l o (typ ts o.name) most).1.length ≤ _
      cases typ ts o.name with
      | none => exact Nat.zero_le _
      | some t =>
        unfold madeP
        dsimp only
        split
        · exact Nat.zero_le _
        · split
          · simp
          · exact Nat.zero_le _
  · rw [if_neg hk]
    cases hl : look l o.cas with
    | none => exact Nat.zero_le _
    | some s =>
      show (goesP l o s (typ ts s.type)).1.length ≤ _
      cases typ ts s.type with
      | none => exact Nat.zero_le _
      | some t =>
        unfold goesP doneP
        dsimp only
        split
        · dsimp only
          rw [put_length (by rw [hl]; simp)]
          omega
        · exact Nat.zero_le _
theorem run_len : ∀ {ops : List Oq} {l : Css} {xs : List (List UInt8)} {i : Nat}, (runP ts most ops l xs i).left.length ≤ l.length + ops.length
  | [], _, _, _ => by simp [runP]
  | o :: os, l, xs, i => by
    unfold runP
    by_cases hs : (stepP ts most l o).2.2 = 0
    · rw [if_pos hs]
      have := run_len (ops := os) (l := (stepP ts most l o).1) (xs := xs ++ [(stepP ts most l o).2.1]) (i := i + 1)
      have := step_len hs
      simp only [List.length_cons]
      omega
    · rw [if_neg hs]
      exact Nat.zero_le _
/-- What an operation leaves alone. -/
theorem step_apart (h : (stepP ts most l o).2.2 = 0) {x : List UInt8} (hx : o.cas = x → o.kind = 5) : look (stepP ts most l o).1 x = look l x := by
  unfold stepP at h ⊢
  by_cases hk : o.kind = 1
  · have hne : o.cas ≠ x := fun e => by rw [hx e] at hk; cases hk
    rw [if_pos hk] at h ⊢
    cases hl : look l o.cas with
    | some s => rw [hl] at h; cases h
    | none =>
      rw [hl] at h
      have h : (madeP l o (typ ts o.name) most).2.2 = 0 := h
      show look (madeP l o (typ ts o.name) most).1 x = _
      cases hy : typ ts o.name with
      | none => rw [hy] at h; cases h
      | some t =>
        rw [hy] at h
        unfold madeP at h ⊢
        dsimp only at h ⊢
        by_cases hm : most ≤ l.length
        · rw [if_pos hm] at h; cases h
        · rw [if_neg hm] at h ⊢
          by_cases hn : isName o.cas = true
          · rw [if_pos hn]
            dsimp only
            rw [look_append]
            simp [look, hne]
          · rw [if_neg hn] at h; cases h
  · rw [if_neg hk] at h ⊢
    cases hl : look l o.cas with
    | none => rw [hl] at h; cases h
    | some s =>
      rw [hl] at h
      have h : (goesP l o s (typ ts s.type)).2.2 = 0 := h
      show look (goesP l o s (typ ts s.type)).1 x = _
      cases hy : typ ts s.type with
      | none => rw [hy] at h; cases h
      | some t =>
        rw [hy] at h
        unfold goesP doneP at h ⊢
        dsimp only at h ⊢
        by_cases hr : (applyP t s o).2.2 = 0
        · rw [if_pos hr]
          dsimp only
          rw [look_put]
          split
          · rename_i e
            have h5 := hx e.symm
            rw [e, hl]
            congr 1
            unfold applyP
            rw [if_neg (by rw [h5]; decide), if_neg (by rw [h5]; decide), if_neg (by rw [h5]; decide), if_pos h5]
          · rfl
        · rw [if_neg hr] at h; exact absurd h hr
theorem run_apart : ∀ {ops : List Oq} {l : Css} {xs : List (List UInt8)} {i : Nat} {x : List UInt8}, (runP ts most ops l xs i).why = 0 → (∀ o ∈ ops, o.cas = x → o.kind = 5) → look (runP ts most ops l xs i).left x = look l x
  | [], _, _, _, _, _, _ => rfl
  | o :: os, l, xs, i, x, h, hx => by
    unfold runP at h ⊢
    by_cases hs : (stepP ts most l o).2.2 = 0
    · rw [if_pos hs] at h ⊢
      rw [run_apart h (fun p hp => hx p (List.mem_cons_of_mem _ hp)), step_apart hs (hx o (List.mem_cons_self ..))]
    · rw [if_neg hs] at h; exact absurd h hs
/-- An operation looks at its own case alone. -/
theorem step_same {K : List UInt8 → Prop} (he : ∀ x, K x → look l x = look l' x) (hK : K o.cas) (h1 : l.length < most) (h2 : l'.length < most) :
    (stepP ts most l o).2 = (stepP ts most l' o).2 ∧ ((stepP ts most l o).2.2 = 0 → ∀ x, K x → look (stepP ts most l o).1 x = look (stepP ts most l' o).1 x) := by
  unfold stepP
  have hc := he _ hK
  by_cases hk : o.kind = 1
  · rw [if_pos hk, if_pos hk, ← hc]
    cases hl : look l o.cas with
    | some s => exact ⟨rfl, fun h => by cases h⟩
    | none =>
      show (madeP l o (typ ts o.name) most).2 = (madeP l' o (typ ts o.name) most).2 ∧ ((madeP l o (typ ts o.name) most).2.2 = 0 → ∀ x, K x → look (madeP l o (typ ts o.name) most).1 x = look (madeP l' o (typ ts o.name) most).1 x)
      cases typ ts o.name with
      | none => exact ⟨rfl, fun h => by cases h⟩
      | some t =>
        unfold madeP
        dsimp only
        rw [if_neg (show ¬ most ≤ l.length by omega), if_neg (show ¬ most ≤ l'.length by omega)]
        by_cases hn : isName o.cas = true
        · rw [if_pos hn, if_pos hn]
          exact ⟨rfl, fun _ x hx => by dsimp only; rw [look_append, look_append, he x hx]⟩
        · rw [if_neg hn, if_neg hn]
          exact ⟨rfl, fun h => by cases h⟩
  · rw [if_neg hk, if_neg hk, ← hc]
    cases hl : look l o.cas with
    | none => exact ⟨rfl, fun h => by cases h⟩
    | some s =>
      show (goesP l o s (typ ts s.type)).2 = (goesP l' o s (typ ts s.type)).2 ∧ ((goesP l o s (typ ts s.type)).2.2 = 0 → ∀ x, K x → look (goesP l o s (typ ts s.type)).1 x = look (goesP l' o s (typ ts s.type)).1 x)
      cases typ ts s.type with
      | none => exact ⟨rfl, fun h => by cases h⟩
      | some t =>
        unfold goesP doneP
        dsimp only
        by_cases hr : (applyP t s o).2.2 = 0
        · rw [if_pos hr, if_pos hr]
          exact ⟨rfl, fun _ x hx => by dsimp only; rw [look_put, look_put, he x hx]⟩
        · rw [if_neg hr, if_neg hr]
          exact ⟨rfl, fun h => absurd h hr⟩
theorem run_same {K : List UInt8 → Prop} : ∀ {ops : List Oq} {l l' : Css} {xs : List (List UInt8)} {i : Nat}, (∀ x, K x → look l x = look l' x) → (∀ o ∈ ops, K o.cas) → l.length + ops.length < most → l'.length + ops.length < most →
    (runP ts most ops l xs i).why = (runP ts most ops l' xs i).why ∧ (runP ts most ops l xs i).texts = (runP ts most ops l' xs i).texts
  | [], _, _, _, _, _, _, _, _ => ⟨rfl, rfl⟩
  | o :: os, l, l', xs, i, he, hK, h1, h2 => by
    simp only [List.length_cons] at h1 h2
    obtain ⟨ha, hb⟩ := step_same (ts := ts) (most := most) (o := o) he (hK o (List.mem_cons_self ..)) (by omega) (by omega)
    unfold runP
    rw [← ha]
    by_cases hs : (stepP ts most l o).2.2 = 0
    · rw [if_pos hs, if_pos hs]
      have e1 := step_len hs
      have e2 := step_len (ts := ts) (most := most) (l := l') (o := o) (by rw [← ha]; exact hs)
      exact run_same (hb hs) (fun p hp => hK p (List.mem_cons_of_mem _ hp)) (by omega) (by omega)
    · rw [if_neg hs, if_neg hs]
      exact ⟨rfl, rfl⟩
/-- More room does no harm. -/
theorem step_more {m2 : Nat} (hm : most ≤ m2) (h : (stepP ts most l o).2.2 = 0) : stepP ts m2 l o = stepP ts most l o := by
  unfold stepP at h ⊢
  by_cases hk : o.kind = 1
  · rw [if_pos hk] at h ⊢
    rw [if_pos hk]
    cases hl : look l o.cas with
    | some s => rfl
    | none =>
      rw [hl] at h
      have h : (madeP l o (typ ts o.name) most).2.2 = 0 := h
      show madeP l o (typ ts o.name) m2 = madeP l o (typ ts o.name) most
      cases hy : typ ts o.name with
      | none => rfl
      | some t =>
        rw [hy] at h
        unfold madeP at h ⊢
        dsimp only at h ⊢
        by_cases hm1 : most ≤ l.length
        · rw [if_pos hm1] at h; cases h
        · rw [if_neg hm1, if_neg (show ¬ m2 ≤ l.length by omega)]
  · rw [if_neg hk, if_neg hk]
theorem run_wide {m2 : Nat} (hm : most ≤ m2) : ∀ {ops : List Oq} {l : Css} {xs : List (List UInt8)} {i : Nat}, (runP ts most ops l xs i).why = 0 → runP ts m2 ops l xs i = runP ts most ops l xs i
  | [], _, _, _, _ => rfl
  | o :: os, l, xs, i, h => by
    unfold runP at h ⊢
    by_cases hs : (stepP ts most l o).2.2 = 0
    · rw [if_pos hs] at h ⊢
      rw [step_more hm hs, if_pos hs]
      exact run_wide hm h
    · rw [if_neg hs] at h; exact absurd h hs
end

section
variable {x : List UInt8} {z : Lo}
theorem lgive_mem {lk : List Lo} {c : List UInt8} {wr : Bool} (hz : z ∈ lgive lk x c wr) :
    (∃ y ∈ lk, y.t = z.t ∧ y.c = z.c ∧ (z.t ≠ x → y = z) ∧ (z.w = true → y.w = true ∨ (c = z.c ∧ wr = true))) ∨ (z.t = x ∧ c = z.c ∧ z.w = wr) := by
  rcases List.mem_append.1 hz with hz | hz
  · obtain ⟨y, hy, rfl⟩ := List.mem_map.1 hz
    refine .inl ⟨y, hy, (lup_tc ..).1.symm, (lup_tc ..).2.symm, ?_, ?_⟩
    · intro hne
      rw [(lup_tc ..).1] at hne
      unfold lup
      rw [if_neg (fun q => hne q.1)]
    · intro hw
      unfold lup at hw ⊢
      split at hw
      · rename_i e
        rw [if_pos e]
        simp only [Bool.or_eq_true] at hw
        exact hw.imp id (fun q => ⟨e.2.symm, q⟩)
      · exact .inl hw
  · split at hz
    · cases hz
    · simp only [List.mem_singleton] at hz
      subst hz
      exact .inr ⟨rfl, rfl, rfl⟩
theorem lgives_mem : ∀ {l : List (List UInt8 × Bool)} {lk : List Lo}, z ∈ lgives lk x l →
    (∃ y ∈ lk, y.t = z.t ∧ y.c = z.c ∧ (z.t ≠ x → y = z) ∧ (z.w = true → y.w = true ∨ ∃ q ∈ l, q.1 = z.c ∧ q.2 = true)) ∨ (z.t = x ∧ (∃ q ∈ l, q.1 = z.c) ∧ (z.w = true → ∃ q ∈ l, q.1 = z.c ∧ q.2 = true))
  | [], _, hz => .inl ⟨z, hz, rfl, rfl, fun _ => rfl, fun h => .inl h⟩
  | q :: l, lk, hz => by
    rcases lgives_mem (l := l) hz with ⟨y, hy, e1, e2, e3, e4⟩ | ⟨e1, ⟨p, hp, e2⟩, e3⟩
    · rcases lgive_mem hy with ⟨v, hv, f1, f2, f3, f4⟩ | ⟨f1, f2, f3⟩
      · refine .inl ⟨v, hv, f1.trans e1, f2.trans e2, fun hne => ?_, fun hw => ?_⟩
        · rw [f3 (by rw [e1]; exact hne), e3 hne]
        · rcases e4 hw with hw | ⟨p, hp, e⟩
          · rcases f4 hw with hw | ⟨g1, g2⟩
            · exact .inl hw
            · exact .inr ⟨q, List.mem_cons_self .., g1.trans e2, g2⟩
          · exact .inr ⟨p, List.mem_cons_of_mem _ hp, e⟩
      · refine .inr ⟨e1.symm.trans f1, ⟨q, List.mem_cons_self .., f2.trans e2⟩, fun hw => ?_⟩
        rcases e4 hw with hw | ⟨p, hp, e⟩
        · exact ⟨q, List.mem_cons_self .., f2.trans e2, by rw [← f3]; exact hw⟩
        · exact ⟨p, List.mem_cons_of_mem _ hp, e⟩
    · refine .inr ⟨e1, ⟨p, List.mem_cons_of_mem _ hp, e2⟩, fun hw => ?_⟩
      obtain ⟨p, hp, e⟩ := e3 hw
      exact ⟨p, List.mem_cons_of_mem _ hp, e⟩
theorem lgive_stay {lk : List Lo} {c : List UInt8} {wr : Bool} (hz : z ∈ lk) : ∃ y ∈ lgive lk x c wr, y.t = z.t ∧ y.c = z.c ∧ (z.w = true → y.w = true) := by
  refine ⟨lup x c wr z, List.mem_append_left _ (List.mem_map.2 ⟨z, hz, rfl⟩), (lup_tc ..).1, (lup_tc ..).2, fun h => ?_⟩
  unfold lup
  split
  · simp [h]
  · exact h
theorem lgives_stay : ∀ {l : List (List UInt8 × Bool)} {lk : List Lo} {z : Lo}, z ∈ lk → ∃ y ∈ lgives lk x l, y.t = z.t ∧ y.c = z.c ∧ (z.w = true → y.w = true)
  | [], _, z, hz => ⟨z, hz, rfl, rfl, id⟩
  | q :: l, lk, z, hz => by
    obtain ⟨y, hy, e1, e2, e3⟩ := lgive_stay (x := x) (c := q.1) (wr := q.2) hz
    obtain ⟨v, hv, f1, f2, f3⟩ := lgives_stay (l := l) hy
    exact ⟨v, hv, f1.trans e1, f2.trans e2, fun h => f3 (e3 h)⟩
theorem lgive_has (lk : List Lo) (c : List UInt8) (wr : Bool) : ∃ z ∈ lgive lk x c wr, z.t = x ∧ z.c = c ∧ (wr = true → z.w = true) := by
  unfold lgive
  by_cases h : lk.any (fun z => decide (z.t = x ∧ z.c = c)) = true
  · obtain ⟨z, hz, e⟩ := List.any_eq_true.1 h
    simp only [decide_eq_true_eq] at e
    refine ⟨lup x c wr z, List.mem_append_left _ (List.mem_map.2 ⟨z, hz, rfl⟩), (lup_tc ..).1.trans e.1, (lup_tc ..).2.trans e.2, fun hw => ?_⟩
    unfold lup
    rw [if_pos e]
    simp [hw]
  · rw [if_neg h]
    exact ⟨⟨x, c, wr⟩, List.mem_append_right _ (List.mem_cons_self ..), rfl, rfl, id⟩
theorem lgives_has : ∀ {l : List (List UInt8 × Bool)} {lk : List Lo} {q : List UInt8 × Bool}, q ∈ l → ∃ z ∈ lgives lk x l, z.t = x ∧ z.c = q.1 ∧ (q.2 = true → z.w = true)
  | p :: l, lk, q, hq => by
    rcases List.mem_cons.1 hq with rfl | hq
    · obtain ⟨y, hy, e1, e2, e3⟩ := lgive_has (x := x) lk q.1 q.2
      obtain ⟨v, hv, f1, f2, f3⟩ := lgives_stay (x := x) (l := l) hy
      exact ⟨v, hv, f1.trans e1, f2.trans e2, fun h => f3 (e3 h)⟩
    · exact lgives_has (lk := lgive lk x p.1 p.2) hq
end

/-- All that holds of a shard, with what keeps it. -/
structure Inv (n : Nat) (s : Sh) : Prop where
  all : Sall s
  len : s.cs.length ≤ n
  lkd : ∀ x ops, look s.ps x = some ops → ∀ o ∈ ops, ∃ z ∈ s.lk, z.t = x ∧ z.c = o.cas ∧ (o.kind ≠ 5 → z.w = true)
  apart : ∀ z ∈ s.lk, ∀ y ∈ s.lk, z.c = y.c → z.t ≠ y.t → z.w = false
  own : ∀ z ∈ s.lk, s.hs (hashOf z.c) = 1
section
variable {n : Nat} {s : Sh} {c : Cm}
theorem busy_no {lk : List Lo} {tx : List UInt8} {ops : List Oq} (h : busyP lk tx ops = false) {z : Lo} (hz : z ∈ lk) (ht : z.t ≠ tx) {o : Oq} (ho : o ∈ ops) (e : z.c = o.cas) : z.w = false ∧ o.kind = 5 := by
  unfold busyP at h
  have h1 := List.any_eq_false.1 h (o.cas, decide (o.kind ≠ 5)) (List.mem_map.2 ⟨o, ho, rfl⟩)
  have h2 := List.any_eq_false.1 (Bool.eq_false_iff.2 h1) z hz
  simp only [Bool.and_eq_true, decide_eq_true_eq, Bool.or_eq_true, not_and, not_or, Bool.not_eq_true] at h2
  have h3 := h2 ⟨ht, e⟩
  refine ⟨h3.1, ?_⟩
  simpa using h3.2
theorem Inv.mono (h : Inv n s) {m : Nat} (hm : n ≤ m) : Inv m s := ⟨h.all, Nat.le_trans h.len hm, h.lkd, h.apart, h.own⟩
/-- Cases that nobody has locked may turn. -/
theorem Inv.turn (h : Inv n s) {cs' : Css} {m : Nat} (hm : m ≤ 1000000) (hn : n ≤ 1000000) (hl : cs'.length ≤ m) (hc : Cok s.types cs') {lk' : List Lo} {ps' : List (List UInt8 × List Oq)} {os' : List (List UInt8 × Nat)}
    (hlk : ∀ z ∈ lk', z ∈ s.lk ∧ look ps' z.t = look s.ps z.t) (hps : ∀ x ops, look ps' x = some ops → look s.ps x = some ops ∧ (∀ z ∈ s.lk, z.t = x → z ∈ lk') ∧ ∀ o ∈ ops, look cs' o.cas = look s.cs o.cas)
    (ho : ∀ x k, look os' x = some k → k ≠ 0) : Inv m { s with cs := cs', lk := lk', ps := ps', outs := os' } := by
  refine ⟨⟨⟨h.all.ok.types, hc, fun z hz => h.all.ok.locks z (hlk z hz).1⟩, ⟨fun x ops hx => h.all.pok.few x ops (hps x ops hx).1, fun x ops hx => ?_, fun z hz => ?_⟩, ho⟩, hl, fun x ops hx o hop => ?_, fun z hz y hy => h.apart z (hlk z hz).1 y (hlk y hy).1, fun z hz => h.own z (hlk z hz).1⟩
  · obtain ⟨h1, _, h3⟩ := hps x ops hx
    have h4 := (h.all.pok.few x ops h1).1
    have h5 := h.len
    have := (run_same (ts := s.types) (most := boundless) (K := fun y => ∃ o ∈ ops, o.cas = y) (ops := ops) (l := cs') (l' := s.cs) (xs := []) (i := 0) (fun y ⟨o, ho, e⟩ => by rw [← e]; exact h3 o ho) (fun o ho => ⟨o, ho, rfl⟩) (by unfold boundless; omega) (by unfold boundless; omega)).1
    show (runP s.types boundless ops cs' [] 0).why = 0
    rw [this]
    exact h.all.pok.runs x ops h1
  · show look ps' z.t ≠ none
    rw [(hlk z hz).2]
    exact h.all.pok.mine z (hlk z hz).1
  · obtain ⟨h1, h2, _⟩ := hps x ops hx
    obtain ⟨z, hz, e1, e2, e3⟩ := h.lkd x ops h1 o hop
    exact ⟨z, h2 z hz e1, e1, e2, e3⟩
theorem Inv.once (h : Inv n s) (hn : n ≤ 900000) (hf : c.ops.length ≤ 4) : Inv (n + 4) (onceP s c).2 := by
  unfold onceP
  split
  · exact h.mono (by omega)
  · split
    · exact h.mono (by omega)
    · rename_i hb
      dsimp only
      split
      · rename_i hw
        have hb : busyP s.lk [] c.ops = false := by simpa using hb
        refine h.turn (m := n + 4) (lk' := s.lk) (ps' := s.ps) (os' := s.outs) (by omega) (by omega) ?_ (run_ok h.all.ok.types h.all.ok.cases hw) (fun z hz => ⟨hz, rfl⟩) (fun x ops hx => ⟨hx, fun z hz _ => hz, fun o ho => run_apart hw (fun p hp e => ?_)⟩) h.all.outs
        · have := run_len (ts := s.types) (most := 32) (ops := c.ops) (l := s.cs) (xs := []) (i := 0)
          have := h.len
          omega
        · obtain ⟨z, hz, _, e2, _⟩ := h.lkd x ops hx o ho
          exact (busy_no hb hz (h.all.ok.locks z hz).2 hp (e2.trans e.symm)).2
      · exact h.mono (by omega)
theorem stale_no {ops : List Oq} (h : staleP s ops = false) {o : Oq} (ho : o ∈ ops) : s.hs (hashOf o.cas) = 1 := by
  have := List.any_eq_false.1 h o ho
  simpa using this
theorem Inv.prepare (h : Inv n s) (_ : n ≤ 900000) (hf : c.ops.length ≤ 4) (hs : ∀ o ∈ c.ops, o.cas.length ≤ 1000) (ht : c.tx ≠ []) : Inv n (prepareP s c).2 := by
  unfold prepareP
  cases hp : look s.ps c.tx with
  | some ops => exact h
  | none =>
    dsimp only
    split
    · exact h
    · split
      · exact h
      · rename_i hst
        split
        · exact h
        · rename_i hb
          dsimp only
          split
          · rename_i hw
            have hb : busyP s.lk c.tx c.ops = false := by simpa using hb
            have hst : staleP s c.ops = false := by simpa using hst
            have hno : ∀ z ∈ s.lk, z.t ≠ c.tx := fun z hz e => h.all.pok.mine z hz (e ▸ hp)
            have hlk : ∀ z ∈ lgives s.lk c.tx (wantsP c.ops), (z ∈ s.lk ∧ z.t ≠ c.tx) ∨ (z.t = c.tx ∧ (∃ o ∈ c.ops, o.cas = z.c) ∧ (z.w = true → ∃ o ∈ c.ops, o.cas = z.c ∧ o.kind ≠ 5)) := by
              intro z hz
              rcases lgives_mem hz with ⟨y, hy, e1, _, e3, _⟩ | ⟨e1, ⟨q, hq, e2⟩, e3⟩
              · have hne : z.t ≠ c.tx := by rw [← e1]; exact hno y hy
                exact .inl ⟨e3 hne ▸ hy, hne⟩
              · obtain ⟨o, ho, rfl⟩ := List.mem_map.1 hq
                refine .inr ⟨e1, ⟨o, ho, e2⟩, fun hw => ?_⟩
                obtain ⟨q, hq, f1, f2⟩ := e3 hw
                obtain ⟨p, hp, rfl⟩ := List.mem_map.1 hq
                exact ⟨p, hp, f1, by simpa using f2⟩
            have hlook : ∀ x ops, look (s.ps ++ [(c.tx, c.ops)]) x = some ops → (look s.ps x = some ops ∧ x ≠ c.tx) ∨ (x = c.tx ∧ ops = c.ops) := by
              intro x ops hx
              rw [look_append] at hx
              by_cases e : x = c.tx
              · subst e
                rw [hp] at hx
                simp [look] at hx
                exact .inr ⟨rfl, hx.symm⟩
              · have : look [(c.tx, c.ops)] x = none := by simp [look, Ne.symm e]
                rw [this, Option.or_none] at hx
                exact .inl ⟨hx, e⟩
            refine ⟨⟨⟨h.all.ok.types, h.all.ok.cases, lgives_bound ht h.all.ok.locks (fun q hq => ?_)⟩, ⟨fun x ops hx => ?_, fun x ops hx => ?_, fun z hz => ?_⟩, h.all.outs⟩, h.len, fun x ops hx o ho => ?_, fun z hz y hy e1 e2 => ?_, fun z hz => ?_⟩
            · obtain ⟨o, ho, rfl⟩ := List.mem_map.1 hq
              exact hs o ho
            · rcases hlook x ops hx with ⟨hx, _⟩ | ⟨_, rfl⟩
              · exact h.all.pok.few x ops hx
              · exact ⟨hf, hs⟩
            · rcases hlook x ops hx with ⟨hx, _⟩ | ⟨_, rfl⟩
              · exact h.all.pok.runs x ops hx
              · show (runP s.types boundless c.ops s.cs [] 0).why = 0
                rw [run_wide (by decide) hw]
                exact hw
            · show look (s.ps ++ [(c.tx, c.ops)]) z.t ≠ none
              rw [look_append]
              rcases hlk z hz with ⟨hz, _⟩ | ⟨e, _⟩
              · cases hl : look s.ps z.t with
                | none => exact absurd hl (h.all.pok.mine z hz)
                | some v => simp
              · rw [e, hp]
                simp [look]
            · rcases hlook x ops hx with ⟨hx, _⟩ | ⟨rfl, rfl⟩
              · obtain ⟨z, hz, e1, e2, e3⟩ := h.lkd x ops hx o ho
                obtain ⟨y, hy, f1, f2, f3⟩ := lgives_stay (x := c.tx) (l := wantsP c.ops) hz
                exact ⟨y, hy, f1.trans e1, f2.trans e2, fun q => f3 (e3 q)⟩
              · obtain ⟨z, hz, e1, e2, e3⟩ := lgives_has (x := c.tx) (lk := s.lk) (List.mem_map.2 ⟨o, ho, rfl⟩ : (o.cas, decide (o.kind ≠ 5)) ∈ wantsP c.ops)
                exact ⟨z, hz, e1, e2, fun q => e3 (by simpa using q)⟩
            · cases hzw : z.w with
              | false => rfl
              | true =>
                exfalso
                rcases hlk z hz with ⟨hz, hzt⟩ | ⟨hzt, ⟨o, ho, e⟩, hzo⟩
                · rcases hlk y hy with ⟨hy, _⟩ | ⟨_, ⟨o, ho, e⟩, _⟩
                  · rw [h.apart z hz y hy e1 e2] at hzw; cases hzw
                  · rw [(busy_no hb hz hzt ho (e1.trans e.symm)).1] at hzw; cases hzw
                · rcases hlk y hy with ⟨hy, hyt⟩ | ⟨hyt, _⟩
                  · obtain ⟨p, hp, f1, f2⟩ := hzo hzw
                    exact f2 (busy_no hb hy hyt hp (e1.symm.trans f1.symm)).2
                  · exact e2 (hzt.trans hyt.symm)
            · rcases hlk z hz with ⟨hz, _⟩ | ⟨_, ⟨o, ho, e⟩, _⟩
              · exact h.own z hz
              · rw [← e]
                exact stale_no hst ho
          · exact h
theorem Inv.decide' (h : Inv n s) {cs' : Css} {m : Nat} (hm : m ≤ 1000000) (hn : n ≤ 1000000) (hl : cs'.length ≤ m) (hc : Cok s.types cs') {x : List UInt8} {k : Nat} (hk : k ≠ 0)
    (hcs : ∀ y ops, look s.ps y = some ops → y ≠ x → ∀ o ∈ ops, look cs' o.cas = look s.cs o.cas) : Inv m (decideP { s with cs := cs' } x k) := by
  refine h.turn (m := m) (lk' := freeL s.lk x) (ps' := delL s.ps x) (os' := putL s.outs x k) hm hn hl hc (fun z hz => ?_) (fun y ops hy => ?_) (fun y j hy => ?_)
  · unfold freeL at hz
    have hz := List.mem_filter.1 hz
    have hne : z.t ≠ x := by simpa using hz.2
    exact ⟨hz.1, by rw [look_del, if_neg hne]⟩
  · rw [look_del] at hy
    split at hy
    · cases hy
    · rename_i hne
      exact ⟨hy, fun z hz e => List.mem_filter.2 ⟨hz, by simpa [e] using hne⟩, hcs y ops hy hne⟩
  · rw [look_put] at hy
    split at hy
    · rw [← Option.some.inj hy]; exact hk
    · exact h.all.outs y j hy
theorem Inv.commit (h : Inv n s) (hn : n ≤ 900000) (x : List UInt8) : Inv (n + 4) (commitP s x).2 := by
  unfold commitP
  cases hp : look s.ps x with
  | none =>
    dsimp only
    split <;> exact h.mono (by omega)
  | some ops =>
    have hw := h.all.pok.runs x ops hp
    have h4 := (h.all.pok.few x ops hp).1
    refine h.decide' (m := n + 4) (by omega) (by omega) ?_ (run_ok h.all.ok.types h.all.ok.cases hw) (by decide) (fun y os hy hne o ho => run_apart hw (fun p hpo e => ?_))
    · have := run_len (ts := s.types) (most := boundless) (ops := ops) (l := s.cs) (xs := []) (i := 0)
      have := h.len
      omega
    · obtain ⟨z, hz, e1, e2, e3⟩ := h.lkd x ops hp p hpo
      obtain ⟨v, hv, f1, f2, _⟩ := h.lkd y os hy o ho
      refine Classical.byContradiction fun h5 => ?_
      have := e3 h5
      rw [h.apart z hz v hv (e2.trans (e.trans f2.symm)) (by rw [e1, f1]; exact Ne.symm hne)] at this
      cases this
theorem Inv.abort (h : Inv n s) (hn : n ≤ 900000) (x : List UInt8) : Inv n (abortP s x).2 := by
  unfold abortP
  split
  · exact h
  · exact h.decide' (cs' := s.cs) (by omega) (by omega) h.len h.all.ok.cases (by decide) (fun _ _ _ _ _ _ => rfl)
theorem Inv.doFew (h : Inv n s) (hn : n ≤ 900000) (hin : Cin c) (hk : c.kind = 1 ∨ c.kind = 2 ∨ c.kind = 3 ∨ c.kind = 4) : Inv (n + 4) (doP s c).2 := by
  unfold doP
  split
  · exact h.mono (by omega)
  · rename_i hf
    have hf : formedP c = true := by simpa using hf
    unfold formedP at hf
    split
    · rename_i k
      rw [if_pos k] at hf
      exact h.once hn (formed_ops hf).1
    · rename_i k1
      rw [if_neg k1] at hf
      split
      · rename_i k
        rw [if_pos k] at hf
        simp only [Bool.and_eq_true, decide_eq_true_eq] at hf
        exact (h.prepare hn (formed_ops hf.2).1 hin.short hf.1).mono (by omega)
      · split
        · exact h.commit hn _
        · split
          · exact (h.abort hn _).mono (by omega)
          · rename_i k2 k3 k4
            rcases hk with k | k | k | k
            · exact absurd k k1
            · exact absurd k k2
            · exact absurd k k3
            · exact absurd k k4
theorem Inv.start {ts : List Ty} (ht : Tok ts) (lo hi : Int) : Inv 0 (newS ts lo hi) :=
  ⟨⟨⟨ht, ⟨List.nodup_nil, (fun _ h => by cases h), (fun _ h => by cases h)⟩, (fun _ h => by cases h)⟩, ⟨(fun _ _ h => by cases h), (fun _ _ h => by cases h), (fun _ h => by cases h)⟩, (fun _ _ h => by cases h)⟩, Nat.le_refl _, (fun _ _ h => by cases h), (fun _ h => by cases h), (fun _ h => by cases h)⟩
end

end Go.Proofs.YtenejaghgehnoaaGreatDoor

namespace Go.Proofs.YtenejaghgehnoaaGreatDoor
open Go.RowKit Go.Maps

def bookTs : List Ty := [loan, count]
theorem loan_right0 : right loan = 0 := by kernel_rfl
theorem count_right0 : right count = 0 := by kernel_rfl
theorem book_ok : Tok bookTs := by
  refine ⟨by decide, fun t ht => ?_, by decide⟩
  rcases List.mem_cons.1 ht with rfl | ht
  · exact loan_right0
  · rw [List.mem_singleton.1 ht]
    exact count_right0
theorem book_sz : ∀ t ∈ bookTs, Tsz t := by
  intro t ht
  rcases List.mem_cons.1 ht with rfl | ht
  · exact ⟨by decide, by decide, by decide, by decide⟩
  · rw [List.mem_singleton.1 ht]
    exact ⟨by decide, by decide, by decide, by decide⟩
theorem typesT_any {w : World} : Calls Tryz.prog 10 #[] w fun e w' => ∃ g, e = .returned (.slice (some ⟨g, 0, none⟩) 2 2) ∧ TysV w' (.slice (some ⟨g, 0, none⟩) 2 2) bookTs ∧ Kept (fun _ => True) w w' := by
  refine Calls.mono types_any ?_
  rintro e w' ⟨g, a, s, m, b, rfl, hg, hl, hc, hk⟩
  refine ⟨g, rfl, ⟨_, _, rfl, by decide, by simp, fun _ => ⟨g, 0, rfl, lt_of_block hg, fun i hi => ?_⟩⟩, hk⟩
  obtain ⟨va, vs, vm, e1, ha, hs, hm⟩ := hl
  obtain ⟨vb, vt, vn, e2, hb, ht, hn⟩ := hc
  simp only [Value.agg.injEq, Array.mk.injEq, List.cons.injEq, true_and, and_true] at e1 e2
  obtain ⟨rfl, rfl, rfl⟩ := e1
  obtain ⟨rfl, rfl, rfl⟩ := e2
  obtain ⟨a1, c1, rfl, ha'⟩ := ha
  obtain ⟨a2, c2, rfl, hs'⟩ := hs
  obtain ⟨a3, c3, rfl, hm'⟩ := hm
  obtain ⟨a4, c4, rfl, hb'⟩ := hb
  have hcell : ∀ j, w'.cell? ⟨g, j, none⟩ = _ := fun j => cell_of_row w' g j _ _ _ hg
  have hi : i < 2 := hi
  rcases Nat.lt_or_ge i 1 with h1 | h1
  · obtain rfl : i = 0 := by omega
    refine ⟨a1, _, c1, a2, _, c2, a3, _, c3, ?_, ?_, ?_, ?_, ⟨_, _, _, rfl, ⟨_, _, rfl, ha'⟩, ⟨_, _, rfl, hs'⟩, ⟨_, _, rfl, hm'⟩⟩⟩ <;> rw [hcell] <;> rfl
  · obtain rfl : i = 1 := by omega
    refine ⟨a4, _, c4, none, _, 0, none, _, 0, ?_, ?_, ?_, ?_, ⟨_, _, _, rfl, ⟨_, _, rfl, hb'⟩, ht, hn⟩⟩ <;> rw [hcell] <;> rfl

set_option maxRecDepth 100000 in
set_option maxHeartbeats 4000000 in
theorem fresh_any {w : World} {tv : Value} {ts : List Ty} (ht : TysV w tv ts) (hcap : ∀ ao n cap, tv = .slice ao n cap → n ≤ cap) (ok : Tok ts) (hz : ∀ t ∈ ts, Tsz t) :
    Calls Tryz.prog 9 #[tv] w fun e w' => ∃ a tv' h R, e = .returned (.tuple #[.pointer (some ⟨a.S, 0, none⟩), .pointer (some ⟨R, 0, none⟩), .bool true]) ∧ Made w w' a 0 tv' h (newS ts 0 256) ∧
      w.heap.size ≤ R ∧ ¬ a.Mine R ∧ a.T ≠ R ∧ Af w' R 106 517 (rscell tv (.slice none 0 0) (.slice none 0 0) (.slice none 0 0) (.slice none 0 0) (ownP 0 256) (fun _ => false)) := by
  have c1 : Calls Tryz.prog 17 #[tv, .int .i64 0, .int .i64 256] w fun e w' => ∃ a tv' h, e = .returned (.tuple #[.pointer (some ⟨a.S, 0, none⟩), .int .i64 0]) ∧ Made w w' a 0 tv' h (newS ts 0 256) :=
    Calls.mono (newS_any ht hcap hz 0 256) fun e w' hp => by
      rcases hp with ⟨_, _, h⟩ | ⟨hno, _⟩
      · exact h
      · exact absurd ⟨ok, by decide⟩ hno
  obtain ⟨ao, cap, rfl, hl, -⟩ := ht.form
  have HT : Hid (TysV w (.slice ao ts.length cap) ts) := ht
  have HOK : Hid (Tok ts) := ok
  have HZ : Hid (∀ t ∈ ts, Tsz t) := hz
  clear ht hcap ok hz
  go_enter Tryz.func9, Tryz.ntmps9
  go_upto_region 2 with (go_at_call 17; refine Calls.mono c1 ?_; rintro e w1 ⟨a, tv', h, rfl, md⟩; have HM : Hid (Made w w1 a 0 tv' h (newS ts 0 256)) := md; clear c1 md)
  have c2 := rnewS_any (HT.out.all HM.out.kept) HOK.out HZ.out (lo := 0) (hi := 256) (by decide) (by decide) (by decide)
  go_upto_region 3 with (go_at_call 19; refine Calls.mono c2 ?_; rintro e w2 ⟨R, rfl, hR, hA, k2⟩; have HR : Hid (w1.heap.size ≤ R) := hR; have HA : Hid (Af w2 R 106 517 (rscell (.slice ao ts.length cap) (.slice none 0 0) (.slice none 0 0) (.slice none 0 0) (.slice none 0 0) (ownP 0 256) (fun _ => false))) := hA; have HK : Hid (Kept (fun _ => True) w1 w2) := k2; clear c2 hR hA k2)
  go_wp2_with fail
  refine bodyPost_ret (results_tmp3 rfl _ _ _) rfl ?_
  have hs := HM.out.sm
  refine ⟨a, tv', h, R, rfl, ⟨hs.all HK.out, HM.out.mine, HM.out.tab, HM.out.kept.trans HK.out⟩, Nat.le_trans HM.out.kept.size HR.out, fun hm => ?_, ?_, HA.out⟩
  · have := hs.mine_lt hm
    have := HR.out
    omega
  · obtain ⟨cs, fr, hT⟩ := hs.tself
    have := lt_of_block hT
    have := HR.out
    omega

end Go.Proofs.YtenejaghgehnoaaGreatDoor

namespace Go.Proofs.YtenejaghgehnoaaGreatDoor
open Go.RowKit Go.Maps

/-- The shard at S says s; all that it may write lies behind w0. -/
def Shd (w0 w : World) (S n : Nat) (s : Sh) : Prop := ∃ a tv h, a.S = S ∧ Sm w a n tv h s ∧ (∀ k, a.Mine k → w0.heap.size ≤ k) ∧ w0.heap.size ≤ a.T ∧ Inv n s ∧ Tab w
/-- Rows of other types are as they were. -/
structure Oth (w w' : World) : Prop where
  size : w.heap.size ≤ w'.heap.size
  block : ∀ {R : Nat} {cs : Array Value} {ty : TypeId} {fr : Nat × Nat}, w.heap[R]? = some (.cells cs ty fr) → ty ≠ 117 → w'.heap[R]? = some (.cells cs ty fr)
section
variable {w0 w w' : World} {S n : Nat} {s : Sh}
theorem Shd.all (m : Shd w0 w S n s) (k : Kept (fun _ => True) w w') : Shd w0 w' S n s := by
  obtain ⟨a, tv, h, e, m, h1, h2, h3, h4⟩ := m
  exact ⟨a, tv, h, e, m.all k, h1, h2, h3, h4.all k⟩
theorem Shd.mono (m : Shd w0 w S n s) {q : Nat} (hq : n ≤ q) : Shd w0 w S q s := by
  obtain ⟨a, tv, h, e, m, h1, h2, h3, h4⟩ := m
  exact ⟨a, tv, h, e, m.mono hq, h1, h2, h3.mono hq, h4⟩
theorem Oth.all (k : Kept (fun _ => True) w w') : Oth w w' := ⟨k.size, fun h _ => (k.block _ (lt_of_block h) trivial).trans h⟩
theorem Oth.trans {w'' : World} (a : Oth w w') (b : Oth w' w'') : Oth w w'' := ⟨Nat.le_trans a.size b.size, fun h e => b.block (a.block h e) e⟩
/-- An answer is stored in a variable. -/
theorem Shd.ans {R : Nat} {x1 x4 : Value} {x0 x2 x3 : Int} {fr : Nat × Nat} (m : Shd w0 w S n s) (hR : w.heap[R]? = some (.cells #[.int .i64 x0, x1, .int .i64 x2, .int .i64 x3, x4] 35 fr)) (h1 : ∃ o k c, x1 = .slice o k c) (h4 : ∃ o k c, x4 = .slice o k c) (k : Kept (· ≠ R) w w') (ht : Tab w') : Shd w0 w' S n s := by
  obtain ⟨a, tv, h, e, m, g1, g2, g3, _⟩ := m
  exact ⟨a, tv, h, e, m.ans hR h1 h4 k, g1, g2, g3, ht⟩
theorem Shd.tab (m : Shd w0 w S n s) : Tab w := by
  obtain ⟨a, tv, h, e, m, h1, h2, h3, h4⟩ := m
  exact h4
theorem Shd.inv (m : Shd w0 w S n s) : Inv n s := by
  obtain ⟨a, tv, h, e, m, h1, h2, h3, h4⟩ := m
  exact h3
theorem Shd.made {ts : List Ty} {a : Ft} {tv : Value} {h : Lk} (m : Made w0 w' a 0 tv h (newS ts 0 256)) (ok : Tok ts) (ht : Tab w0) : Shd w0 w' a.S 0 (newS ts 0 256) :=
  ⟨a, tv, h, rfl, m.sm, m.mine, m.tab, Inv.start ok 0 256, ht.all m.kept⟩
theorem do_to {c : Cm} {ov av dv : Value} (m : Shd w0 w S n s) (hw : w0.heap.size ≤ w.heap.size) (hv : CmV w c ov av) (hdv : ∃ o k l, dv = .slice o k l) (hin : Cin c) (hk4 : c.kind = 1 ∨ c.kind = 2 ∨ c.kind = 3 ∨ c.kind = 4) (hn : n ≤ 800000) :
    Calls Tryz.prog 13 #[.pointer (some ⟨S, 0, none⟩), cmdV c ov av dv] w fun e w' => ∃ txv, e = .returned (ansV (doP s c).1.kind txv (doP s c).1.at' (doP s c).1.why (.slice none 0 0)) ∧ Txs w' w.heap.size txv (doP s c).1.texts ∧ Shd w0 w' S (n + 10) (doP s c).2 ∧ Oth w w' ∧ Kept (fun k => k < w0.heap.size) w w' := by
  obtain ⟨a, tv, h, rfl, m, h1, h2, h3, h4⟩ := m
  refine Calls.mono (do_few m h3.all h4 hv hdv hin hk4 hn) ?_
  rintro e w' ⟨B', h', txv, rfl, ht, m', st⟩
  refine ⟨txv, rfl, ht, ⟨{ a with B := B' }, tv, h', rfl, m', fun k hk => ?_, h2, (h3.doFew (by omega) hin hk4).mono (by omega), h4.plain st.kept m.plainly⟩, ⟨st.kept.size, fun hR hty => ?_⟩, st.kept.mono (fun k _ hk q => ?_)⟩
  · rcases st.news k hk with q | q
    · exact h1 k q
    · omega
  · exact (st.kept.block _ (lt_of_block hR) (m.cells_ne hR hty)).trans hR
  · have := h1 k q
    omega
end

end Go.Proofs.YtenejaghgehnoaaGreatDoor

namespace Go.Proofs.YtenejaghgehnoaaGreatDoor
open Go.RowKit Go.Maps

def cmd1 (ops : List Oq) : Cm := ⟨1, [], ops, [], 0, 0, []⟩
def cmd2 (x : List UInt8) (ops : List Oq) : Cm := ⟨2, x, ops, [], 0, 0, []⟩
def cmdE (k : Int) (x : List UInt8) : Cm := ⟨k, x, [], [], 0, 0, []⟩
def kn0 : Sh := newS bookTs 0 256
def kn1 : Sh := (doP kn0 (cmd1 [⟨1, [97], [108, 111, 97, 110], 0⟩])).2
def kn2 : Sh := (doP kn1 (cmd2 [116] [⟨2, [97], [115, 117, 109], 9⟩])).2
def kn3 : Sh := (doP kn2 (cmd1 [⟨5, [97], [], 0⟩])).2
def kn4 : Sh := (doP kn3 (cmdE 3 [116])).2
def kn5 : Sh := (doP kn4 (cmd1 [⟨5, [97], [], 0⟩])).2
theorem kn_a : (doP kn0 (cmd1 [⟨1, [97], [108, 111, 97, 110], 0⟩])).1.kind = 1 := by kernel_rfl
theorem kn_b : (doP kn1 (cmd2 [116] [⟨2, [97], [115, 117, 109], 9⟩])).1.kind = 1 := by kernel_rfl
theorem kn_c : (doP kn2 (cmd1 [⟨5, [97], [], 0⟩])).1.kind = 3 := by kernel_rfl
theorem kn_d : (doP kn3 (cmdE 3 [116])).1.kind = 5 := by kernel_rfl
theorem kn_e : (doP kn4 (cmd1 [⟨5, [97], [], 0⟩])).1.kind = 1 := by kernel_rfl
theorem kn_t : (doP kn4 (cmd1 [⟨5, [97], [], 0⟩])).1.texts = [[108, 111, 97, 110, 32, 115, 117, 109, 61, 57, 32, 114, 105, 115, 107, 61, 48]] := by kernel_rfl

end Go.Proofs.YtenejaghgehnoaaGreatDoor

namespace Go.Proofs.YtenejaghgehnoaaGreatDoor
open Go.RowKit

theorem Tryz.sizeOp : (Tryz.prog.info? 61).map (·.size) = some 4 := by kernel_rfl
theorem results_op {fn : Func} {p : Nat} (h : fn.results = #[.cell p 61]) (tmps : Array Value) (w : World) {g : Nat} {cs : Array Value} {t : TypeId} {fr : Nat × Nat} (hp : tmps.getD p undef = .pointer (some ⟨g, 0, none⟩)) (hg : w.heap[g]? = some (.cells cs t fr)) (hc : cs.size = 4) :
    (results fn tmps).run Tryz.prog w = .ok (.agg cs) w :=
  results_cell_row h tmps w g t cs fr _ hp hg Tryz.underlying61 rfl (by rw [hc]; exact Tryz.sizeOp)

set_option maxRecDepth 100000 in
set_option maxHeartbeats 1000000 in
theorem setOp_any {w : World} (x y : List UInt8) (n : Int) :
    Calls Tryz.prog 42 #[.string ⟨x.toArray⟩, .string ⟨y.toArray⟩, .int .i64 n] w fun e w' => e = .returned (opV ⟨2, x, y, n⟩) ∧ Kept (fun _ => True) w w' := by
  have K0 : Hid (Kept (fun _ => True) w (w.alloc (.cells #[.int .i64 2, .string ⟨x.toArray⟩, .string ⟨y.toArray⟩, .int .i64 n] 61))) := (Kept.refl _ _).alloc _
  go_enter Tryz.func42, Tryz.ntmps42
  go_wp2_with fail
  refine bodyPost_ret (results_op rfl _ _ rfl (heap_alloc_new _ _) rfl) rfl ⟨rfl, K0.out⟩

set_option maxRecDepth 100000 in
set_option maxHeartbeats 1000000 in
theorem readOp_any {w : World} (x : List UInt8) :
    Calls Tryz.prog 39 #[.string ⟨x.toArray⟩] w fun e w' => e = .returned (opV ⟨5, x, [], 0⟩) ∧ Kept (fun _ => True) w w' := by
  have K0 : Hid (Kept (fun _ => True) w (w.alloc (.cells #[.int .i64 5, .string ⟨x.toArray⟩, .string ⟨#[]⟩, .int .i64 0] 61))) := (Kept.refl _ _).alloc _
  go_enter Tryz.func39, Tryz.ntmps39
  go_wp2_with fail
  refine bodyPost_ret (results_op rfl _ _ rfl (heap_alloc_new _ _) rfl) rfl ⟨rfl, K0.out⟩

set_option maxRecDepth 100000 in
set_option maxHeartbeats 1000000 in
theorem createOp_any {w : World} (x y : List UInt8) :
    Calls Tryz.prog 40 #[.string ⟨x.toArray⟩, .string ⟨y.toArray⟩] w fun e w' => e = .returned (opV ⟨1, x, y, 0⟩) ∧ Kept (fun _ => True) w w' := by
  have K0 : Hid (Kept (fun _ => True) w (w.alloc (.cells #[.int .i64 1, .string ⟨x.toArray⟩, .string ⟨y.toArray⟩, .int .i64 0] 61))) := (Kept.refl _ _).alloc _
  go_enter Tryz.func40, Tryz.ntmps40
  go_wp2_with fail
  refine bodyPost_ret (results_op rfl _ _ rfl (heap_alloc_new _ _) rfl) rfl ⟨rfl, K0.out⟩

/-- Operations that lie in a block. -/
def obrow : List Oq → List Value
  | [] => []
  | o :: l => .int .i64 o.kind :: .string ⟨o.cas.toArray⟩ :: .string ⟨o.name.toArray⟩ :: .int .i64 o.n :: obrow l
theorem obrow_at : ∀ (l : List Oq) (i : Nat) (h : i < l.length), (obrow l)[i * 4]? = some (.int .i64 (l[i]).kind) ∧ (obrow l)[i * 4 + 1]? = some (.string ⟨(l[i]).cas.toArray⟩) ∧ (obrow l)[i * 4 + 2]? = some (.string ⟨(l[i]).name.toArray⟩) ∧ (obrow l)[i * 4 + 3]? = some (.int .i64 (l[i]).n)
  | [], i, h => by simp at h
  | o :: l, 0, _ => ⟨rfl, rfl, rfl, rfl⟩
  | o :: l, i + 1, h => by
    have := obrow_at l i (by simpa using h)
    rw [show (i + 1) * 4 = i * 4 + 1 + 1 + 1 + 1 by omega]
    exact this
theorem Ov.block {w : World} {G : Nat} {os : List Oq} {cs : Array Value} {fr : Nat × Nat} (h : w.heap[G]? = some (.cells cs 61 fr)) (e : cs.toList = obrow os) (hl : os.length ≤ 1000) (c : Nat) : Ov w (.slice (some ⟨G, 0, none⟩) os.length c) os := by
  refine ⟨_, _, rfl, by omega, fun _ => ⟨G, 0, rfl, lt_of_block h, fun i hi => ?_⟩⟩
  have key : ∀ k, w.cell? ⟨G, k, none⟩ = (obrow os)[k]? := fun k => by
    rw [cell_of_row w G _ _ _ _ h, ← e]
    simp
  simp only [Nat.zero_add, key]
  exact obrow_at os i hi

end Go.Proofs.YtenejaghgehnoaaGreatDoor

namespace Go.Proofs.YtenejaghgehnoaaGreatDoor
open Go.RowKit Go.Maps

section
variable {w0 w : World} {S n : Nat} {s : Sh}
/-- What Do leaves a law. -/
def DoT (w0 w w' : World) (S n : Nat) (r : An × Sh) (base : Nat) (e : Ending) : Prop :=
  ∃ txv, e = .returned (ansV r.1.kind txv r.1.at' r.1.why (.slice none 0 0)) ∧ Txs w' base txv r.1.texts ∧ Shd w0 w' S n r.2 ∧ Oth w w' ∧ Kept (fun k => k < w0.heap.size) w w'
theorem do_one (m : Shd w0 w S n s) (hw : w0.heap.size ≤ w.heap.size) (k : Int) (x : List UInt8) (o : Oq) (hk : k = 1 ∨ k = 2) (ho : o.cas.length ≤ 1000) (hx : x.length ≤ 140737488355327) (hn : n ≤ 800000) :
    Calls Tryz.prog 13 #[.pointer (some ⟨S, 0, none⟩), .agg #[.int .i64 k, .string ⟨x.toArray⟩, .slice (some ⟨w.heap.size, 0, none⟩) 1 1, .slice none 0 0, .int .i64 0, .int .i64 0, .slice none 0 0]]
      (w.alloc (.cells #[.int .i64 o.kind, .string ⟨o.cas.toArray⟩, .string ⟨o.name.toArray⟩, .int .i64 o.n] 61)) fun e w' => DoT w0 w w' S (n + 10) (doP s ⟨k, x, [o], [], 0, 0, []⟩) (w.heap.size + 1) e := by
  have k1 := (Kept.refl (fun _ => True) w).alloc (.cells #[.int .i64 o.kind, .string ⟨o.cas.toArray⟩, .string ⟨o.name.toArray⟩, .int .i64 o.n] 61)
  have hG := heap_alloc_new w (.cells #[.int .i64 o.kind, .string ⟨o.cas.toArray⟩, .string ⟨o.name.toArray⟩, .int .i64 o.n] 61)
  have hz : (w.alloc (.cells #[.int .i64 o.kind, .string ⟨o.cas.toArray⟩, .string ⟨o.name.toArray⟩, .int .i64 o.n] 61)).heap.size = w.heap.size + 1 := by simp
  have hv : CmV (w.alloc (.cells #[.int .i64 o.kind, .string ⟨o.cas.toArray⟩, .string ⟨o.name.toArray⟩, .int .i64 o.n] 61)) ⟨k, x, [o], [], 0, 0, []⟩ (.slice (some ⟨w.heap.size, 0, none⟩) 1 1) (.slice none 0 0) :=
    ⟨Ov.block (os := [o]) hG rfl (by simp) 1, Cv.nil _, fun n k h => by cases h⟩
  have hin : Cin ⟨k, x, [o], [], 0, 0, []⟩ := ⟨fun p hp => by rw [List.mem_singleton.1 hp]; exact ho, hx⟩
  have h4 : k = 1 ∨ k = 2 ∨ k = 3 ∨ k = 4 := hk.elim .inl (fun e => .inr (.inl e))
  have cd := do_to (dv := .slice none 0 0) (m.all k1) (Nat.le_trans hw k1.size) hv ⟨none, 0, 0, rfl⟩ hin h4 hn
  unfold cmdV at cd
  refine Calls.mono cd ?_
  rintro e w' ⟨txv, rfl, ht, m', ot, kk⟩
  rw [hz] at ht
  exact ⟨txv, rfl, ht, m', (Oth.all k1).trans ot, (k1.mono (fun _ _ _ => trivial)).trans kk⟩
theorem do_end (m : Shd w0 w S n s) (hw : w0.heap.size ≤ w.heap.size) (k : Int) (x : List UInt8) (hk : k = 3 ∨ k = 4) (hx : x.length ≤ 140737488355327) (hn : n ≤ 800000) :
    Calls Tryz.prog 13 #[.pointer (some ⟨S, 0, none⟩), .agg #[.int .i64 k, .string ⟨x.toArray⟩, .slice none 0 0, .slice none 0 0, .int .i64 0, .int .i64 0, .slice none 0 0]]
      w fun e w' => DoT w0 w w' S (n + 10) (doP s ⟨k, x, [], [], 0, 0, []⟩) w.heap.size e := by
  have hv : CmV w ⟨k, x, [], [], 0, 0, []⟩ (.slice none 0 0) (.slice none 0 0) :=
    ⟨⟨none, 0, rfl, by simp, fun h => absurd h (by simp)⟩, Cv.nil _, fun n k h => by cases h; rfl⟩
  have hin : Cin ⟨k, x, [], [], 0, 0, []⟩ := ⟨fun p hp => (by cases hp), hx⟩
  have h4 : k = 1 ∨ k = 2 ∨ k = 3 ∨ k = 4 := hk.elim (fun e => .inr (.inr (.inl e))) (fun e => .inr (.inr (.inr e)))
  have cd := do_to (dv := .slice none 0 0) m hw hv ⟨none, 0, 0, rfl⟩ hin h4 hn
  unfold cmdV at cd
  exact cd
/-- An answer in a new variable. -/
theorem boxed (w : World) (a b c d e : Value) (o : Obj) (ho : o = .cells #[.int .i64 0, .slice none 0 0, .int .i64 0, .int .i64 0, .slice none 0 0] 35) :
    (put5 (w.alloc o) w.heap.size a b c d e).heap[w.heap.size]? = some (.cells #[a, b, c, d, e] 35) ∧ Kept (fun _ => True) w (put5 (w.alloc o) w.heap.size a b c d e) := by
  subst ho
  exact ⟨put5_at (heap_alloc_new w _) _ _ _ _ _, put5_new ((Kept.refl _ w).alloc _) (Nat.le_refl _) _ _ _ _ _⟩
end

end Go.Proofs.YtenejaghgehnoaaGreatDoor

namespace Go.Proofs.YtenejaghgehnoaaGreatDoor
open Go.RowKit

theorem lit_texts {w : World} {g : Nat} (ss : List (List UInt8)) (hl : ss.length ≤ 1000000) (hg : w.heap[g]? = some (.cells (srow ss).toArray 9 (0, 0))) : Txs w 0 (.slice (some ⟨g, 0, none⟩) ss.length ss.length) ss := by
  refine ⟨by simp [srow], .inr ⟨g, ss.length, _, rfl, Nat.zero_le _, hg, Nat.le_refl _, by unfold maxLen; omega, by simp [srow], ?_⟩⟩
  have : (srow ss).toArray.toList = srow ss := rfl
  rw [this, Nat.mul_one, List.take_of_length_le (by simp [srow])]
theorem texts_yesK {w : World} {b1 b2 : Nat} {a1 : Option Addr} {n1 c1 : Nat} {v2 : Value} {xs : List (List UInt8)} (h1 : Txs w b1 (.slice a1 n1 c1) xs) (h2 : Txs w b2 v2 xs) (hl : xs.length ≤ 1000000) :
    Calls Tryz.prog 36 #[.slice a1 n1 c1, v2] w fun e w' => e = .returned (.bool true) ∧ Kept (fun _ => True) w w' := by
  obtain ⟨a2, c2, rfl, _, _⟩ := h2.shape
  have hn : n1 ≤ 140737488355328 := by
    obtain ⟨a, c, e, _, _⟩ := h1.shape
    injection e with _ e _
    omega
  refine Calls.mono (texts_any h1 h2 hn) ?_
  rintro e w' ⟨rfl, m, rfl⟩
  exact ⟨by simp, (Kept.refl _ _).drewN m⟩

end Go.Proofs.YtenejaghgehnoaaGreatDoor

namespace Go.Proofs.YtenejaghgehnoaaGreatDoor
open Go.RowKit Go.Maps

/-- What Do leaves, with its kind. -/
def DoK (w0 w w' : World) (S n k : Nat) (s : Sh) (ts : List (List UInt8)) (base : Nat) (e : Ending) : Prop :=
  ∃ o m c x y, e = .returned (.agg #[.int .i64 k, .slice o m c, .int .i64 x, .int .i64 y, .slice none 0 0]) ∧ Txs w' base (.slice o m c) ts ∧ Shd w0 w' S n s ∧ Oth w w' ∧ Kept (fun k => k < w0.heap.size) w w'
theorem DoT.kind {w0 w w' : World} {S n base k : Nat} {r : An × Sh} {s : Sh} {ts : List (List UInt8)} {e : Ending} (h : DoT w0 w w' S n r base e) (hk : r.1.kind = k) (hs : r.2 = s) (ht : r.1.texts = ts) : DoK w0 w w' S n k s ts base e := by
  subst hk; subst hs; subst ht
  obtain ⟨txv, rfl, ht, rest⟩ := h
  obtain ⟨o, c, rfl, _, _⟩ := ht.shape
  exact ⟨o, _, c, _, _, rfl, ht, rest⟩

set_option maxRecDepth 100000 in
set_option maxHeartbeats 8000000 in
theorem knownS_any {w : World} (hTab : Tab w) : Calls Tryz.prog 18 #[] w fun e w' => e = .returned (.bool true) ∧ Kept (fun _ => True) w w' := by
  have ct := typesT_any (w := w)
  have HTb : Hid (Tab w) := hTab
  clear hTab
  go_enter Tryz.func18, Tryz.ntmps18
  go_upto_region 2 with (first
    | (go_at_call 10; refine Calls.mono ct ?_; rintro e w1 ⟨g, rfl, hty, k1⟩; have HK1 : Hid (Kept (fun _ => True) w w1) := k1; have cf := fresh_any hty (fun ao n cap h => by cases h; exact Nat.le_refl _) book_ok book_sz; clear ct hty k1)
    | (go_at_call 9; refine Calls.mono cf ?_; rintro e w2 ⟨a, tv', h, R, rfl, md, r1, r2, r3, r4⟩; have HM : Hid (Shd w1 w2 a.S 0 kn0) := Shd.made md book_ok (HTb.out.all HK1.out); have HK2 : Hid (Kept (fun _ => True) w1 w2) := md.kept; clear cf md r1 r2 r3 r4))
  generalize a.S = S at *
  clear a tv' h
  have HL0 : Hid (Kept (fun k => k < w1.heap.size) w1 w2) := HK2.out.mono (fun _ _ _ => trivial)
  clear HK2
  have cc := createOp_any (w := w2) [97] [108, 111, 97, 110]
  unfold opV at cc
  go_upto_region 5 with (first
    | (go_at_call 40; refine Calls.mono cc ?_; rintro e va0 ⟨rfl, k3⟩; have HKa : Hid (Kept (fun _ => True) w2 va0) := k3; have cd := (do_one (HM.out.all k3) (Nat.le_trans HL0.out.size k3.size) 1 [] ⟨1, [97], [108, 111, 97, 110], 0⟩ (.inl rfl) (by decide) (by decide) (by decide)).mono (fun e w' h => h.kind kn_a (rfl : _ = kn1) rfl); clear cc k3)
    | (go_at_call 13; refine Calls.mono cd ?_; rintro e vb0 ⟨o0, m0, c0, x0, y0, rfl, hh, mm, qq, kk⟩; have HMb : Hid (Shd w1 vb0 S 10 kn1) := mm; have HOb : Hid (Oth va0 vb0) := qq; have HLb : Hid (Kept (fun k => k < w1.heap.size) va0 vb0) := kk; clear cd hh mm qq kk))
  have HB0_0 : Hid _ := heap_alloc_new vb0 (.cells #[.int .i64 1, .slice o0 m0 c0, .int .i64 x0, .int .i64 y0, .slice none 0 0] 35)
  have HKn : Hid _ := (Kept.refl (fun _ => True) vb0).alloc (.cells #[.int .i64 1, .slice o0 m0 c0, .int .i64 x0, .int .i64 y0, .slice none 0 0] 35)
  generalize vb0.alloc (.cells #[.int .i64 1, .slice o0 m0 c0, .int .i64 x0, .int .i64 y0, .slice none 0 0] 35) = vn0 at *
  have HL1 : Hid (Kept (fun k => k < w1.heap.size) w1 vn0) := ((HL0.out.trans (HKa.out.mono (fun _ _ _ => trivial))).trans HLb.out).trans (HKn.out.mono (fun _ _ _ => trivial))
  have HM1 : Hid (Shd w1 vn0 S 10 kn1) := HMb.out.all HKn.out
  generalize vb0.heap.size = A0 at *
  clear HKa HMb HOb HLb HKn HM HL0
  have cc := setOp_any (w := vn0) [97] [115, 117, 109] 9
  unfold opV at cc
  go_upto_region 6 with (first
    | (go_at_call 42; refine Calls.mono cc ?_; rintro e va1 ⟨rfl, k3⟩; have HKa : Hid (Kept (fun _ => True) vn0 va1) := k3; have cd := (do_one (HM1.out.all k3) (Nat.le_trans HL1.out.size k3.size) 2 [116] ⟨2, [97], [115, 117, 109], 9⟩ (.inr rfl) (by decide) (by decide) (by decide)).mono (fun e w' h => h.kind kn_b (rfl : _ = kn2) rfl); clear cc k3)
    | (go_at_call 13; refine Calls.mono cd ?_; rintro e vb1 ⟨o1, m1, c1, x1, y1, rfl, hh, mm, qq, kk⟩; have HMb : Hid (Shd w1 vb1 S 20 kn2) := mm; have HOb : Hid (Oth va1 vb1) := qq; have HLb : Hid (Kept (fun k => k < w1.heap.size) va1 vb1) := kk; clear cd hh mm qq kk))
  have HB1_1 : Hid _ := heap_alloc_new vb1 (.cells #[.int .i64 1, .slice o1 m1 c1, .int .i64 x1, .int .i64 y1, .slice none 0 0] 35)
  have HKn : Hid _ := (Kept.refl (fun _ => True) vb1).alloc (.cells #[.int .i64 1, .slice o1 m1 c1, .int .i64 x1, .int .i64 y1, .slice none 0 0] 35)
  generalize vb1.alloc (.cells #[.int .i64 1, .slice o1 m1 c1, .int .i64 x1, .int .i64 y1, .slice none 0 0] 35) = vn1 at *
  have HB0_1 : Hid _ := (((Oth.all HKa.out).trans HOb.out).trans (Oth.all HKn.out)).block HB0_0.out (by decide)
  clear HB0_0
  have HL2 : Hid (Kept (fun k => k < w1.heap.size) w1 vn1) := ((HL1.out.trans (HKa.out.mono (fun _ _ _ => trivial))).trans HLb.out).trans (HKn.out.mono (fun _ _ _ => trivial))
  have HM2 : Hid (Shd w1 vn1 S 20 kn2) := HMb.out.all HKn.out
  generalize vb1.heap.size = A1 at *
  clear HKa HMb HOb HLb HKn HM1 HL1
  have cc := readOp_any (w := vn1) [97]
  unfold opV at cc
  go_upto_region 7 with (first
    | (go_at_call 39; refine Calls.mono cc ?_; rintro e va2 ⟨rfl, k3⟩; have HKa : Hid (Kept (fun _ => True) vn1 va2) := k3; have cd := (do_one (HM2.out.all k3) (Nat.le_trans HL2.out.size k3.size) 1 [] ⟨5, [97], [], 0⟩ (.inl rfl) (by decide) (by decide) (by decide)).mono (fun e w' h => h.kind kn_c (rfl : _ = kn3) rfl); clear cc k3)
    | (go_at_call 13; refine Calls.mono cd ?_; rintro e vb2 ⟨o2, m2, c2, x2, y2, rfl, hh, mm, qq, kk⟩; have HMb : Hid (Shd w1 vb2 S 30 kn3) := mm; have HOb : Hid (Oth va2 vb2) := qq; have HLb : Hid (Kept (fun k => k < w1.heap.size) va2 vb2) := kk; clear cd hh mm qq kk))
  have HB2_2 : Hid _ := heap_alloc_new vb2 (.cells #[.int .i64 3, .slice o2 m2 c2, .int .i64 x2, .int .i64 y2, .slice none 0 0] 35)
  have HKn : Hid _ := (Kept.refl (fun _ => True) vb2).alloc (.cells #[.int .i64 3, .slice o2 m2 c2, .int .i64 x2, .int .i64 y2, .slice none 0 0] 35)
  generalize vb2.alloc (.cells #[.int .i64 3, .slice o2 m2 c2, .int .i64 x2, .int .i64 y2, .slice none 0 0] 35) = vn2 at *
  have HB0_2 : Hid _ := (((Oth.all HKa.out).trans HOb.out).trans (Oth.all HKn.out)).block HB0_1.out (by decide)
  clear HB0_1
  have HB1_2 : Hid _ := (((Oth.all HKa.out).trans HOb.out).trans (Oth.all HKn.out)).block HB1_1.out (by decide)
  clear HB1_1
  have HL3 : Hid (Kept (fun k => k < w1.heap.size) w1 vn2) := ((HL2.out.trans (HKa.out.mono (fun _ _ _ => trivial))).trans HLb.out).trans (HKn.out.mono (fun _ _ _ => trivial))
  have HM3 : Hid (Shd w1 vn2 S 30 kn3) := HMb.out.all HKn.out
  generalize vb2.heap.size = A2 at *
  clear HKa HMb HOb HLb HKn HM2 HL2
  have cd := (do_end HM3.out HL3.out.size 3 [116] (.inl rfl) (by decide) (by decide)).mono (fun e w' h => h.kind kn_d (rfl : _ = kn4) rfl)
  go_upto_region 8 with (first
    | (go_at_call 13; refine Calls.mono cd ?_; rintro e vb3 ⟨o3, m3, c3, x3, y3, rfl, hh, mm, qq, kk⟩; have HMb : Hid (Shd w1 vb3 S 40 kn4) := mm; have HOb : Hid (Oth vn2 vb3) := qq; have HLb : Hid (Kept (fun k => k < w1.heap.size) vn2 vb3) := kk; clear cd hh mm qq kk))
  have HB3_3 : Hid _ := heap_alloc_new vb3 (.cells #[.int .i64 5, .slice o3 m3 c3, .int .i64 x3, .int .i64 y3, .slice none 0 0] 35)
  have HKn : Hid _ := (Kept.refl (fun _ => True) vb3).alloc (.cells #[.int .i64 5, .slice o3 m3 c3, .int .i64 x3, .int .i64 y3, .slice none 0 0] 35)
  generalize vb3.alloc (.cells #[.int .i64 5, .slice o3 m3 c3, .int .i64 x3, .int .i64 y3, .slice none 0 0] 35) = vn3 at *
  have HB0_3 : Hid _ := (HOb.out.trans (Oth.all HKn.out)).block HB0_2.out (by decide)
  clear HB0_2
  have HB1_3 : Hid _ := (HOb.out.trans (Oth.all HKn.out)).block HB1_2.out (by decide)
  clear HB1_2
  have HB2_3 : Hid _ := (HOb.out.trans (Oth.all HKn.out)).block HB2_2.out (by decide)
  clear HB2_2
  have HL4 : Hid (Kept (fun k => k < w1.heap.size) w1 vn3) := (HL3.out.trans HLb.out).trans (HKn.out.mono (fun _ _ _ => trivial))
  have HM4 : Hid (Shd w1 vn3 S 40 kn4) := HMb.out.all HKn.out
  generalize vb3.heap.size = A3 at *
  clear  HMb HOb HLb HKn HM3 HL3
  have cc := readOp_any (w := vn3) [97]
  unfold opV at cc
  go_upto_region 9 with (first
    | (go_at_call 39; refine Calls.mono cc ?_; rintro e va4 ⟨rfl, k3⟩; have HKa : Hid (Kept (fun _ => True) vn3 va4) := k3; have cd := (do_one (HM4.out.all k3) (Nat.le_trans HL4.out.size k3.size) 1 [] ⟨5, [97], [], 0⟩ (.inl rfl) (by decide) (by decide) (by decide)).mono (fun e w' h => h.kind kn_e (rfl : _ = kn5) kn_t); clear cc k3)
    | (go_at_call 13; refine Calls.mono cd ?_; rintro e vb4 ⟨o4, m4, c4, x4, y4, rfl, hh, mm, qq, kk⟩; have HMb : Hid (Shd w1 vb4 S 50 kn5) := mm; have HOb : Hid (Oth va4 vb4) := qq; have HLb : Hid (Kept (fun k => k < w1.heap.size) va4 vb4) := kk; have HTx : Hid (Txs vb4 _ (.slice o4 m4 c4) [[108, 111, 97, 110, 32, 115, 117, 109, 61, 57, 32, 114, 105, 115, 107, 61, 48]]) := hh; clear cd hh mm qq kk))
  have HB4_4 : Hid _ := heap_alloc_new vb4 (.cells #[.int .i64 1, .slice o4 m4 c4, .int .i64 x4, .int .i64 y4, .slice none 0 0] 35)
  have HKn : Hid _ := (Kept.refl (fun _ => True) vb4).alloc (.cells #[.int .i64 1, .slice o4 m4 c4, .int .i64 x4, .int .i64 y4, .slice none 0 0] 35)
  generalize vb4.alloc (.cells #[.int .i64 1, .slice o4 m4 c4, .int .i64 x4, .int .i64 y4, .slice none 0 0] 35) = vn4 at *
  have HB0_4 : Hid _ := (((Oth.all HKa.out).trans HOb.out).trans (Oth.all HKn.out)).block HB0_3.out (by decide)
  clear HB0_3
  have HB1_4 : Hid _ := (((Oth.all HKa.out).trans HOb.out).trans (Oth.all HKn.out)).block HB1_3.out (by decide)
  clear HB1_3
  have HB2_4 : Hid _ := (((Oth.all HKa.out).trans HOb.out).trans (Oth.all HKn.out)).block HB2_3.out (by decide)
  clear HB2_3
  have HB3_4 : Hid _ := (((Oth.all HKa.out).trans HOb.out).trans (Oth.all HKn.out)).block HB3_3.out (by decide)
  clear HB3_3
  have HL5 : Hid (Kept (fun k => k < w1.heap.size) w1 vn4) := ((HL4.out.trans (HKa.out.mono (fun _ _ _ => trivial))).trans HLb.out).trans (HKn.out.mono (fun _ _ _ => trivial))
  have HM5 : Hid (Shd w1 vn4 S 50 kn5) := HMb.out.all HKn.out
  have HTy : Hid (Txs vn4 _ _ _) := HTx.out.kept HKn.out (fun _ _ => trivial)
  clear HTx
  clear HKa HMb HOb HLb HKn HM4 HL4
  generalize vb4.heap.size = A4 at *
  have z0 := (five_free HB0_4.out).1.1
  have z1 := (five_free HB1_4.out).1.1
  have z2 := (five_free HB2_4.out).1.1
  have z3 := (five_free HB3_4.out).1.1
  have z4 := (five_free HB4_4.out).1.1
  have z5 := (five_free HB4_4.out).1.2.1
  have ka := (Kept.refl (fun _ => True) vn4).alloc (.cells #[.string ⟨#[108, 111, 97, 110, 32, 115, 117, 109, 61, 57, 32, 114, 105, 115, 107, 61, 48]⟩] 9)
  have cx := texts_yesK (HTy.out.kept ka (fun _ _ => trivial)) (lit_texts [[108, 111, 97, 110, 32, 115, 117, 109, 61, 57, 32, 114, 105, 115, 107, 61, 48]] (by decide) (heap_alloc_new vn4 (.cells #[.string ⟨#[108, 111, 97, 110, 32, 115, 117, 109, 61, 57, 32, 114, 105, 115, 107, 61, 48]⟩] 9))) (by decide)
  have HKz : Hid _ := ka
  clear HB0_4 HB1_4 HB2_4 HB3_4 HB4_4 HTy ka
  simp only [List.length_cons, List.length_nil, Nat.zero_add] at cx
  go_wp2_with (go_at_call 36; refine Calls.mono cx ?_; rintro e v9 ⟨rfl, k9⟩; have HK9 : Hid (Kept (fun _ => True) _ v9) := k9; clear cx k9)
  go_ret
  refine ⟨rfl, ?_⟩
  have k5 := (HL5.out.trans ((HKz.out.trans HK9.out).mono (fun _ _ _ => trivial)))
  exact HK1.out.trans (k5.mono (fun i hi _ => hi))

end Go.Proofs.YtenejaghgehnoaaGreatDoor

namespace Go.Proofs.YtenejaghgehnoaaGreatDoor
open Go.RowKit Go.Maps

def put7 (w : World) (D : Nat) (a b c d e f g : Value) : World := ((((((w.setCell ⟨D, 0, none⟩ a).setCell ⟨D, 1, none⟩ b).setCell ⟨D, 2, none⟩ c).setCell ⟨D, 3, none⟩ d).setCell ⟨D, 4, none⟩ e).setCell ⟨D, 5, none⟩ f).setCell ⟨D, 6, none⟩ g
theorem put7_at {w : World} {D : Nat} {x y z u v p q : Value} {T : TypeId} {fr : Nat × Nat} (h : w.heap[D]? = some (.cells #[x, y, z, u, v, p, q] T fr)) (a b c d e f g : Value) : (put7 w D a b c d e f g).heap[D]? = some (.cells #[a, b, c, d, e, f, g] T fr) := by
  have := set_cell (set_cell (set_cell (set_cell (set_cell (set_cell (set_cell h 0 a) 1 b) 2 c) 3 d) 4 e) 5 f) 6 g
  simpa [put7] using this
theorem put7_kept {p : Nat → Prop} {w : World} {D : Nat} (hp : ¬ p D) (a b c d e f g : Value) : Kept p w (put7 w D a b c d e f g) := (((((((Kept.refl p w).setCell hp _).setCell hp _).setCell hp _).setCell hp _).setCell hp _).setCell hp _).setCell hp _
theorem seven_frozen {w : World} {b : Nat} {x0 x1 x2 x3 x4 x5 x6 : Value} {t : TypeId} (h : w.heap[b]? = some (.cells #[x0, x1, x2, x3, x4, x5, x6] t (0, 0))) : w.frozen? ⟨b, 0, none⟩ = false ∧ w.frozen? ⟨b, 1, none⟩ = false ∧ w.frozen? ⟨b, 2, none⟩ = false ∧ w.frozen? ⟨b, 3, none⟩ = false ∧ w.frozen? ⟨b, 4, none⟩ = false ∧ w.frozen? ⟨b, 5, none⟩ = false ∧ w.frozen? ⟨b, 6, none⟩ = false := by
  refine ⟨?_, ?_, ?_, ?_, ?_, ?_, ?_⟩ <;> simp [World.frozen?, h]
theorem Tryz.sizeCmd : (Tryz.prog.info? 40).map (·.size) = some 7 := by kernel_rfl
theorem results_cmd {fn : Func} {p : Nat} (h : fn.results = #[.cell p 40]) (tmps : Array Value) (w : World) {g : Nat} {cs : Array Value} {t : TypeId} {fr : Nat × Nat} (hp : tmps.getD p undef = .pointer (some ⟨g, 0, none⟩)) (hg : w.heap[g]? = some (.cells cs t fr)) (hc : cs.size = 7) :
    (results fn tmps).run Tryz.prog w = .ok (.agg cs) w :=
  results_cell_row h tmps w g t cs fr _ hp hg Tryz.underlying40 rfl (by rw [hc]; exact Tryz.sizeCmd)

theorem own_behind {p : Nat → Prop} {w w' : World} {b e sz n : Nat} {v : Value} {xs : List Value} (h : w.ownsRow b e sz v n xs) (hk : Kept p w w') (hp : ∀ k, b ≤ k → p k) : w'.ownsRow b e sz v n xs := by
  refine ⟨h.1, ?_⟩
  rcases h.2 with h0 | ⟨g, cap, cur, rfl, hb, hh, rest⟩
  · exact .inl h0
  · exact .inr ⟨g, cap, cur, rfl, hb, (hk.block g (lt_of_block hh) (hp g hb)).trans hh, rest⟩

end Go.Proofs.YtenejaghgehnoaaGreatDoor

namespace Go.Proofs.YtenejaghgehnoaaGreatDoor
open Go.RowKit Go.Maps

def kdT (k : Nat) : Int := [1, 1, 2, 2, 3, 4].getD k 4
def txT (k : Nat) : List UInt8 := [[116], [117], [118]].getD k [118]
def csT (k : Nat) : List UInt8 := [[97], [98], [99], [100]].getD k [100]
def tyT (k : Nat) : List UInt8 := [[108, 111, 97, 110], [99, 111, 117, 110, 116]].getD k [99, 111, 117, 110, 116]
def atT (k : Nat) : List UInt8 := [[115, 117, 109], [114, 105, 115, 107], [110]].getD k [110]
def stT (k : Nat) : List UInt8 := [[99, 104, 101, 99, 107], [112, 97, 121]].getD k [112, 97, 121]
theorem kdT_at {k : Nat} (h : k ≤ 5) : (#[.int .i64 1, .int .i64 1, .int .i64 2, .int .i64 2, .int .i64 3, .int .i64 4] : Array Value)[k]? = some (.int .i64 (kdT k)) := by
  match k, h with
  | 0, _ | 1, _ | 2, _ | 3, _ | 4, _ | 5, _ => rfl
theorem txT_at {k : Nat} (h : k ≤ 2) : (#[.string ⟨#[116]⟩, .string ⟨#[117]⟩, .string ⟨#[118]⟩] : Array Value)[k]? = some (.string ⟨(txT k).toArray⟩) := by
  match k, h with
  | 0, _ | 1, _ | 2, _ => rfl
theorem csT_at {k : Nat} (h : k ≤ 3) : (#[.string ⟨#[97]⟩, .string ⟨#[98]⟩, .string ⟨#[99]⟩, .string ⟨#[100]⟩] : Array Value)[k]? = some (.string ⟨(csT k).toArray⟩) := by
  match k, h with
  | 0, _ | 1, _ | 2, _ | 3, _ => rfl
theorem tyT_at {k : Nat} (h : k ≤ 1) : (#[.string ⟨#[108, 111, 97, 110]⟩, .string ⟨#[99, 111, 117, 110, 116]⟩] : Array Value)[k]? = some (.string ⟨(tyT k).toArray⟩) := by
  match k, h with
  | 0, _ | 1, _ => rfl
theorem atT_at {k : Nat} (h : k ≤ 2) : (#[.string ⟨#[115, 117, 109]⟩, .string ⟨#[114, 105, 115, 107]⟩, .string ⟨#[110]⟩] : Array Value)[k]? = some (.string ⟨(atT k).toArray⟩) := by
  match k, h with
  | 0, _ | 1, _ | 2, _ => rfl
theorem stT_at {k : Nat} (h : k ≤ 1) : (#[.string ⟨#[99, 104, 101, 99, 107]⟩, .string ⟨#[112, 97, 121]⟩] : Array Value)[k]? = some (.string ⟨(stT k).toArray⟩) := by
  match k, h with
  | 0, _ | 1, _ => rfl

/-- An operation of few names: k its kind, from nought on. -/
def tameOk (o : Oq) (k : Nat) : Oq :=
  ⟨1 + (k : Int), csT (wi o.n 3), (match k with | 0 => tyT (wi o.name.length 1) | 1 => atT (wi o.name.length 2) | 2 => atT (wi o.name.length 2) | 3 => stT (wi o.name.length 1) | _ => o.name), (match k with | 1 => o.n.tmod 12 | 2 => o.n.tmod 12 | _ => o.n)⟩
def tameO (o : Oq) : Oq := tameOk o (wi o.kind 4)
def tameL (l : List Oq) : List Oq := if l.length = 0 then [⟨5, [97], [], 0⟩] else (l.take 3).map tameO
def tameP (c : Cm) : Cm := ⟨kdT (wi c.kind 5), txT (wi c.tx.length 2), tameL c.ops, [], c.lo, c.hi, []⟩
theorem csT_len (k : Nat) : (csT k).length ≤ 1 := by
  match k with
  | 0 | 1 | 2 | 3 => exact Nat.le_refl _
  | _ + 4 => exact Nat.le_refl _
theorem txT_len (k : Nat) : (txT k).length = 1 := by
  match k with
  | 0 | 1 | 2 => rfl
  | _ + 3 => rfl
theorem kdT_four (k : Nat) : kdT k = 1 ∨ kdT k = 2 ∨ kdT k = 3 ∨ kdT k = 4 := by
  match k with
  | 0 | 1 => exact .inl rfl
  | 2 | 3 => exact .inr (.inl rfl)
  | 4 => exact .inr (.inr (.inl rfl))
  | 5 => exact .inr (.inr (.inr rfl))
  | _ + 6 => exact .inr (.inr (.inr rfl))
theorem tameL_len (l : List Oq) : 1 ≤ (tameL l).length ∧ (tameL l).length ≤ 3 := by
  unfold tameL
  split
  · exact ⟨Nat.le_refl _, by simp⟩
  · simp only [List.length_map, List.length_take]
    omega
theorem tameL_mem {l : List Oq} {o : Oq} (h : o ∈ tameL l) : o.cas.length ≤ 1 ∧ 1 ≤ o.kind ∧ o.kind ≤ 5 := by
  unfold tameL at h
  split at h
  · rw [List.mem_singleton.1 h]
    exact ⟨Nat.le_refl _, by decide, by decide⟩
  · obtain ⟨p, _, rfl⟩ := List.mem_map.1 h
    have := wi_le p.kind 4
    unfold tameO tameOk
    exact ⟨csT_len _, by show (1 : Int) ≤ 1 + _; omega, by show (1 : Int) + _ ≤ 5; omega⟩
theorem tame_in (c : Cm) : Cin (tameP c) := ⟨fun o h => by have := (tameL_mem h).1; omega, by show (txT _).length ≤ _; rw [txT_len]; decide⟩
theorem tame_four (c : Cm) : (tameP c).kind = 1 ∨ (tameP c).kind = 2 ∨ (tameP c).kind = 3 ∨ (tameP c).kind = 4 := kdT_four _

theorem set7_0 {w : World} {D : Nat} {x y z u v p q : Value} {T : TypeId} {fr : Nat × Nat} (h : w.heap[D]? = some (.cells #[x, y, z, u, v, p, q] T fr)) (a : Value) : (w.setCell ⟨D, 0, none⟩ a).heap[D]? = some (.cells #[a, y, z, u, v, p, q] T fr) := by simpa using set_cell h 0 a
theorem set7_1 {w : World} {D : Nat} {x y z u v p q : Value} {T : TypeId} {fr : Nat × Nat} (h : w.heap[D]? = some (.cells #[x, y, z, u, v, p, q] T fr)) (a : Value) : (w.setCell ⟨D, 1, none⟩ a).heap[D]? = some (.cells #[x, a, z, u, v, p, q] T fr) := by simpa using set_cell h 1 a
theorem set7_2 {w : World} {D : Nat} {x y z u v p q : Value} {T : TypeId} {fr : Nat × Nat} (h : w.heap[D]? = some (.cells #[x, y, z, u, v, p, q] T fr)) (a : Value) : (w.setCell ⟨D, 2, none⟩ a).heap[D]? = some (.cells #[x, y, a, u, v, p, q] T fr) := by simpa using set_cell h 2 a
theorem set7_3 {w : World} {D : Nat} {x y z u v p q : Value} {T : TypeId} {fr : Nat × Nat} (h : w.heap[D]? = some (.cells #[x, y, z, u, v, p, q] T fr)) (a : Value) : (w.setCell ⟨D, 3, none⟩ a).heap[D]? = some (.cells #[x, y, z, a, v, p, q] T fr) := by simpa using set_cell h 3 a
theorem set7_6 {w : World} {D : Nat} {x y z u v p q : Value} {T : TypeId} {fr : Nat × Nat} (h : w.heap[D]? = some (.cells #[x, y, z, u, v, p, q] T fr)) (a : Value) : (w.setCell ⟨D, 6, none⟩ a).heap[D]? = some (.cells #[x, y, z, u, v, p, a] T fr) := by simpa using set_cell h 6 a
theorem set4_0 {w : World} {D : Nat} {x y z u : Value} {T : TypeId} {fr : Nat × Nat} (h : w.heap[D]? = some (.cells #[x, y, z, u] T fr)) (a : Value) : (w.setCell ⟨D, 0, none⟩ a).heap[D]? = some (.cells #[a, y, z, u] T fr) := by simpa using set_cell h 0 a
theorem set4_1 {w : World} {D : Nat} {x y z u : Value} {T : TypeId} {fr : Nat × Nat} (h : w.heap[D]? = some (.cells #[x, y, z, u] T fr)) (a : Value) : (w.setCell ⟨D, 1, none⟩ a).heap[D]? = some (.cells #[x, a, z, u] T fr) := by simpa using set_cell h 1 a
theorem set4_2 {w : World} {D : Nat} {x y z u : Value} {T : TypeId} {fr : Nat × Nat} (h : w.heap[D]? = some (.cells #[x, y, z, u] T fr)) (a : Value) : (w.setCell ⟨D, 2, none⟩ a).heap[D]? = some (.cells #[x, y, a, u] T fr) := by simpa using set_cell h 2 a
theorem set4_3 {w : World} {D : Nat} {x y z u : Value} {T : TypeId} {fr : Nat × Nat} (h : w.heap[D]? = some (.cells #[x, y, z, u] T fr)) (a : Value) : (w.setCell ⟨D, 3, none⟩ a).heap[D]? = some (.cells #[x, y, z, a] T fr) := by simpa using set_cell h 3 a

/-- Operations that came in. -/
def Ow (w : World) (v : Value) (xs : List Oq) : Prop :=
  ∃ ao cap, v = .slice ao xs.length cap ∧ (0 < xs.length → ∃ b off, ao = some ⟨b, off, none⟩ ∧ b < w.heap.size ∧ ∀ i (h : i < xs.length), w.cell? ⟨b, off + i * 4, none⟩ = some (.int .i64 (xs[i]).kind) ∧ w.cell? ⟨b, off + i * 4 + 1, none⟩ = some (.string ⟨(xs[i]).cas.toArray⟩) ∧ w.cell? ⟨b, off + i * 4 + 2, none⟩ = some (.string ⟨(xs[i]).name.toArray⟩) ∧ w.cell? ⟨b, off + i * 4 + 3, none⟩ = some (.int .i64 (xs[i]).n))
theorem Ow.all {w w' : World} {v : Value} {xs : List Oq} (h : Ow w v xs) (k : Kept (fun _ => True) w w') : Ow w' v xs := by
  obtain ⟨ao, cap, e, h⟩ := h
  refine ⟨ao, cap, e, fun h0 => ?_⟩
  obtain ⟨b, off, e, hb, hc⟩ := h h0
  refine ⟨b, off, e, Nat.lt_of_lt_of_le hb k.size, fun i hi => ?_⟩
  simp only [kept_cell k hb trivial]
  exact hc i hi
theorem Ow.form {w : World} {v : Value} {xs : List Oq} (h : Ow w v xs) : ∃ ao cap, v = .slice ao xs.length cap := by
  obtain ⟨ao, cap, e, _⟩ := h
  exact ⟨ao, cap, e⟩
theorem Ow.at {w : World} {ao : Option Addr} {n cap : Nat} {xs : List Oq} (h : Ow w (.slice ao n cap) xs) (i : Nat) (hi : i < xs.length) : ∃ b off, ao = some ⟨b, off, none⟩ ∧ b < w.heap.size ∧
    w.cell? ⟨b, off + i * 4, none⟩ = some (.int .i64 (xs[i]).kind) ∧ w.cell? ⟨b, off + i * 4 + 1, none⟩ = some (.string ⟨(xs[i]).cas.toArray⟩) ∧ w.cell? ⟨b, off + i * 4 + 2, none⟩ = some (.string ⟨(xs[i]).name.toArray⟩) ∧ w.cell? ⟨b, off + i * 4 + 3, none⟩ = some (.int .i64 (xs[i]).n) := by
  obtain ⟨ao', cap', e, h⟩ := h
  cases e
  obtain ⟨b, off, e, hb, hc⟩ := h (by omega)
  exact ⟨b, off, e, hb, hc i hi⟩
/-- A command that came in. -/
structure CmIn (W : World) (c : Cm) (ov av dv : Value) : Prop where
  ops : Ow W ov c.ops
  at' : ∃ o k l, av = .slice o k l
  data : ∃ o k l, dv = .slice o k l
  tx : c.tx.length ≤ 9223372036854775807
  names : ∀ o ∈ c.ops, o.name.length ≤ 9223372036854775807
theorem CmIn.all {w w' : World} {c : Cm} {ov av dv : Value} (h : CmIn w c ov av dv) (k : Kept (fun _ => True) w w') : CmIn w' c ov av dv := ⟨h.ops.all k, h.at', h.data, h.tx, h.names⟩
/-- Commands that came in. -/
def Cms (W : World) (v : Value) (cs : List Cm) : Prop :=
  ∃ ao cap, v = .slice ao cs.length cap ∧ (0 < cs.length → ∃ b off, ao = some ⟨b, off, none⟩ ∧ b < W.heap.size ∧ ∀ i (h : i < cs.length), ∃ o1 n1 c1 o2 n2 c2 o3 n3 c3, W.cell? ⟨b, off + i * 7, none⟩ = some (.int .i64 (cs[i]).kind) ∧ W.cell? ⟨b, off + i * 7 + 1, none⟩ = some (.string ⟨(cs[i]).tx.toArray⟩) ∧ W.cell? ⟨b, off + i * 7 + 2, none⟩ = some (.slice o1 n1 c1) ∧ W.cell? ⟨b, off + i * 7 + 3, none⟩ = some (.slice o2 n2 c2) ∧ W.cell? ⟨b, off + i * 7 + 4, none⟩ = some (.int .i64 (cs[i]).lo) ∧ W.cell? ⟨b, off + i * 7 + 5, none⟩ = some (.int .i64 (cs[i]).hi) ∧ W.cell? ⟨b, off + i * 7 + 6, none⟩ = some (.slice o3 n3 c3) ∧ CmIn W cs[i] (.slice o1 n1 c1) (.slice o2 n2 c2) (.slice o3 n3 c3))
theorem Cms.form {w : World} {v : Value} {xs : List Cm} (h : Cms w v xs) : ∃ ao cap, v = .slice ao xs.length cap := by
  obtain ⟨ao, cap, e, _⟩ := h
  exact ⟨ao, cap, e⟩
theorem Cms.at {W W' : World} {ao : Option Addr} {n cap : Nat} {cs : List Cm} (h : Cms W (.slice ao n cap) cs) (k : Kept (fun _ => True) W W') (i : Nat) (hi : i < cs.length) :
    ∃ b off o1 n1 c1 o2 n2 c2 o3 n3 c3, ao = some ⟨b, off, none⟩ ∧ W'.cell? ⟨b, off + i * 7, none⟩ = some (.int .i64 (cs[i]).kind) ∧ W'.cell? ⟨b, off + i * 7 + 1, none⟩ = some (.string ⟨(cs[i]).tx.toArray⟩) ∧ W'.cell? ⟨b, off + i * 7 + 2, none⟩ = some (.slice o1 n1 c1) ∧ W'.cell? ⟨b, off + i * 7 + 3, none⟩ = some (.slice o2 n2 c2) ∧ W'.cell? ⟨b, off + i * 7 + 4, none⟩ = some (.int .i64 (cs[i]).lo) ∧ W'.cell? ⟨b, off + i * 7 + 5, none⟩ = some (.int .i64 (cs[i]).hi) ∧ W'.cell? ⟨b, off + i * 7 + 6, none⟩ = some (.slice o3 n3 c3) ∧ CmIn W' cs[i] (.slice o1 n1 c1) (.slice o2 n2 c2) (.slice o3 n3 c3) := by
  obtain ⟨ao', cap', e, h⟩ := h
  cases e
  obtain ⟨b, off, e, hb, hc⟩ := h (by omega)
  obtain ⟨o1, n1, c1, o2, n2, c2, o3, n3, c3, h0, h1, h2, h3, h4, h5, h6, h7⟩ := hc i hi
  refine ⟨b, off, o1, n1, c1, o2, n2, c2, o3, n3, c3, e, ?_, ?_, ?_, ?_, ?_, ?_, ?_, h7.all k⟩ <;> rw [kept_cell k hb trivial] <;> assumption

end Go.Proofs.YtenejaghgehnoaaGreatDoor

namespace Go.Proofs.YtenejaghgehnoaaGreatDoor
open Go.RowKit Go.Maps

/-- The box of a command. -/
def CmX (w : World) (X : Nat) : Prop := ∃ x0 x1 a2 b2 c2 a3 b3 c3 x4 x5 a6 b6 c6, w.heap[X]? = some (.cells #[.int .i64 x0, .string x1, .slice a2 b2 c2, .slice a3 b3 c3, .int .i64 x4, .int .i64 x5, .slice a6 b6 c6] 40 (0, 0))
section
variable {w w' : World} {X : Nat} {v : Value}
theorem CmX.str (h : CmX w X) {j : Nat} {s : ByteArray} (hj : w.cell? ⟨X, j, none⟩ = some (.string s)) : j = 1 := by
  obtain ⟨x0, x1, a2, b2, c2, a3, b3, c3, x4, x5, a6, b6, c6, h⟩ := h
  rw [cell_of_row w X _ _ _ _ h] at hj
  rcases j with _ | _ | _ | _ | _ | _ | _ | j <;> simp at hj
  rfl
theorem CmX.two (h : CmX w X) : ∃ a b c, w.cell? ⟨X, 2, none⟩ = some (.slice a b c) := by
  obtain ⟨x0, x1, a2, b2, c2, a3, b3, c3, x4, x5, a6, b6, c6, h⟩ := h
  exact ⟨a2, b2, c2, by rw [cell_of_row w X _ _ _ _ h]; rfl⟩
theorem CmX.four (h : CmX w X) : ∃ x, w.cell? ⟨X, 4, none⟩ = some (.int .i64 x) := by
  obtain ⟨x0, x1, a2, b2, c2, a3, b3, c3, x4, x5, a6, b6, c6, h⟩ := h
  exact ⟨x4, by rw [cell_of_row w X _ _ _ _ h]; rfl⟩
theorem CmX.u64 (h : CmX w X) {j : Nat} {n : Int} (hj : w.cell? ⟨X, j, none⟩ = some (.int .u64 n)) : False := by
  obtain ⟨x0, x1, a2, b2, c2, a3, b3, c3, x4, x5, a6, b6, c6, h⟩ := h
  rw [cell_of_row w X _ _ _ _ h] at hj
  rcases j with _ | _ | _ | _ | _ | _ | _ | j <;> simp at hj
theorem CmX.type (h : CmX w X) {cs : Array Value} {ty : TypeId} {fr : Nat × Nat} (e : w.heap[X]? = some (.cells cs ty fr)) : ty = 40 := by
  obtain ⟨x0, x1, a2, b2, c2, a3, b3, c3, x4, x5, a6, b6, c6, h⟩ := h
  rw [h] at e
  simp only [Option.some.injEq, Obj.cells.injEq] at e
  exact e.2.1.symm
theorem CmX.noMap (h : CmX w X) {Y : Nat} (hY : ∃ es clock, w.heap[Y]? = some (.map es clock)) : Y ≠ X := by
  rintro rfl
  obtain ⟨x0, x1, a2, b2, c2, a3, b3, c3, x4, x5, a6, b6, c6, h⟩ := h
  obtain ⟨es, clock, e⟩ := hY
  rw [h] at e
  cases e
theorem Av.cmd {xs : List At} (h : Av w v xs) (hX : CmX w X) (k : Kept (· ≠ X) w w') : Av w' v xs := by
  obtain ⟨ao, cap, e, hl, hn, h⟩ := h
  refine ⟨ao, cap, e, hl, hn, fun h0 => ?_⟩
  obtain ⟨b, off, e, hb, hc⟩ := h h0
  have hne : b ≠ X := by
    rintro rfl
    obtain ⟨q0, q1, _⟩ := hc 0 h0
    have := hX.str q0
    obtain ⟨a2, b2, c2, e2⟩ := hX.two
    rw [show off + 0 * 4 + 1 = 2 by omega, e2] at q1
    cases q1
  refine ⟨b, off, e, Nat.lt_of_lt_of_le hb k.size, fun i hi => ?_⟩
  simp only [kept_cell k hb hne]
  exact hc i hi
theorem Rv.cmd {xs : List Ru} (h : Rv w v xs) (hX : CmX w X) (k : Kept (· ≠ X) w w') : Rv w' v xs := by
  obtain ⟨ao, cap, e, hl, hn, h⟩ := h
  refine ⟨ao, cap, e, hl, hn, fun h0 => ?_⟩
  obtain ⟨b, off, e, hb, hc⟩ := h h0
  have hne : b ≠ X := by
    rintro rfl
    obtain ⟨q0, q1⟩ := hc 0 h0
    have := hX.str q0
    obtain ⟨a2, b2, c2, e2⟩ := hX.two
    rw [show off + 0 * 2 + 1 = 2 by omega, e2] at q1
    cases q1
  refine ⟨b, off, e, Nat.lt_of_lt_of_le hb k.size, fun i hi => ?_⟩
  simp only [kept_cell k hb hne]
  exact hc i hi
theorem Ov.cmd {xs : List Oq} (h : Ov w v xs) (hX : CmX w X) (k : Kept (· ≠ X) w w') : Ov w' v xs := by
  obtain ⟨ao, cap, e, hl, h⟩ := h
  refine ⟨ao, cap, e, hl, fun h0 => ?_⟩
  obtain ⟨b, off, e, hb, hc⟩ := h h0
  have hne : b ≠ X := by
    rintro rfl
    obtain ⟨_, q1, q2, _⟩ := hc 0 h0
    have := hX.str q1
    obtain ⟨a2, b2, c2, e2⟩ := hX.two
    rw [show off + 0 * 4 + 2 = 2 by omega, e2] at q2
    cases q2
  refine ⟨b, off, e, Nat.lt_of_lt_of_le hb k.size, fun i hi => ?_⟩
  simp only [kept_cell k hb hne]
  exact hc i hi
theorem TyV.cmd {t : Ty} (h : TyV w v t) (hX : CmX w X) (k : Kept (· ≠ X) w w') : TyV w' v t := by
  obtain ⟨va, vs, vm, e, h1, h2, h3⟩ := h
  exact ⟨va, vs, vm, e, h1.cmd hX k, h2.cmd hX k, h3.cmd hX k⟩
theorem TysV.cmd {ts : List Ty} (h : TysV w v ts) (hX : CmX w X) (k : Kept (· ≠ X) w w') : TysV w' v ts := by
  obtain ⟨ao, cap, e, hl, hn, h⟩ := h
  refine ⟨ao, cap, e, hl, hn, fun h0 => ?_⟩
  obtain ⟨b, off, e, hb, hc⟩ := h h0
  have hne : b ≠ X := by
    rintro rfl
    obtain ⟨_, _, _, _, _, _, _, _, _, q0, _, _, q3, _⟩ := hc 0 h0
    have := hX.str q0
    obtain ⟨x, e2⟩ := hX.four
    rw [show off + 0 * 4 + 3 = 4 by omega, e2] at q3
    cases q3
  refine ⟨b, off, e, Nat.lt_of_lt_of_le hb k.size, fun i hi => ?_⟩
  obtain ⟨a1, n1, c1, a2, n2, c2, a3, n3, c3, h1, h2, h3, h4, h5⟩ := hc i hi
  simp only [kept_cell k hb hne]
  exact ⟨a1, n1, c1, a2, n2, c2, a3, n3, c3, h1, h2, h3, h4, h5.cmd hX k⟩
theorem Sm.cmd {a : Ft} {n : Nat} {tv : Value} {h : Lk} {s : Sh} (m : Sm w a n tv h s) (hX : CmX w X) (k : Kept (· ≠ X) w w') : Sm w' a n tv h s := by
  have hS : a.S ≠ X := by
    intro e
    have := m.self
    unfold Af at this
    rw [e] at this
    exact absurd (hX.type this) (by decide)
  have hT : a.T ≠ X := by
    intro e
    obtain ⟨cs, fr, q⟩ := m.tself
    rw [e] at q
    exact absurd (hX.type q) (by decide)
  refine ⟨(k.block _ m.slt hS).trans m.self, m.types.cmd hX k, ?_, ?_, m.outs.kept k (hX.noMap m.outs.isMap), Tw.kept m.tb k hT (fun x b e => hX.noMap (Tw.isMap m.tb e)), m.alone, m.rep, m.cp, m.co, m.po, m.bs⟩
  · refine m.cases.plain2 k (hX.noMap m.cases.isMap) (fun b cs fr e => ?_) (fun b cs fr e => ?_)
    · rintro rfl
      exact absurd (hX.type e) (by decide)
    · rintro rfl
      exact absurd (hX.type e) (by decide)
  · obtain ⟨fv, q, h1, h2⟩ := m.preps
    exact ⟨fv, q.kept k (hX.noMap q.isMap), h1, fun x r l e1 e2 => (h2 x r l e1 e2).cmd hX k⟩
theorem Shd.cmd {w0 : World} {S n : Nat} {s : Sh} (m : Shd w0 w S n s) (hX : CmX w X) (k : Kept (· ≠ X) w w') (ht : Tab w') : Shd w0 w' S n s := by
  obtain ⟨a, tv, h, e, m, h1, h2, h3, h4⟩ := m
  exact ⟨a, tv, h, e, m.cmd hX k, h1, h2, h3, ht⟩
end

end Go.Proofs.YtenejaghgehnoaaGreatDoor

namespace Go.Proofs.YtenejaghgehnoaaGreatDoor
open Go.RowKit Go.Maps

def lkOp (write : Bool) : Oq := if write = true then ⟨3, [97], [110], 1⟩ else ⟨5, [97], [], 0⟩
def lkAsks : List Oq := [⟨5, [97], [], 0⟩, ⟨3, [97], [110], 2⟩, ⟨5, [98], [], 0⟩, ⟨3, [98], [110], 3⟩, ⟨1, [97], [99, 111, 117, 110, 116], 0⟩]
def lkAsk (k : Nat) : Oq := lkAsks.getD k ⟨5, [97], [], 0⟩
def lk0 : Sh := (doP kn0 (cmd1 [⟨1, [97], [99, 111, 117, 110, 116], 0⟩, ⟨1, [98], [99, 111, 117, 110, 116], 0⟩])).2
def lkP (b : Bool) : An × Sh := doP lk0 (cmd2 [116] [lkOp b])
def lkQ (b : Bool) (k : Nat) : An × Sh := doP (lkP b).2 (cmd2 [117] [lkAsk k])
def lkA (b : Bool) (k : Nat) : An × Sh := doP (lkQ b k).2 (cmdE 4 [117])
def lkE (b : Bool) (k : Nat) (c : Bool) : An × Sh := doP (lkA b k).2 (cmdE (if c = true then 3 else 4) [116])
def lkR (b : Bool) (k : Nat) (c : Bool) : An × Sh := doP (lkE b k c).2 (cmd1 [lkAsk k])
/-- Is it free? -/
def lkFree (b : Bool) (k : Nat) : Bool := decide (k = 2) || decide (k = 3) || (decide (k = 0) && !b)
def lkRight (b : Bool) (k : Nat) (c : Bool) : Bool := decide ((lkP b).1.kind = 1) && (decide ((lkQ b k).1.kind = 3) != lkFree b k) && decide ((lkR b k c).1.kind ≠ 3) && decide ((lkR b k c).2.ps.length = 0)
theorem lk_right (b : Bool) (k : Nat) (hk : k < 5) (c : Bool) : lkRight b k c = true := by
  have key : ∀ b c : Bool, (lkRight b 0 c && lkRight b 1 c && lkRight b 2 c && lkRight b 3 c && lkRight b 4 c) = true := by
    intro b c
    cases b <;> cases c <;> kernel_rfl
  have h := key b c
  simp only [Bool.and_eq_true] at h
  match k, hk with
  | 0, _ => exact h.1.1.1.1
  | 1, _ => exact h.1.1.1.2
  | 2, _ => exact h.1.1.2
  | 3, _ => exact h.1.2
  | 4, _ => exact h.2
theorem lk_facts (b : Bool) (k : Nat) (hk : k < 5) (c : Bool) : (lkP b).1.kind = 1 ∧ ((lkQ b k).1.kind = 3 ↔ lkFree b k = false) ∧ (lkR b k c).1.kind ≠ 3 ∧ (lkR b k c).2.ps = [] := by
  have h := lk_right b k hk c
  unfold lkRight at h
  simp only [Bool.and_eq_true, decide_eq_true_eq, bne_iff_ne, ne_eq] at h
  refine ⟨h.1.1.1, ?_, h.1.2, List.eq_nil_of_length_eq_zero h.2⟩
  have h2 := h.1.1.2
  cases hf : lkFree b k with
  | false => rw [hf] at h2; simpa using h2
  | true => rw [hf] at h2; simpa using h2

end Go.Proofs.YtenejaghgehnoaaGreatDoor

namespace Go.Proofs.YtenejaghgehnoaaGreatDoor
open Go.RowKit Go.Maps

theorem prepared_none {w0 w : World} {S n : Nat} {s : Sh} (m : Shd w0 w S n s) (hs : s.ps = []) (hn : n ≤ 1000000) :
    Calls Tryz.prog 37 #[.pointer (some ⟨S, 0, none⟩)] w fun e w' => ∃ o c, e = .returned (.slice o 0 c) ∧ Kept (fun _ => True) w w' := by
  obtain ⟨a, tv, h, rfl, m, h1, h2, h3, h4⟩ := m
  refine Calls.mono (prepared_any m hn) ?_
  rintro e w' ⟨v, us, rfl, _, hu, _, ht, k⟩
  have h0 : us = [] := by
    cases us with
    | nil => rfl
    | cons x us =>
      have := (hu x).1 (List.mem_cons_self ..)
      rw [hs] at this
      exact absurd rfl this
  subst h0
  obtain ⟨o, c, rfl, _, _⟩ := ht.shape
  exact ⟨o, c, rfl, k⟩
theorem prepared_to {w0 w : World} {S n : Nat} {s : Sh} (m : Shd w0 w S n s) (hn : n ≤ 1000000) :
    Calls Tryz.prog 37 #[.pointer (some ⟨S, 0, none⟩)] w fun e w' => ∃ v us, e = .returned v ∧ Rises us ∧ (∀ x, x ∈ us ↔ look s.ps x ≠ none) ∧ us.length ≤ n ∧ Txs w' w.heap.size v us ∧ Kept (fun _ => True) w w' := by
  obtain ⟨a, tv, h, rfl, m, h1, h2, h3, h4⟩ := m
  exact prepared_any m hn
theorem Ov.piece {w : World} {b off n cap : Nat} {xs : List Oq} (h : Ov w (.slice (some ⟨b, off, none⟩) n cap) xs) {i : Nat} (hi : i < xs.length) (c : Nat) {at' : Nat} (ha : at' = off + i * 4) : Ov w (.slice (some ⟨b, at', none⟩) 1 c) [xs[i]] := by
  subst ha
  obtain ⟨b', off', e, hb, h0, h1, h2, h3⟩ := h.at i hi
  cases e
  refine ⟨_, _, rfl, by simp, fun _ => ⟨b, off + i * 4, rfl, hb, fun j hj => ?_⟩⟩
  have : j = 0 := by simpa using hj
  subst this
  simp only [Nat.zero_mul, Nat.add_zero, List.getElem_cons_zero]
  exact ⟨h0, h1, h2, h3⟩
/-- Do with a piece of a row. -/
theorem do_piece {w0 w : World} {S n b off m cap : Nat} {s : Sh} {xs : List Oq} (sh : Shd w0 w S n s) (hw : w0.heap.size ≤ w.heap.size) (hv : Ov w (.slice (some ⟨b, off, none⟩) m cap) xs) {i : Nat} (hi : i < xs.length) (c : Nat) {at' : Nat} (ha : at' = off + i * 4) (k : Int) (x : List UInt8) (hk : k = 1 ∨ k = 2) (ho : (xs[i]).cas.length ≤ 1000) (hx : x.length ≤ 140737488355327) (hn : n ≤ 800000) :
    Calls Tryz.prog 13 #[.pointer (some ⟨S, 0, none⟩), .agg #[.int .i64 k, .string ⟨x.toArray⟩, .slice (some ⟨b, at', none⟩) 1 c, .slice none 0 0, .int .i64 0, .int .i64 0, .slice none 0 0]]
      w fun e w' => DoT w0 w w' S (n + 10) (doP s ⟨k, x, [xs[i]], [], 0, 0, []⟩) w.heap.size e := by
  have hc : CmV w ⟨k, x, [xs[i]], [], 0, 0, []⟩ (.slice (some ⟨b, at', none⟩) 1 c) (.slice none 0 0) := ⟨hv.piece hi c ha, Cv.nil _, fun n k h => by cases h⟩
  have hin : Cin ⟨k, x, [xs[i]], [], 0, 0, []⟩ := ⟨fun p hp => by rw [List.mem_singleton.1 hp]; exact ho, hx⟩
  have h4 : k = 1 ∨ k = 2 ∨ k = 3 ∨ k = 4 := hk.elim .inl (fun e => .inr (.inl e))
  have cd := do_to (dv := .slice none 0 0) sh hw hc ⟨none, 0, 0, rfl⟩ hin h4 hn
  unfold cmdV at cd
  exact cd
/-- Do with what once answered. -/
theorem do_once {w0 w : World} {S n : Nat} {s : Sh} {ops : List Oq} {ov : Value} (sh : Shd w0 w S n s) (hw : w0.heap.size ≤ w.heap.size) (hc : CmV w (cmd1 ops) ov (.slice none 0 0)) (ho : ∀ o ∈ ops, o.cas.length ≤ 1000) (hn : n ≤ 800000) :
    Calls Tryz.prog 13 #[.pointer (some ⟨S, 0, none⟩), .agg #[.int .i64 1, .string ⟨#[]⟩, ov, .slice none 0 0, .int .i64 0, .int .i64 0, .slice none 0 0]]
      w fun e w' => DoT w0 w w' S (n + 10) (doP s (cmd1 ops)) w.heap.size e := by
  have hin : Cin (cmd1 ops) := ⟨ho, by unfold cmd1; simp⟩
  have h4 : (cmd1 ops).kind = 1 ∨ (cmd1 ops).kind = 2 ∨ (cmd1 ops).kind = 3 ∨ (cmd1 ops).kind = 4 := .inl rfl
  have cd := do_to (dv := .slice none 0 0) sh hw hc ⟨none, 0, 0, rfl⟩ hin h4 hn
  unfold cmdV at cd
  exact cd
/-- A variable of another type is written. -/
theorem Shd.box {w0 w w' : World} {S n R : Nat} {s : Sh} {cs : Array Value} {ty : TypeId} {fr : Nat × Nat} (m : Shd w0 w S n s) (hR : w.heap[R]? = some (.cells cs ty fr)) (h1 : ty ≠ 117) (h2 : ty ≠ 3) (h3 : ty ≠ 4) (h4 : ty ≠ 186) (hc : ∀ (i : Nat) (v : Value), cs[i]? = some v → (∀ x, v ≠ .string x) ∧ (∀ x, v ≠ .int .u64 x)) (k : Kept (· ≠ R) w w') (ht : Tab w') : Shd w0 w' S n s := by
  obtain ⟨a, tv, h, e, m, g1, g2, g3, _⟩ := m
  exact ⟨a, tv, h, e, m.box hR h1 h2 h3 h4 hc k, g1, g2, g3, ht⟩

end Go.Proofs.YtenejaghgehnoaaGreatDoor
