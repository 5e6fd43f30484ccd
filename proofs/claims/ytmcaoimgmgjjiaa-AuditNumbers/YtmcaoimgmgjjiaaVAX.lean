/-
  Texts of the proofs, 50 of 53.
-/
import Derived.Test.YtmcaoimgmgjjiaaVAW
import Derived.Deep.RegionHeld
import Derived.Test.YtmcaoimgmgjjiaaVC
namespace Go.Proofs.Ytmcaoimgmgjjiaa
open Go.RowKit Go.Maps Go.Sort

/-- A small claim. -/
structure Clq (w : World) (c : Uc) : Prop where
  has : Has w c.a c.bs
  fit : Fits c.g
  cap : c.a = none → c.c = 0
  le : c.bs.length ≤ c.c
  few : c.bs.length ≤ 900
theorem Clq.all {w w' : World} {c : Uc} (h : Clq w c) (k : Kept (fun _ => True) w w') : Clq w' c := ⟨h.has.kept k (fun _ _ => trivial), h.fit, h.cap, h.le, h.few⟩
/-- A row of small claims. -/
structure Lst (w : World) (a : Option Addr) (cs : List Uc) : Prop where
  vw : Vw claimS w a cs
  cl : ∀ c ∈ cs, Clq w c
  few : cs.length ≤ 200
section
variable {w w' : World} {a : Option Addr} {cs cl : List Uc}
theorem Lst.all (h : Lst w a cs) (k : Kept (fun _ => True) w w') : Lst w' a cs := ⟨h.vw.all k, fun c hc => (h.cl c hc).all k, h.few⟩
theorem Lst.cv (h : Lst w a cs) : Cv w a cs := ⟨h.vw, fun c hc => (h.cl c hc).has, fun c hc => by have := (h.cl c hc).few; omega, fun c hc => (h.cl c hc).fit⟩
theorem lst_new {B : Nat} (hB : w.heap[B]? = some (.cells (claimS.row cs).toArray 27 (0, 0))) (h : ∀ c ∈ cs, Clq w c) (hn : cs.length ≤ 200) : Lst w (some ⟨B, 0, none⟩) cs := ⟨vw_row hB, h, hn⟩
theorem encU_few {r : Rr} (h1 : r.1.tx.length ≤ 1) (h2 : r.1.bd.length ≤ 1) (h3 : r.1.gs.length ≤ 2) : (encU r.1).length ≤ 14 := by
  have hg : ∀ gs : List Int, (encGi gs).length = gs.length := fun gs => by
    induction gs with
    | nil => rfl
    | cons g gs ih =>
      show (enc (u64 g) 1 ++ encGi gs).length = _
      rw [List.length_append, enc_length, ih, List.length_cons]
      omega
  unfold encU
  simp only [List.length_append, enc_length, hg]
  omega
/-- A claim of at most three small records. -/
theorem clq_any {w : World} {R n : Nat} {rs : List Rr} (g : Int) (hg : Fits g) (hR : w.heap[R]? = some (.cells (recS.row rs).toArray 24 (0, 0))) (hgi : ∀ r ∈ rs, Gi w r.2.1 r.1.gs) (hs : ∀ r ∈ rs, r.1.tx.length ≤ 1 ∧ r.1.bd.length ≤ 1 ∧ r.1.gs.length ≤ 2) (hn : rs.length = n) (h3 : n ≤ 3) :
    Calls Try.prog 9 #[.int .i64 g, .slice (some ⟨R, 0, none⟩) n n] w fun e w' => ∃ (a : Option Addr) (c : Nat) (bs : List UInt8), e = .returned (.agg #[.int .i64 g, .slice a bs.length c]) ∧ Clq w' ⟨g, bs, a, c⟩ ∧ Ob w' w.heap.size (.slice a bs.length c) bs ∧ 0 < bs.length ∧ Kept (fun _ => True) w w' := by
  have hc := claim_any (cap := n) g (rs := rs) ⟨vw_row hR, hgi⟩ (by omega) (fun r hr => by have := hs r hr; omega) (fun r hr => by have := hs r hr; omega)
  rw [hn] at hc
  refine hc.mono ?_
  rintro e w' ⟨a', c', rfl, ho, k⟩
  obtain ⟨s1, s2⟩ := ob_shape ho
  have h1 := wgt_few (M := 14) (mkC (rs.map fun r => encU r.1)) (fun x hx => by
    have : x.t ∈ txs (mkC (rs.map fun r => encU r.1)) := List.mem_map.2 ⟨x, hx, rfl⟩
    rw [txs_mkC] at this
    obtain ⟨r, hr, e⟩ := List.mem_map.1 this
    have h := hs r hr
    rw [← e]
    exact encU_few h.1 h.2.1 h.2.2)
  rw [mkC_length, List.length_map, hn] at h1
  have hl : (encL (mkC (rs.map fun r => encU r.1))).length = wgt (mkC (rs.map fun r => encU r.1)) + 4 := encL_len _
  exact ⟨a', c', _, rfl, ⟨own_has ho, hg, s1, s2, by show (encL _).length ≤ 900; rw [hl]; omega⟩, ho, by show 0 < (encL _).length; rw [hl]; omega, k⟩
/-- What Verify answers is a fault and a truth. -/
theorem EVer.form {pq : List (Up × Ua)} {e : Ending} (h : EVer pq e) : ∃ (r i z : Int) (ok : Bool), e = .returned (.tuple #[.agg #[.int .i64 r, .int .i64 i, .int .i64 z], .bool ok]) := by
  rcases h with ⟨_, rfl⟩ | ⟨j, i, z, _, _, _, _, _, _, rfl⟩
  · exact ⟨0, 0, 0, true, rfl⟩
  · exact ⟨_, _, _, _, rfl⟩
theorem verify_lst {n c : Nat} (h : Lst w a cs) (hn : cs.length = n) : Calls Try.prog 10 #[.slice a n c] w fun e w' => (∃ (r i z : Int) (ok : Bool) (pq : List (Up × Ua)), e = .returned (.tuple #[.agg #[.int .i64 r, .int .i64 i, .int .i64 z], .bool ok]) ∧ Pgs cs (pq.map (·.1)) ∧ EVer pq (.returned (.tuple #[.agg #[.int .i64 r, .int .i64 i, .int .i64 z], .bool ok]))) ∧ Kept (fun _ => True) w w' := by
  subst hn
  refine (verify_any h.cv h.few).mono ?_
  rintro e w' ⟨pq, hp, he, k⟩
  obtain ⟨r, i, z, ok, rfl⟩ := he.form
  exact ⟨⟨r, i, z, ok, pq, rfl, hp, he⟩, k⟩
/-- Claims of the document's that say what these say. -/
structure Ldc (w : World) (a : Option Addr) (cs cl : List Uc) : Prop where
  cv : Cv w a cl
  gb : cl.map gb = cs.map gb
  cap : ∀ c ∈ cl, (c.a = none → c.c = 0) ∧ c.bs.length ≤ c.c
theorem Ldc.all (h : Ldc w a cs cl) (k : Kept (fun _ => True) w w') : Ldc w' a cs cl := ⟨h.cv.all k, h.gb, h.cap⟩
theorem Ldc.len (h : Ldc w a cs cl) : cl.length = cs.length := by have := congrArg List.length h.gb; rwa [List.length_map, List.length_map] at this
theorem in_lst {n c : Nat} (h : Lst w a cs) (hn : cs.length = n) : Calls Try.prog 12 #[.slice a n c] w fun e w' => (∃ a' c' cl, e = .returned (.slice a' n c') ∧ Ldc w' a' cs cl) ∧ Kept (fun _ => True) w w' := by
  subst hn
  refine (in_any h.cv h.few (fun c hc => (h.cl c hc).cap)).mono ?_
  rintro e w' ⟨a', c', cl, rfl, _, hg, hv, hc, k⟩
  exact ⟨⟨a', c', cl, rfl, hv, hg, hc⟩, k⟩
theorem ldc_few {cs cl : List Uc} (hg : cl.map gb = cs.map gb) (h : ∀ c ∈ cs, c.bs.length ≤ 900) : ∀ c ∈ cl, c.bs.length ≤ 900 := fun c hc => by
  have h1 : Go.Proofs.Ytmcaoimgmgjjiaa.gb c ∈ cs.map Go.Proofs.Ytmcaoimgmgjjiaa.gb := by rw [← hg]; exact List.mem_map_of_mem hc
  obtain ⟨d, hd, e⟩ := List.mem_map.1 h1
  have e2 : d.bs = c.bs := congrArg Prod.snd e
  rw [← e2]
  exact h d hd
/-- The document's Verify answers the same. -/
theorem rverify_lst {n c : Nat} {w0 : World} {a0 : Option Addr} (h0 : Lst w0 a0 cs) (h : Ldc w a cs cl) (hn : cs.length = n) {pq : List (Up × Ua)} {E : Ending} (hp : Pgs cs (pq.map (·.1))) (he : EVer pq E) : Calls Try.prog 11 #[.slice a n c] w fun e w' => e = E ∧ Kept (fun _ => True) w w' := by
  have hl := h.len
  have hf := ldc_few h.gb (fun c hc => (h0.cl c hc).few)
  have := rverify_any (cap := c) h.cv (by have := h0.few; omega) (fun c hc => ⟨(h.cap c hc).1, (h.cap c hc).2, hf c hc⟩)
  rw [hl, hn] at this
  exact this.mono fun e w' ⟨hr, k⟩ => ⟨(ver_same hp h.gb hr).one he, k⟩
theorem Dcs.gb {cs cl : List Uc} {l : List (List Li)} (hg : cl.map gb = cs.map gb) (h : Dcs cl l) : Dcs cs l := by
  have hl : cl.length = cs.length := by have := congrArg List.length hg; rwa [List.length_map, List.length_map] at this
  refine ⟨h.len.trans hl, fun i h1 h2 => ?_⟩
  have h3 : i < cl.length := by omega
  obtain ⟨y, z, hd⟩ := h.dec i h1 h3
  have e : Go.Proofs.Ytmcaoimgmgjjiaa.gb cl[i] = Go.Proofs.Ytmcaoimgmgjjiaa.gb cs[i] := by
    have := congrArg (fun l => l[i]?) hg
    simpa [List.getElem?_eq_getElem h2, List.getElem?_eq_getElem h3] using this
  have e2 : cl[i].bs = cs[i].bs := congrArg Prod.snd e
  rw [e2] at hd
  exact ⟨y, z, hd⟩
theorem outcomes_lst {n c : Nat} (h : Lst w a cs) (hn : cs.length = n) (tx : List UInt8) : Calls Try.prog 14 #[.slice a n c, .string ⟨tx.toArray⟩] w fun e w' => (∃ v lss, e = .returned v ∧ Dcs cs lss ∧ Its w' w.heap.size v (outO (kol (outR lss) tx))) ∧ Kept (fun _ => True) w w' := by
  subst hn
  exact (outcomes_any h.cv h.few tx).mono fun e w' ⟨v, lss, he, hd, hi, k⟩ => ⟨⟨v, lss, he, hd, hi⟩, k⟩
/-- The document's Outcomes answers the same. -/
theorem routcomes_lst {n c : Nat} {w0 : World} {a0 : Option Addr} (h0 : Lst w0 a0 cs) (h : Ldc w a cs cl) (hn : cs.length = n) (tx : List UInt8) {lss : List (List Li)} (hd : Dcs cs lss) : Calls Try.prog 15 #[.slice a n c, .string ⟨tx.toArray⟩] w fun e w' => (∃ v, e = .returned v ∧ Its w' w.heap.size v (outO (kol (outR lss) tx))) ∧ Kept (fun _ => True) w w' := by
  have hl := h.len
  have hf := ldc_few h.gb (fun c hc => (h0.cl c hc).few)
  have := routcomes_any (cap := c) h.cv (by have := h0.few; omega) (fun c hc => ⟨(h.cap c hc).1, (h.cap c hc).2, hf c hc⟩) tx
  rw [hl, hn] at this
  refine this.mono ?_
  rintro e w' ⟨v, lss', rfl, hd', hi, k⟩
  obtain rfl := hd.one (hd'.gb h.gb)
  exact ⟨⟨v, rfl, hi⟩, k⟩
end

end Go.Proofs.Ytmcaoimgmgjjiaa

namespace Go.Proofs.Ytmcaoimgmgjjiaa
open Go

section
variable {P : Program} {md : Region.Mode} {ops : Array Oper} {Q : Exit → Act → World → Prop}

theorem cnt_set {l : List Bool} {i : Nat} (h : l[i]? = some false) : (l.set i true).count false + 1 = l.count false := by
  obtain ⟨hi, e⟩ := List.getElem?_eq_some_iff.1 h
  have h1 : 0 < l.count false := List.count_pos_iff.2 (by rw [← e]; exact List.getElem_mem hi)
  rw [List.count_set hi, e]
  simp
  omega
theorem done_no {done : Array Bool} {i : Nat} (h : done.getD i true = false) : done.toList[i]? = some false := by
  rcases Nat.lt_or_ge i done.size with q | q
  · rw [Array.getD, dif_pos q] at h
    rw [Array.getElem?_toList, Array.getElem?_eq_getElem q]
    exact congrArg some h
  · rw [Array.getD, dif_neg (by omega)] at h
    cases h
/-- What stands in the slots while the region goes. -/
structure Slots (ops : Array Oper) (d : Nat → Nat) (V : Nat → World → Value → Prop) (a0 : Act) (w0 : World) (done : Array Bool) (a : Act) (w : World) : Prop where
  kept : Kept (fun _ => True) w0 w
  defs : a.defers = a0.defers
  size : a.tmps.size = a0.tmps.size
  same : ∀ k, (∀ j, j < ops.size → d j ≠ k) → a.tmps[k]? = a0.tmps[k]?
  vals : ∀ i, i < ops.size → done.getD i false = true → ∃ v, a.tmps[d i]? = some v ∧ V i w v
theorem wpAny_vals (d : Nat → Nat) (V : Nat → World → Value → Prop) (a0 : Act) (w0 : World)
    (hinj : ∀ i j, i < ops.size → j < ops.size → d i = d j → i = j) (hsz : ∀ i, i < ops.size → d i < a0.tmps.size)
    (hmono : ∀ i w w' v, V i w v → Kept (fun _ => True) w w' → V i w' v)
    (step : ∀ (i : Nat) (o : Oper), ops[i]? = some o → ∀ (a : Act) (w : World), Kept (fun _ => True) w0 w → (∀ k, (∀ j, j < ops.size → d j ≠ k) → a.tmps[k]? = a0.tmps[k]?) → (∀ e ∈ o.after, Region.binds md e = true → ∃ v, a.tmps[d e.on]? = some v ∧ V e.on w v) → wpOp P ops Q i (fun a' w' => ∃ v, a' = a.put (some (d i)) v ∧ Kept (fun _ => True) w w' ∧ V i w' v) a w)
    (hon : ∀ (i : Nat) (o : Oper), ops[i]? = some o → ∀ e ∈ o.after, e.on < ops.size)
    (fin : ∀ (a : Act) (w : World), Kept (fun _ => True) w0 w → a.defers = a0.defers → a.tmps.size = a0.tmps.size → (∀ k, (∀ j, j < ops.size → d j ≠ k) → a.tmps[k]? = a0.tmps[k]?) → (∀ i, i < ops.size → ∃ v, a.tmps[d i]? = some v ∧ V i w v) → Q .normal a w)
    (hall : ∀ done : Array Bool, done.size = ops.size → Region.ready md ops done = [] → ∀ i, i < ops.size → done.getD i false = true) :
    ∀ n (done : Array Bool) (a : Act) (w : World), done.size = ops.size → done.toList.count false ≤ n → Slots ops d V a0 w0 done a w → wpAny P md ops Q n done a w := by
  have last : ∀ (done : Array Bool) (a : Act) (w : World), done.size = ops.size → Slots ops d V a0 w0 done a w → Region.ready md ops done = [] → Q .normal a w := fun done a w hs h hr => fin a w h.kept h.defs h.size h.same fun i hi => h.vals i hi (hall done hs hr i hi)
  intro n
  induction n with
  | zero =>
    intro done a w hs hc h
    have hr : Region.ready md ops done = [] := by
      refine List.eq_nil_iff_forall_not_mem.2 fun i hi => ?_
      obtain ⟨h0, _⟩ := mem_ready.1 hi
      have h1 := done_no h0
      have h2 : 0 < done.toList.count false := List.count_pos_iff.2 (List.mem_of_getElem? h1)
      omega
    exact ⟨hr, last done a w hs h hr⟩
  | succ n ih =>
    intro done a w hs hc h
    refine ⟨last done a w hs h, fun i hi => ?_⟩
    obtain ⟨h0, o, ho, hb⟩ := mem_ready.1 hi
    have hil : i < ops.size := by
      rcases Nat.lt_or_ge i ops.size with q | q
      · exact q
      · rw [Array.getElem?_eq_none q] at ho; cases ho
    refine wpOp_mono (fun a' w' hq => ?_) (step i o ho a w h.kept h.same fun e he hbe => h.vals e.on (hon i o ho e he) (hb e he hbe))
    obtain ⟨v, rfl, hk, hv⟩ := hq
    refine ih _ _ _ (by rw [Array.size_setIfInBounds]; exact hs) ?_ ⟨h.kept.trans hk, h.defs, ?_, fun k hk' => ?_, fun j hj hdj => ?_⟩
    · have := cnt_set (done_no h0)
      rw [Array.toList_setIfInBounds]
      omega
    · show (a.tmps.setIfInBounds _ _).size = _
      rw [Array.size_setIfInBounds]
      exact h.size
    · show (a.tmps.setIfInBounds (d i) v)[k]? = _
      rw [Array.getElem?_setIfInBounds_ne (hk' i hil)]
      exact h.same k hk'
    · by_cases e : i = j
      · subst e
        refine ⟨v, ?_, hv⟩
        show (a.tmps.setIfInBounds (d i) v)[d i]? = _
        rw [Array.getElem?_setIfInBounds_self_of_lt (by rw [h.size]; exact hsz i hil)]
      · have hdj2 : done.getD j false = true := by
          rcases Nat.lt_or_ge j done.size with q | q
          · simp only [Array.getD_eq_getD_getElem?, Array.getElem?_setIfInBounds_ne e] at hdj
            simpa only [Array.getD_eq_getD_getElem?] using hdj
          · omega
        obtain ⟨u, hu, hV⟩ := h.vals j hj hdj2
        refine ⟨u, ?_, hmono j w w' u hV hk⟩
        show (a.tmps.setIfInBounds (d i) v)[d j]? = _
        rw [Array.getElem?_setIfInBounds_ne (fun q => e (hinj i j hil hj q))]
        exact hu
/-- Operations that wait for earlier ones alone: when none is ready, all are done. -/
theorem all_done (hac : ∀ (i : Nat) (o : Oper), ops[i]? = some o → ∀ e ∈ o.after, e.on < i) (done : Array Bool) (hs : done.size = ops.size) (hr : Region.ready md ops done = []) (i : Nat) : i < ops.size → done.getD i false = true := by
  induction i using Nat.strongRecOn with
  | _ i ih =>
    intro hi
    have hid : i < done.size := by omega
    by_cases h : done.getD i true = true
    · rw [Array.getD, dif_pos hid] at h ⊢
      exact h
    · refine absurd (mem_ready.2 ⟨by simpa using h, ops[i], Array.getElem?_eq_getElem hi, fun e he _ => ?_⟩ : i ∈ Region.ready md ops done) (by rw [hr]; simp)
      have h1 := hac i _ (Array.getElem?_eq_getElem hi) e he
      exact ih e.on h1 (by omega)
theorem wpOp_of {i : Nat} {o : Oper} {K : Act → World → Prop} {a : Act} {w : World} (hi : ops[i]? = some o) (hg : o.guard = none) (h : Oper.wp P o a w K Q) : wpOp P ops Q i K a w := by
  have hw : Region.wanted o (yielded ops a.tmps) = true := by simp [Region.wanted, hg]
  unfold wpOp
  simp only [hi, hw, if_true]
  exact .inl h
/-- It holds of each, counted from k. -/
def AllFrom (p : Nat → Oper → Prop) : Nat → List Oper → Prop
  | _, [] => True
  | k, o :: l => p k o ∧ AllFrom p (k + 1) l
theorem AllFrom.get {p : Nat → Oper → Prop} : ∀ {l : List Oper} {k : Nat}, AllFrom p k l → ∀ (i : Nat) (o : Oper), l[i]? = some o → p (k + i) o
  | [], _, _, i, o, h => by simp at h
  | x :: l, k, hh, 0, o, h => by
    obtain rfl : x = o := by simpa using h
    exact hh.1
  | x :: l, k, hh, i + 1, o, h => by
    have := AllFrom.get hh.2 i o (by simpa using h)
    rwa [show k + 1 + i = k + (i + 1) by omega] at this
/-- A region that draws its order, whose i-th operation answers into slot s0 + i. -/
theorem wp_region_vals {id : Nat} {L : List Oper} (hm : P.follows .mixedOrders = true) (s0 : Nat) (V : Nat → World → Value → Prop) (a0 : Act) (w0 : World) (hsz : s0 + L.length ≤ a0.tmps.size)
    (hmono : ∀ i w w' v, V i w v → Kept (fun _ => True) w w' → V i w' v)
    (hac : AllFrom (fun i o => ∀ e ∈ o.after, e.on < i) 0 L)
    (step : AllFrom (fun i o => o.guard = none ∧ ∀ (a : Act) (w : World), Kept (fun _ => True) w0 w → (∀ k, k < s0 ∨ s0 + L.length ≤ k → a.tmps[k]? = a0.tmps[k]?) → (∀ e ∈ o.after, Region.binds .any e = true → ∃ v, a.tmps[s0 + e.on]? = some v ∧ V e.on w v) → Oper.wp P o a w (fun a' w' => ∃ v, a' = a.put (some (s0 + i)) v ∧ Kept (fun _ => True) w w' ∧ V i w' v) Q) 0 L)
    (fin : ∀ (T : Array Value) (w : World), Kept (fun _ => True) w0 w → T.size = a0.tmps.size → (∀ k, k < s0 ∨ s0 + L.length ≤ k → T[k]? = a0.tmps[k]?) → (∀ i, i < L.length → ∃ v, T[s0 + i]? = some v ∧ V i w v) → Q .normal ⟨T, a0.defers⟩ w) : (Code.region id L.toArray true).wp P Q a0 w0 := by
  have hac' : ∀ (i : Nat) (o : Oper), L.toArray[i]? = some o → ∀ e ∈ o.after, e.on < i := fun i o h => by
    have := AllFrom.get hac i o (by simpa using h)
    rwa [Nat.zero_add] at this
  have out : ∀ k, (∀ j, j < L.toArray.size → s0 + j ≠ k) → k < s0 ∨ s0 + L.length ≤ k := fun k h => by
    rcases Nat.lt_or_ge k s0 with q | q
    · exact .inl q
    · refine .inr (Classical.byContradiction fun hn => h (k - s0) ?_ ?_)
      · simp only [List.size_toArray]; omega
      · omega
  have inn : ∀ k, k < s0 ∨ s0 + L.length ≤ k → ∀ j, j < L.toArray.size → s0 + j ≠ k := fun k h j hj => by
    simp only [List.size_toArray] at hj
    omega
  refine wp_region_any hm (wpAny_vals (fun i => s0 + i) V a0 w0 (fun i j _ _ h => by simpa using h) (fun i hi => by simp only [List.size_toArray] at hi; omega) hmono (fun i o ho a w hk hs hd => ?_) (fun i o ho e he => ?_) (fun a w hk hdf hz hs hv => ?_) (fun done hs hr => all_done hac' done hs hr) L.toArray.size _ a0 _ (by simp) ?_ ⟨(Kept.refl _ _).drew, rfl, rfl, fun _ _ => rfl, fun i hi h => ?_⟩)
  · have h1 := AllFrom.get step i o (by simpa using ho)
    rw [Nat.zero_add] at h1
    exact wpOp_of ho h1.1 (h1.2 a w hk (fun k h => hs k (inn k h)) hd)
  · have h1 := hac' i o ho e he
    have h2 : i < L.toArray.size := by
      rcases Nat.lt_or_ge i L.toArray.size with q | q
      · exact q
      · rw [Array.getElem?_eq_none q] at ho; cases ho
    omega
  · obtain ⟨T, D⟩ := a
    obtain rfl : D = a0.defers := hdf
    exact fin T w hk hz (fun k h => hs k (inn k h)) (fun i hi => hv i (by simpa using hi))
  · exact Nat.le_trans List.count_le_length (by simp)
  · simp [Array.getD] at h
/-- Whether each waits for earlier ones alone. -/
def acB : Nat → List Oper → Bool
  | _, [] => true
  | k, o :: l => (o.after.all fun e => decide (e.on < k)) && acB (k + 1) l
theorem acB_spec : ∀ {l : List Oper} {k : Nat}, acB k l = true → AllFrom (fun i o => ∀ e ∈ o.after, e.on < i) k l
  | [], _, _ => trivial
  | o :: l, k, h => by
    unfold acB at h
    rw [Bool.and_eq_true] at h
    refine ⟨fun e he => ?_, acB_spec h.2⟩
    have := Array.all_eq_true_iff_forall_mem.1 h.1 e he
    simpa using this
/-- What it waits for answered so. -/
theorem dep {V : Nat → World → Value → Prop} {a : Act} {w : World} {s0 t : Nat} {o : Oper} (hd : ∀ e ∈ o.after, Region.binds .any e = true → ∃ v, a.tmps[s0 + e.on]? = some v ∧ V e.on w v) (e : Edge) (he : e ∈ o.after) (hb : Region.binds .any e = true) (ht : s0 + e.on = t) : V e.on w (a.eval (.tmp t)) := by
  obtain ⟨v, h1, h2⟩ := hd e he hb
  rw [ht] at h1
  have e1 : a.eval (.tmp t) = v := by simp [Act.eval, h1]
  rw [e1]
  exact h2
/-- The slots again: the middle alone is new. -/
theorem slots_mid {l m : List Value} {s n : Nat} (_ : l.length = m.length) (hs : ∀ k, k < s ∨ s + n ≤ k → l[k]? = m[k]?) : l = m.take s ++ ((l.drop s).take n ++ m.drop (s + n)) := by
  have h1 : l.take s = m.take s := List.ext_getElem? fun k => by
    rw [List.getElem?_take, List.getElem?_take]
    by_cases h : k < s
    · rw [if_pos h, if_pos h]; exact hs k (.inl h)
    · rw [if_neg h, if_neg h]
  have h2 : l.drop (s + n) = m.drop (s + n) := List.ext_getElem? fun k => by
    rw [List.getElem?_drop, List.getElem?_drop]
    exact hs _ (.inr (by omega))
  rw [← h1, ← h2, ← List.drop_drop, List.take_append_drop, List.take_append_drop]
theorem slots_arr {T A : Array Value} {s n : Nat} (hT : T.size = A.size) (hs : ∀ k, k < s ∨ s + n ≤ k → T[k]? = A[k]?) (hn : s + n ≤ A.size) : ∃ B : List Value, B.length = n ∧ T = (A.toList.take s ++ (B ++ A.toList.drop (s + n))).toArray := by
  obtain ⟨l⟩ := T
  obtain ⟨m⟩ := A
  have hl : l.length = m.length := by simpa using hT
  have hn' : s + n ≤ m.length := by simpa using hn
  refine ⟨(l.drop s).take n, by rw [List.length_take, List.length_drop]; omega, ?_⟩
  have := slots_mid (l := l) (m := m) (s := s) (n := n) hl (fun k h => by have := hs k h; simpa using this)
  exact congrArg List.toArray this
theorem len_cons {l : List Value} {n : Nat} (h : l.length = n + 1) : ∃ b l', l = b :: l' ∧ l'.length = n := by
  cases l with
  | nil => simp at h
  | cons b l => exact ⟨b, l, rfl, by simpa using h⟩
end
end Go.Proofs.Ytmcaoimgmgjjiaa
