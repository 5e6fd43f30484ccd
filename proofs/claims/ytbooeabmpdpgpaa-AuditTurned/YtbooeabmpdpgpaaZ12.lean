/-
  What Encode wrote is read back (plainly); appends of links.
-/
import Derived.Test.YtbooeabmpdpgpaaZFew
import Derived.Deep.RegionLaw
namespace Go.Proofs.Ytbooeabmpdpgpaa
open Go.RowKit

theorem rdOne_back (pre post : List UInt8) (x : Li) (hx : x.t.length ≤ 4000) : rdOne (pre ++ encI x ++ post) ⟨pre.length, 0⟩ = (x, ⟨(pre ++ encI x).length, 0⟩) := by
  have q : pre ++ encI x ++ post = pre ++ enc (x.t.length : Nat) 4 ++ x.t ++ (x.h ++ post) := by unfold encI; simp only [List.append_assoc]
  have ht := text_back pre (x.h ++ post) x.t 4000 (by omega) (by omega)
  rw [← q] at ht
  have l : (pre ++ encI x).length = pre.length + 4 + x.t.length + 32 := by rw [List.length_append, encI_len]; omega
  have hr : (⟨pre.length + 4 + x.t.length, 0⟩ : RS).raw (pre ++ encI x ++ post) 32 = (x.h, ⟨pre.length + 4 + x.t.length + 32, 0⟩) := by
    unfold RS.raw
    rw [if_pos rfl, if_pos (by rw [List.length_append, l]; simp only; omega)]
    have e : ((pre ++ encI x ++ post).drop (pre.length + 4 + x.t.length)).take 32 = x.h := by
      have q2 : pre ++ encI x ++ post = (pre ++ enc (x.t.length : Nat) 4 ++ x.t) ++ (x.h ++ post) := by rw [q]
      have l2 : (pre ++ enc (x.t.length : Nat) 4 ++ x.t).length = pre.length + 4 + x.t.length := by simp only [List.length_append, enc_length]
      rw [q2, ← l2, List.drop_left, ← x.len, List.take_left]
    simp only [e]
  unfold rdOne
  refine Prod.ext (Li.ext' ?_ ?_) ?_
  · simp only [ht]
  · simp only [ht, hr, pad32_self x.len]
  · simp only [ht, hr, l]
theorem rdN_back : ∀ (ys xs : List Li) (pre post : List UInt8), (∀ y ∈ ys, y.t.length ≤ 4000) → rdN (pre ++ encB ys ++ post) ys.length ⟨pre.length, 0⟩ xs = (xs ++ ys, ⟨(pre ++ encB ys).length, 0⟩)
  | [], xs, pre, post, _ => by simp [rdN, encB]
  | y :: ys, xs, pre, post, h => by
    have e0 : encB (y :: ys) = encI y ++ encB ys := rfl
    have q : pre ++ encB (y :: ys) ++ post = pre ++ encI y ++ (encB ys ++ post) := by rw [e0]; simp only [List.append_assoc]
    have er := rdOne_back pre (encB ys ++ post) y (h y (by simp))
    have ih := rdN_back ys (xs ++ [y]) (pre ++ encI y) post (fun z hz => h z (by simp [hz]))
    have q2 : pre ++ encI y ++ encB ys ++ post = pre ++ encI y ++ (encB ys ++ post) := by simp only [List.append_assoc]
    rw [q2] at ih
    rw [q, List.length_cons, rdN, if_neg (by simp), er]
    simp only
    rw [ih, e0]
    simp
theorem rdAll_back (xs : List Li) (hn : xs.length ≤ 4096) (hs : ∀ x ∈ xs, x.t.length ≤ 4000) : rdAll (encL xs) = (xs, ⟨(encL xs).length, 0⟩) := by
  have hc := count_back [] (encB xs) xs.length 4096 (by omega) (by omega)
  simp only [List.nil_append, List.length_nil, Nat.zero_add] at hc
  have e : encL xs = enc (xs.length : Nat) 4 ++ encB xs := rfl
  unfold rdAll
  rw [e, hc]
  simp only
  have h := rdN_back xs [] (enc (xs.length : Nat) 4) [] hs
  simp only [List.append_nil, enc_length, List.nil_append] at h
  exact h
theorem end_back (bs : List UInt8) : (⟨bs.length, 0⟩ : RS).end_ bs = (0, 0) := by simp [RS.end_]
/-- What Decode answers of what Encode wrote. -/
theorem IsDec.back {xs ys : List Li} {y z : Int} (h : IsDec (encL xs) ys y z) (hn : xs.length ≤ 4096) (hs : ∀ x ∈ xs, x.t.length ≤ 4000) : ∃ n, IsChk xs n ∧ ((n < xs.length → ys = [] ∧ y = 12 ∧ z = ((encL (xs.take n)).length : Nat)) ∧ (n = xs.length → ys = xs ∧ y = 0 ∧ z = 0)) := by
  have e := rdAll_back xs hn hs
  have h2 := h.yes (by rw [e, end_back])
  rw [e] at h2
  exact h2
theorem few_short {ss : List (List UInt8)} {x : Li} (h : x ∈ mkC ss) (hs : ∀ s ∈ ss, s.length ≤ 100) : x.t.length ≤ 100 := by
  have : x.t ∈ txs (mkC ss) := List.mem_map.2 ⟨x, h, rfl⟩
  rw [txs_mkC] at this
  exact hs _ this

/-- An append of links that lie anywhere. -/
theorem lv_src {w : World} {ad : Addr} {ys : List Li} (h : Lv w (some ad) ys) : ∀ j u, (lrow ys)[j]? = some u → w.cell? (ad.add j) = some u := by
  intro j u hu
  have hj := (List.getElem?_eq_some_iff.1 hu).1
  rw [lrow_length] at hj
  obtain ⟨b, off, e, _, hc⟩ := h.row (by omega)
  cases e
  rw [WideShapes.add_plain]
  have hi : j / 33 < ys.length := by omega
  have hg := lrow_get ys (j / 33) hi (j % 33) (by omega)
  rw [show j / 33 * 33 + j % 33 = j by omega, hu] at hg
  have := hc (j / 33) hi (j % 33) u hg.symm
  rwa [show off + j / 33 * 33 + j % 33 = off + j by omega] at this
theorem append_links {T e : TypeId} (hT : LinkT T e) (w : World) (ty : TypeId) (base : Nat) (v : Value) (xs : List Li) (hown : Lo e w base v xs) (hb : base ≤ w.heap.size) (ao : Option Addr) (c : Nat) (ys : List Li) (hn : ao = none → c = 0) (hsrc : Lv w ao ys) (hm : xs.length + ys.length ≤ 1000) :
    ∃ ao' cap' w', (Builtin.append_ #[T, T] ty #[v, .slice ao ys.length c]).run Try.prog w = .ok (.slice ao' (xs.length + ys.length) cap') w' ∧ Lo e w' base (.slice ao' (xs.length + ys.length) cap') (xs ++ ys) ∧ w.grownBy w' v.ownBlock ∧
      ((Value.slice ao' (xs.length + ys.length) cap').ownBlock = v.ownBlock ∨ (Value.slice ao' (xs.length + ys.length) cap').ownBlock = some w.heap.size) := by
  obtain ⟨i, hi, hz0, hz1, hz2⟩ := info_parts hT.info
  cases ao with
  | none =>
    have hc := hn rfl
    subst hc
    have he : ys = [] := by
      rcases Nat.eq_zero_or_pos ys.length with h | h
      · exact List.eq_nil_of_length_eq_zero h
      · obtain ⟨_, _, e, _⟩ := hsrc.row h
        cases e
    subst he
    obtain ⟨a0, c0, rfl, _⟩ := hown.shape
    have hrun := run_append_owned_none (P := Try.prog) (w := w) base T ty e i 33 hT.slice hi (.slice a0 xs.length c0) xs.length (lrow xs) hown
    exact ⟨a0, c0, w, hrun, by simpa using hown, ⟨rfl, rfl, rfl, Nat.le_refl _, fun _ _ _ => rfl⟩, .inl rfl⟩
  | some ad =>
    obtain ⟨v', w', hr, h2, h3, _, h5⟩ := run_append_own_at (P := Try.prog) w base T ty e i (.agg (lcell zeroLi).toArray) 33 48 hT.slice hi hz0 hz1 hz2 (by simp [Value.cells, lcell_length]) (by decide) v xs.length (lrow xs) hown ad ys.length c (lrow ys) (by rw [lrow_length]) (lv_src hsrc) (lrow_one ys) (by unfold maxLen; omega) (by omega) hb
    obtain ⟨ao', cap', rfl⟩ := own_shape_any h2
    refine ⟨ao', cap', w', hr, ?_, h3, h5⟩
    unfold Lo
    rw [lrow_append, List.length_append]
    exact h2
theorem wpList_append_links {T e : TypeId} {w : World} {ops : Array Oper} {rest : List Oper} {o : Oper} {a : Act} {Q : Exit → Act → World → Prop} (hT : LinkT T e) (hgd : o.guard = none) (sl y : Operand) (ho : o.op = .call { callee := .builtin .append, args := #[sl, y], argTypes := #[T, T] })
    (base : Nat) (v : Value) (xs : List Li) (hs : a.eval sl = v) (hown : Lo e w base v xs) (hb : base ≤ w.heap.size) (ao : Option Addr) (n c : Nat) (ys : List Li) (hl : ys.length = n) (hy : a.eval y = .slice ao n c) (hn : ao = none → c = 0) (hsrc : Lv w ao ys) (hm : xs.length + ys.length ≤ 1000) (M : Nat) (hM : xs.length + n = M)
    (h : ∀ ao' cap' w', Lo e w' base (.slice ao' M cap') (xs ++ ys) → w.grownBy w' v.ownBlock → ((Value.slice ao' M cap').ownBlock = v.ownBlock ∨ (Value.slice ao' M cap').ownBlock = some w.heap.size) → wpList Try.prog ops Q rest (a.put o.dst (.slice ao' M cap')) w') : wpList Try.prog ops Q (o :: rest) a w := by
  subst hl hM
  refine wpList_plain hgd fun K hK => ?_
  obtain ⟨ao', cap', w', hr, h2, h3, h4⟩ := append_links hT w o.type base v xs hown hb ao c ys hn hsrc hm
  unfold Oper.wp execOp
  simp only [ho, resolve, invoke, builtin, Sem.run_bind, Sem.run_pure, Result.andThen_ok, List.map_toArray, List.map_cons, List.map_nil, hs, hy, hr]
  exact hK _ _ (h ao' cap' w' h2 h3 h4)
/-- An empty row that has just been made. -/
theorem lo_new (e : TypeId) (w : World) (base : Nat) (hb : base ≤ w.heap.size) : Lo e (w.alloc (.cells #[] e)) base (.slice (some ⟨w.heap.size, 0, none⟩) 0 0) [] :=
  ⟨by simp [lrow], .inr ⟨w.heap.size, 0, #[], rfl, hb, heap_alloc_new w _, Nat.zero_le _, by unfold maxLen; omega, by simp, by simp [lrow]⟩⟩

/-- An array of 32 bytes is written whole, in a region that draws. -/
theorem step_storeH {w : World} {ops : Array Oper} {a : Act} {K : Act → World → Prop} {Q : Exit → Act → World → Prop} {E : Prop} {ty : TypeId} {p : String} {af : Array Edge} {x y : Operand} {b : Nat} {old xs : List Value} (hx : a.eval x = .pointer (some ⟨b, 0, none⟩)) (hy : a.eval y = .agg xs.toArray) (ha : Ar w b 78 old) (ho : old.length = 32) (hl : xs.length = 32) (h1 : ∀ u ∈ xs, u.oneCell' = true)
    (h : ∀ w', Ar w' b 78 xs → Kept (· ≠ b) w w' → Hid (w'.heap.size = w.heap.size) → K a w') : if Region.wanted ⟨none, .store 78 x y, ty, p, af, none⟩ (yielded ops a.tmps) = true then Oper.wp Try.prog ⟨none, .store 78 x y, ty, p, af, none⟩ a w K Q else E := by
  have hw : Region.wanted ⟨none, .store 78 x y, ty, p, af, none⟩ (yielded ops a.tmps) = true := by simp [Region.wanted]
  rw [if_pos hw]
  refine wp_store_row 78 x y rfl b xs.toArray hx hy 78 old.toArray ha (by rw [arr32.size]; simp [hl]) (by simp [ho, hl]) (by simpa using h1) ?_
  exact h _ (setRow_heap w b _ xs.toArray 78 _ ha) ((Kept.refl _ _).setRow (by simp) _) (show _ = _ by simp [World.setRow])

theorem range_tl {w : World} {b o : Nat} {v : Value} {cs : List Value} (h : w.rangeAt b o (v :: cs)) : w.rangeAt b (o + 1) cs := fun j u hu => by
  have := h (j + 1) u hu
  rwa [show o + 1 + j = o + (j + 1) by omega]
theorem range_hd {w : World} {b o : Nat} {v : Value} {cs : List Value} (h : w.rangeAt b o (v :: cs)) : w.cell? ⟨b, o, none⟩ = some v := h 0 _ rfl

theorem Lo.some3 {e : TypeId} {w : World} {base n c : Nat} {a : Option Addr} {xs : List Li} (h : Lo e w base (.slice a n c) xs) (hn : 0 < n) : ∃ g, a = some ⟨g, 0, none⟩ ∧ base ≤ g ∧ g < w.heap.size ∧ n ≤ c := by
  obtain ⟨ao, cap, e0, hc, hg, _⟩ := h.shape
  injection e0 with e1 e2 e3
  subst e1 e2 e3
  obtain ⟨g, rfl⟩ := hg hn
  exact ⟨g, rfl, h.ge rfl, h.lt rfl, hc⟩

end Go.Proofs.Ytbooeabmpdpgpaa
