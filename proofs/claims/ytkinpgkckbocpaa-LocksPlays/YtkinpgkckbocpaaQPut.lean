/-
  The document's Put.
-/
import Derived.Test.YtkinpgkckbocpaaQNs
import Derived.Test.YtkinpgkckbocpaaQRise
import Derived.Laws.Cover1
import Derived.Sort.Walk0
namespace Go.Proofs.Ytkinpgkckbocpaa
open Go.RowKit

/-- A text among others in order, once; dn: whether it is there already. -/
def ins (s : List UInt8) : Bool → List (List UInt8) → List (List UInt8)
  | dn, [] => if dn = true then [] else [s]
  | dn, y :: r => (if dn = false ∧ s ≤ y then [s] else []) ++ (if y = s then [] else [y]) ++ ins s (dn || decide (s ≤ y)) r
theorem ins_true (s : List UInt8) (l : List (List UInt8)) : ins s true l = l.filter (fun y => decide (y ≠ s)) := by
  induction l with
  | nil => rfl
  | cons y r ih =>
    simp only [ins, Bool.true_or, ih]
    by_cases h : y = s <;> simp [h]
theorem ins_false (s : List UInt8) (l : List (List UInt8)) (h : Rises l) : Rises (ins s false l) ∧ ∀ x, x ∈ ins s false l ↔ x ∈ l ∨ x = s := by
  induction l with
  | nil => exact ⟨by simp [ins, Rises], by simp [ins]⟩
  | cons y r ih =>
    have h' := h
    unfold Rises at h'
    rw [List.pairwise_cons] at h'
    obtain ⟨hy, hr⟩ := h'
    obtain ⟨i1, i2⟩ := ih hr
    by_cases hs : s ≤ y
    · have e : ins s false (y :: r) = s :: (y :: r).filter (fun z => decide (z ≠ s)) := by
        simp only [ins, hs, decide_true, Bool.or_true, ins_true]
        by_cases he : y = s <;> simp [he]
      rw [e]
      refine ⟨?_, fun x => ?_⟩
      · unfold Rises
        rw [List.pairwise_cons]
        refine ⟨fun z hz => ?_, List.Pairwise.filter _ h⟩
        rw [List.mem_filter] at hz
        have hne : z ≠ s := by simpa using hz.2
        refine ⟨?_, Ne.symm hne⟩
        rcases List.mem_cons.1 hz.1 with rfl | hz1
        · exact hs
        · exact List.le_trans hs (hy z hz1).1
      · rw [List.mem_cons, List.mem_filter]
        constructor
        · rintro (rfl | ⟨h1, _⟩)
          · exact .inr rfl
          · exact .inl h1
        · rintro (h1 | rfl)
          · by_cases hx : x = s
            · exact .inl hx
            · exact .inr ⟨h1, by simpa using hx⟩
          · exact .inl rfl
    · have hne : y ≠ s := by rintro rfl; exact hs (List.le_refl y)
      have e : ins s false (y :: r) = y :: ins s false r := by
        simp [ins, hs, hne]
      rw [e]
      refine ⟨?_, fun x => ?_⟩
      · unfold Rises
        rw [List.pairwise_cons]
        refine ⟨fun z hz => ?_, i1⟩
        rcases (i2 z).1 hz with hz | rfl
        · exact hy z hz
        · refine ⟨?_, hne⟩
          rcases List.le_total y z with h1 | h1
          · exact h1
          · exact absurd h1 hs
      · rw [List.mem_cons, i2 x, List.mem_cons]
        constructor
        · rintro (h1 | h1 | h1)
          · exact .inl (.inl h1)
          · exact .inl (.inr h1)
          · exact .inr h1
        · rintro ((h1 | h1) | h1)
          · exact .inl h1
          · exact .inr (.inl h1)
          · exact .inr (.inr h1)
theorem nodup_len {l m : List (List UInt8)} (h : l.Nodup) (hs : ∀ x ∈ l, x ∈ m) : l.length ≤ m.length := by
  induction l generalizing m with
  | nil => simp
  | cons a l ih =>
    rw [List.nodup_cons] at h
    have ha := hs a (List.mem_cons_self ..)
    have := ih (m := m.erase a) h.2 fun x hx => (List.mem_erase_of_ne (fun (e : x = a) => h.1 (e ▸ hx))).2 (hs x (List.mem_cons_of_mem _ hx))
    rw [List.length_erase_of_mem ha] at this
    have := List.length_pos_of_mem ha
    rw [List.length_cons]
    omega
/-- y >= x -/
theorem text_geq (y x : List UInt8) (W : World) : (binOp .geq 9 (.string ⟨y.toArray⟩) (.string ⟨x.toArray⟩)).run Try.prog W = .ok (.bool (decide (x ≤ y))) W := by
  rw [binOp_string_geq]
  have e : ∀ z : List UInt8, (⟨z.toArray⟩ : ByteArray).toList = z := fun z => by simp
  rw [e, e, bytesLess_eq]
  have e2 : (!decide (y < x)) = decide (x ≤ y) := by
    rw [← decide_not]
    exact decide_eq_decide.2 Iff.rfl
  rw [e2]
  rfl
theorem Txs.fresh {w : World} {base : Nat} {v : Value} {ss : List (List UInt8)} (h : Txs w base v ss) (o : Obj) : Txs (w.alloc o) base v ss := h.kept (p := fun _ => True) ((Kept.refl _ _).alloc o) (fun _ _ => trivial)
theorem Txs.grown {w0 w w' : World} {o : Obj} {v : Value} {ss : List (List UInt8)} (h : Txs w w0.heap.size v ss) (k : Kept (fun _ => True) w0 w) (g : (w.alloc o).grownBy w' v.ownBlock) : Kept (fun _ => True) w0 w' :=
  (k.alloc o).grown g (fun i hi e => by have := (World.ownsRow.lt h i e).1; omega)

set_option maxRecDepth 100000 in
set_option maxHeartbeats 4000000 in
theorem put_any {w : World} {v : Value} {l : List (List UInt8)} (h : Ns w v l) (hl : l.length ≤ 10000) (x : List UInt8) :
    Calls Try.prog 31 #[v, .string ⟨x.toArray⟩] w fun e w' => (∃ v', e = .returned v' ∧ Txs w' w.heap.size v' (ins x false l)) ∧ Kept (fun _ => True) w w' := by
  have HN : Hid (Ns w v l) := h
  obtain ⟨ao, cap, rfl, -, hc⟩ := h
  have HX : Hid (0 < l.length → ∃ b off, ao = some ⟨b, off, none⟩ ∧ b < w.heap.size ∧ ∀ i (h : i < l.length), w.cell? ⟨b, off + i, none⟩ = some (.string ⟨(l[i]).toArray⟩)) := hc
  clear hc
  go_enter Try.func31, Try.ntmps31
  go_wp2_with fail
  go_loopw [5, 6, 7] (fun t5 t6 t7 wr => ∃ (i : Nat) (dn : Bool) (out : List (List UInt8)), i ≤ l.length ∧ t7 = .int .i64 (i : Nat) ∧ t6 = .bool dn ∧ out ++ ins x dn (l.drop i) = ins x false l ∧ out.length ≤ 2 * i ∧ Txs wr w.heap.size t5 out ∧ Kept (fun _ => True) w wr) (fun _ _ t7 _ => l.length - (intOf t7).toNat)
  case atStart => exact ⟨0, false, [], Nat.zero_le _, rfl, rfl, rfl, Nat.le_refl _, Txs.nil _ _, Kept.refl _ _⟩
  case round =>
    obtain ⟨i, dn, out, hi, rfl, rfl, hd, hol, hT, hk⟩ := hrel
    have HD : Hid (out ++ ins x dn (l.drop i) = ins x false l) := hd
    have HK : Hid (Kept (fun _ => True) w wr) := hk
    obtain ⟨oao, ocap, rfl, -, -⟩ := hT.shape
    have HT : Hid (Txs wr w.heap.size (.slice oao out.length ocap) out) := hT
    clear hd hk hT
    by_cases hlt : i < l.length
    · obtain ⟨b, off, rfl, hb, hc⟩ := HX.out (by omega)
      have q0 := hc i hlt
      have q1 := (kept_cell HK.out hb trivial).trans q0
      have HDR : Hid (l.drop i = l[i] :: l.drop (i + 1)) := List.drop_eq_getElem_cons hlt
      have i1 : (i : Int) < (l.length : Int) := by omega
      have i0 : (0 : Int) ≤ (i : Int) := by omega
      clear hc
      generalize l[i] = y at *
      have hge : Op.bytesLess y x = !decide (x ≤ y) := by
        rw [bytesLess_eq, ← decide_not]
        exact decide_eq_decide.2 (by rw [List.not_le])
      have HDD : Hid (out ++ ((if dn = false ∧ x ≤ y then [x] else []) ++ (if y = x then [] else [y]) ++ ins x (dn || decide (x ≤ y)) (l.drop (i + 1))) = ins x false l) := by
        show _ = _
        rw [← HD.out, HDR.out]
        rfl
      clear HD HDR
      cases dn with
      | false =>
        by_cases hs : x ≤ y
        · rw [decide_eq_true hs, Bool.not_true] at hge
          by_cases he : y = x
          · have HE : Hid (out ++ [x] ++ ins x true (l.drop (i + 1)) = ins x false l) := by
              show _ = _
              rw [← HDD.out, if_pos ⟨rfl, hs⟩, if_pos he, decide_eq_true hs]
              simp
            subst he
            clear hs HDD
            go_wp2_with (at_builtin; refine wpList_append_text rfl (.tmp 24) (.tmp 26) rfl w.heap.size (.slice oao out.length ocap) out rfl (HT.out.fresh _) (Nat.le_trans HK.out.size (by simp)) wr.heap.size rfl y (0, 0) (heap_alloc_new wr _) (by omega) ?_; intro ao1 cap1 w1 t1 g1 l1; have K1 : Hid (Kept (fun _ => True) w w1) := HT.out.grown HK.out g1; have q2 := (kept_cell K1.out hb (o := off + i) trivial).trans q0; have T1 : Hid (Txs w1 w.heap.size (.slice ao1 (out.length + 1) cap1) (out ++ [y])) := t1; clear t1 g1 l1)
            go_roundw
            case rel => exact ⟨i + 1, true, out ++ [y], by omega, by go_num, rfl, HE.out, by simp; omega, by simpa using T1.out, K1.out⟩
            case measure => simp [intOf]; omega
          · have HE : Hid (out ++ [x] ++ [y] ++ ins x true (l.drop (i + 1)) = ins x false l) := by
              show _ = _
              rw [← HDD.out, if_pos ⟨rfl, hs⟩, if_neg he, decide_eq_true hs]
              simp
            have hne : (y == x) = false := beq_eq_false_iff_ne.2 he
            clear hs HDD he
            go_wp2_with (at_builtin; first
              | (refine wpList_append_text rfl (.tmp 24) (.tmp 26) rfl w.heap.size (.slice oao out.length ocap) out rfl (HT.out.fresh _) (Nat.le_trans HK.out.size (by simp)) wr.heap.size rfl x (0, 0) (heap_alloc_new wr _) (by omega) ?_; intro ao1 cap1 w1 t1 g1 l1; have K1 : Hid (Kept (fun _ => True) w w1) := HT.out.grown HK.out g1; have q2 := (kept_cell K1.out hb (o := off + i) trivial).trans q0; have T1 : Hid (Txs w1 w.heap.size (.slice ao1 (out.length + 1) cap1) (out ++ [x])) := t1; clear t1 g1 l1)
              | (refine wpList_append_text rfl (.tmp 34) (.tmp 39) rfl w.heap.size (.slice ao1 (out.length + 1) cap1) (out ++ [x]) rfl (Txs.fresh T1.out _) (Nat.le_trans K1.out.size (by simp)) w1.heap.size rfl y (0, 0) (heap_alloc_new w1 _) (by simp; omega) ?_; intro ao2 cap2 w2 t2 g2 l2))
            go_roundw
            case rel => exact ⟨i + 1, true, out ++ [x] ++ [y], by omega, by go_num, rfl, HE.out, by simp; omega, by simpa using t2, T1.out.grown K1.out g2⟩
            case measure => simp [intOf]; omega
        · rw [decide_eq_false hs, Bool.not_false] at hge
          have he : y ≠ x := by rintro rfl; exact hs (List.le_refl y)
          have HE : Hid (out ++ [y] ++ ins x false (l.drop (i + 1)) = ins x false l) := by
            show _ = _
            rw [← HDD.out, if_neg (fun h => hs h.2), if_neg he, decide_eq_false hs]
            simp
          have hne : (y == x) = false := beq_eq_false_iff_ne.2 he
          clear hs HDD he
          go_wp2_with (at_builtin; refine wpList_append_text rfl (.tmp 34) (.tmp 39) rfl w.heap.size (.slice oao out.length ocap) out rfl (HT.out.fresh _) (Nat.le_trans HK.out.size (by simp)) wr.heap.size rfl y (0, 0) (heap_alloc_new wr _) (by omega) ?_; intro ao2 cap2 w2 t2 g2 l2)
          go_roundw
          case rel => exact ⟨i + 1, false, out ++ [y], by omega, by go_num, rfl, HE.out, by simp; omega, by simpa using t2, HT.out.grown HK.out g2⟩
          case measure => simp [intOf]; omega
      | true =>
        by_cases he : y = x
        · have HE : Hid (out ++ ins x true (l.drop (i + 1)) = ins x false l) := by
            show _ = _
            rw [← HDD.out, if_neg (fun h => by cases h.1), if_pos he]
            simp
          subst he
          clear HDD hge
          go_wp2_with fail
          go_roundw
          case rel => exact ⟨i + 1, true, out, by omega, by go_num, rfl, HE.out, by omega, HT.out, HK.out⟩
          case measure => simp [intOf]; omega
        · have HE : Hid (out ++ [y] ++ ins x true (l.drop (i + 1)) = ins x false l) := by
            show _ = _
            rw [← HDD.out, if_neg (fun h => by cases h.1), if_neg he]
            simp
          have hne : (y == x) = false := beq_eq_false_iff_ne.2 he
          clear HDD he hge
          go_wp2_with (at_builtin; refine wpList_append_text rfl (.tmp 34) (.tmp 39) rfl w.heap.size (.slice oao out.length ocap) out rfl (HT.out.fresh _) (Nat.le_trans HK.out.size (by simp)) wr.heap.size rfl y (0, 0) (heap_alloc_new wr _) (by omega) ?_; intro ao2 cap2 w2 t2 g2 l2)
          go_roundw
          case rel => exact ⟨i + 1, true, out ++ [y], by omega, by go_num, rfl, HE.out, by simp; omega, by simpa using t2, HT.out.grown HK.out g2⟩
          case measure => simp [intOf]; omega
    · have i1 : ¬ (i : Int) < (l.length : Int) := by omega
      have HE : Hid (out ++ (if dn = true then [] else [x]) = ins x false l) := by
        show _ = _
        rw [← HD.out, List.drop_eq_nil_of_le (by omega)]
        rfl
      clear HD
      cases dn with
      | true =>
        go_wp2_with fail
        go_ret
        refine ⟨⟨_, rfl, ?_⟩, HK.out⟩
        have := HE.out
        simp at this
        rw [← this]
        exact HT.out
      | false =>
        go_wp2_with (at_builtin; refine wpList_append_text rfl (.tmp 43) (.tmp 45) rfl w.heap.size (.slice oao out.length ocap) out rfl (HT.out.fresh _) (Nat.le_trans HK.out.size (by simp)) wr.heap.size rfl x (0, 0) (heap_alloc_new wr _) (by omega) ?_; intro ao1 cap1 w1 t1 g1 l1)
        go_ret
        refine ⟨⟨_, rfl, ?_⟩, HT.out.grown HK.out g1⟩
        have := HE.out
        simp only [Bool.false_eq_true, if_false] at this
        rw [← this]
        exact t1

end Go.Proofs.Ytkinpgkckbocpaa
