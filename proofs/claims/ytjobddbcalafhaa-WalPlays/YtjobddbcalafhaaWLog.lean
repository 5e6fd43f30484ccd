/-
  A Log in memory, with its disk; write, Append, Reset, Sync, All and Len.
-/
import Derived.Test.YtjobddbcalafhaaWScan
import Derived.Test.YtjobddbcalafhaaDMine
namespace Go.Proofs.Ytjobddbcalafhaa
open Go.RowKit

theorem scanF_le : ∀ (k : Nat) (out : List (List UInt8)) (b : List UInt8), (scanF k out b).2 ≤ b.length ∧ (scanF k out b).1.length ≤ out.length + (scanF k out b).2
  | 0, out, b => ⟨Nat.zero_le _, Nat.le_refl _⟩
  | k + 1, out, b => by
    cases h : headOf b with
    | none => rw [scanF_none h]; exact ⟨Nat.zero_le _, Nat.le_refl _⟩
    | some x =>
      obtain ⟨f, r, n⟩ := x
      have hn := headOf_some h
      obtain ⟨i1, i2⟩ := scanF_le k ((if f = true then [] else out) ++ [r]) (b.drop n)
      rw [scanF_some h]
      rw [List.length_drop] at i1
      simp only [List.length_append, List.length_singleton] at i2
      have : (if f = true then [] else out).length ≤ out.length := by split <;> simp
      exact ⟨by simp only; omega, by simp only; omega⟩
theorem scanOf_le (b : List UInt8) : (scanOf b).2 ≤ b.length := (scanF_le _ _ _).1
theorem scanOf_few (b : List UInt8) : (scanOf b).1.length ≤ (scanOf b).2 := by have := (scanF_le b.length [] b).2; simpa [scanOf] using this

/-- A Log in block L, its disk in block B. -/
structure Lg (w : World) (L B : Nat) (v tv : Value) (bs : List UInt8) (s : Nat) (ss : List (List UInt8)) : Prop where
  self : w.heap[L]? = some (.cells #[.pointer (some ⟨B, 0, none⟩), tv] 47 (0, 0))
  dk : Dk 44 w B v bs s
  txs : Txs w 0 tv ss
  most : ss.length ≤ bs.length
/-- The blocks that a Log owns. -/
def Foot (L B : Nat) (v tv : Value) (x : Nat) : Prop := x = L ∨ x = B ∨ v.ownBlock = some x ∨ tv.ownBlock = some x
theorem own_type {w : World} {b e sz n : Nat} {v : Value} {xs : List Value} (h : w.ownsRow b e sz v n xs) {k : Nat} (hk : v.ownBlock = some k) : ∃ cur fr, w.heap[k]? = some (.cells cur e fr) := by
  rcases h.2 with ⟨hv, _⟩ | ⟨g, cap, cur, hv, _, hh, _⟩
  · rw [hv] at hk; simp [Value.ownBlock] at hk
  · rw [hv] at hk; simp [Value.ownBlock] at hk
    subst hk
    exact ⟨_, _, hh⟩
/-- A row of one text that was made just now. -/
theorem Txs.one (w : World) (base : Nat) (r : List UInt8) (hb : base ≤ w.heap.size) : Txs (w.alloc (.cells #[.string ⟨r.toArray⟩] 9)) base (.slice (some ⟨w.heap.size, 0, none⟩) 1 1) [r] :=
  ⟨by simp [srow], .inr ⟨w.heap.size, 1, _, rfl, hb, heap_alloc_new w _, Nat.le_refl _, by unfold maxLen; omega, by simp, by simp [srow]⟩⟩
theorem Txs.lower {w : World} {b b' : Nat} {v : Value} {ss : List (List UInt8)} (h : Txs w b v ss) (hb : b' ≤ b) : Txs w b' v ss := by
  refine ⟨h.1, ?_⟩
  rcases h.2 with h0 | ⟨g, cap, cur, hv, hg, rest⟩
  · exact .inl h0
  · exact .inr ⟨g, cap, cur, hv, Nat.le_trans hb hg, rest⟩
variable {w w' : World} {L B : Nat} {v v' tv tv' : Value} {bs bs' : List UInt8} {s s' : Nat} {ss ss' : List (List UInt8)}
theorem Lg.lb (h : Lg w L B v tv bs s ss) : L ≠ B := by
  rintro rfl
  have := h.self.symm.trans h.dk.self
  simp at this
theorem Lg.lv (h : Lg w L B v tv bs s ss) : v.ownBlock ≠ some L := by
  intro e
  obtain ⟨cur, fr, hh⟩ := own_type h.dk.own e
  have := h.self.symm.trans hh
  simp at this
theorem Lg.lt (h : Lg w L B v tv bs s ss) : tv.ownBlock ≠ some L := by
  intro e
  obtain ⟨cur, fr, hh⟩ := own_type h.txs e
  have := h.self.symm.trans hh
  simp at this
theorem Lg.bt (h : Lg w L B v tv bs s ss) : tv.ownBlock ≠ some B := by
  intro e
  obtain ⟨cur, fr, hh⟩ := own_type h.txs e
  have := h.dk.self.symm.trans hh
  simp at this
theorem Lg.vt (h : Lg w L B v tv bs s ss) (k : Nat) (hk : v.ownBlock = some k) : tv.ownBlock ≠ some k := by
  intro e
  obtain ⟨cur, fr, hh⟩ := own_type h.txs e
  obtain ⟨cur', fr', hh'⟩ := own_type h.dk.own hk
  have := hh.symm.trans hh'
  simp at this
theorem Lg.size (h : Lg w L B v tv bs s ss) (x : Nat) (hx : Foot L B v tv x) : x < w.heap.size := by
  rcases hx with rfl | rfl | e | e
  · exact lt_of_block h.self
  · exact h.dk.lt
  · exact h.dk.rowlt x e
  · exact (World.ownsRow.lt h.txs x e).2
theorem Lg.kept {p : Nat → Prop} (h : Lg w L B v tv bs s ss) (k : Kept p w w') (hp : ∀ x, Foot L B v tv x → p x) : Lg w' L B v tv bs s ss :=
  ⟨(k.block L (lt_of_block h.self) (hp L (.inl rfl))).trans h.self, h.dk.kept k (hp B (.inr (.inl rfl))) (fun x hx => hp x (.inr (.inr (.inl hx)))), h.txs.kept k (fun x hx => hp x (.inr (.inr (.inr hx)))), h.most⟩

/-- What a call leaves that writes to the blocks F alone: those that are owned behind it were so ahead, or are new. -/
structure Moved (F F' : Nat → Prop) (w w' : World) : Prop where
  kept : Kept (fun x => ¬ F x) w w'
  new : ∀ x, F' x → F x ∨ w.heap.size ≤ x

theorem Moved.trans {F F' F'' : Nat → Prop} {a b c : World} (h : Moved F F' a b) (k : Moved F' F'' b c) : Moved F F'' a c := by
  refine ⟨h.kept.then k.kept (fun i hi hp hF => ?_), fun x hx => ?_⟩
  · rcases h.new i hF with e | e
    · exact hp e
    · omega
  · rcases k.new x hx with e | e
    · exact h.new x e
    · exact .inr (Nat.le_trans h.kept.size e)
theorem Moved.none (F : Nat → Prop) (k : Kept (fun _ => True) w w') : Moved F F w w' := ⟨k.mono (fun _ _ _ => trivial), fun _ h => .inl h⟩

/-- The disk has turned, the Log has not yet. -/
theorem Lg.disk (h : Lg w L B v tv bs s ss) (st : Step 44 w w' B v v' bs' s') (hm : ss.length ≤ bs'.length) : Lg w' L B v' tv bs' s' ss ∧ Moved (Foot L B v tv) (Foot L B v' tv) w w' := by
  refine ⟨⟨(st.kept.block L (lt_of_block h.self) ⟨h.lb, h.lv⟩).trans h.self, st.now, h.txs.kept st.kept (fun x hx => ⟨fun e => h.bt (e ▸ hx), fun e => h.vt x e hx⟩), hm⟩, st.kept.mono (fun x _ hx => ⟨fun e => hx (.inr (.inl e)), fun e => hx (.inr (.inr (.inl e)))⟩), ?_⟩
  rintro x (e | e | e | e)
  · exact .inl (.inl e)
  · exact .inl (.inr (.inl e))
  · rcases st.new x e with e | e
    · exact .inl (.inr (.inr (.inl e)))
    · exact .inr e
  · exact .inl (.inr (.inr (.inr e)))
/-- Other records are put into the Log. -/
theorem Lg.put {w2 : World} (h : Lg w L B v tv bs s ss) (k : Kept (fun x => tv.ownBlock ≠ some x) w w2) (ht : Txs w2 0 tv' ss') (hn : ∀ x, tv'.ownBlock = some x → tv.ownBlock = some x ∨ w.heap.size ≤ x) (hm : ss'.length ≤ bs.length) :
    Lg (w2.setCell ⟨L, 1, none⟩ tv') L B v tv' bs s ss' ∧ Moved (Foot L B v tv) (Foot L B v tv') w (w2.setCell ⟨L, 1, none⟩ tv') := by
  have hL := lt_of_block h.self
  have s2 : w2.heap[L]? = some (.cells #[.pointer (some ⟨B, 0, none⟩), tv] 47 (0, 0)) := (k.block L hL h.lt).trans h.self
  have d2 := h.dk.kept k h.bt (fun x hx => h.vt x hx)
  have k3 : Kept (fun x => x ≠ L) w2 (w2.setCell ⟨L, 1, none⟩ tv') := (Kept.refl _ _).setCell (by simp) _
  refine ⟨⟨(two_set s2 _).2, d2.kept k3 (fun e => h.lb e.symm) (fun x hx e => h.lv (e ▸ hx)), ht.kept k3 (fun x hx e => ?_), hm⟩, ?_, ?_⟩
  · subst e
    rcases hn x hx with e | e
    · exact h.lt e
    · omega
  · exact (k.mono (fun x _ hx e => hx (.inr (.inr (.inr e))))).trans (k3.mono (fun x _ hx e => hx (.inl e)))
  · rintro x (e | e | e | e)
    · exact .inl (.inl e)
    · exact .inl (.inr (.inl e))
    · exact .inl (.inr (.inr (.inl e)))
    · rcases hn x e with e | e
      · exact .inl (.inr (.inr (.inr e)))
      · exact .inr e

theorem frame_at {w : World} (first : Bool) (r : List UInt8) (hs : r.length ≤ 1099511627776) :
    Calls Try.prog 22 #[.bool first, .string ⟨r.toArray⟩] w fun e w' => ∃ a c, e = .returned (.slice a (9 + r.length) c) ∧ Body w w' a (9 + r.length) c (frameOf first r) := by
  refine (frame_any first ⟨r.toArray⟩ (by simpa [ByteArray.size] using hs)).mono ?_
  rintro e w' ⟨v, rfl, ho, hk⟩
  rw [show (⟨r.toArray⟩ : ByteArray).data.toList = r from rfl, frameOf_length] at ho
  obtain ⟨a, c, rfl⟩ := own_shape ho
  exact ⟨a, c, rfl, ho, frameOf_length _ _, hk⟩
theorem append_at {w : World} {B : Nat} {v : Value} {bs : List UInt8} {s : Nat} {ao : Option Addr} {n cap : Nat} {xs : List UInt8} (h : Dk 44 w B v bs s) (hh : Has w ao xs) (hn : ao = none → cap = 0) (hx : xs.length = n) (hl : bs.length + n ≤ 4194304) :
    Calls Try.prog 24 #[.pointer (some ⟨B, 0, none⟩), .slice ao n cap] w fun e w' => e = .returned (.int .i64 0) ∧ ∃ v', Step 44 w w' B v v' (bs ++ xs) s := by
  subst hx
  exact append_any h hh hn hl

set_option maxRecDepth 100000 in
set_option maxHeartbeats 1000000 in
theorem write_any (h : Lg w L B v tv bs s ss) (first : Bool) (r : List UInt8) (hr : r.length ≤ 4000) (hl : bs.length + (9 + r.length) ≤ 4194304) :
    Calls Try.prog 19 #[.pointer (some ⟨L, 0, none⟩), .bool first, .string ⟨r.toArray⟩] w fun e w' => e = .returned (.int .i64 0) ∧ ∃ v', Step 44 w w' B v v' (bs ++ frameOf first r) s := by
  have hr' : ¬ (4000 : Int) < (r.length : Int) := by omega
  obtain ⟨c0, c1, f0, f1⟩ := two_cell h.self
  have hL := lt_of_block h.self
  have HD : Hid (Dk 44 w B v bs s) := h.dk
  clear h
  go_enter Try.func19, Try.ntmps19
  go_wp2
  go_region_with (first
    | (go_at_call 22; refine Calls.mono (frame_at first r (by omega)) ?_; rintro e w1 ⟨a1, n1, rfl, hB1⟩; have hk1 : Kept (fun _ => True) w w1 := ⟨hB1.kept.os, hB1.kept.tape, hB1.kept.output, hB1.kept.size, hB1.kept.block⟩; have hc1 : w1.cell? ⟨L, 0, none⟩ = some (.pointer (some ⟨B, 0, none⟩)) := (kept_cell hk1 hL trivial).trans c0)
    | (go_at_call 24; refine Calls.mono (append_at (HD.out.kept hk1 trivial (fun _ _ => trivial)) hB1.has hB1.nil hB1.len (by omega)) ?_; rintro e w2 ⟨rfl, v2, hs2⟩))
  all_goals
    go_wp2
    go_ret
    exact ⟨rfl, v2, hs2.after hk1⟩

set_option maxHeartbeats 400000 in
theorem write_long (first : Bool) (r : List UInt8) (hr : 4000 < r.length) :
    Calls Try.prog 19 #[.pointer (some ⟨L, 0, none⟩), .bool first, .string ⟨r.toArray⟩] w fun e w' => e = .returned (.int .i64 3) ∧ w' = w := by
  have hr' : (4000 : Int) < (r.length : Int) := by omega
  go_enter Try.func19, Try.ntmps19
  go_wp2
  go_ret
  exact ⟨rfl, rfl⟩

set_option maxRecDepth 100000 in
set_option maxHeartbeats 1000000 in
theorem lappend_any (h : Lg w L B v tv bs s ss) (r : List UInt8) (hr : r.length ≤ 4000) (hl : bs.length + (9 + r.length) ≤ 4194304) :
    Calls Try.prog 7 #[.pointer (some ⟨L, 0, none⟩), .string ⟨r.toArray⟩] w fun e w' => e = .returned (.int .i64 0) ∧ ∃ v' tv', Lg w' L B v' tv' (bs ++ frameOf false r) s (ss ++ [r]) ∧ Moved (Foot L B v tv) (Foot L B v' tv') w w' := by
  have c := write_any h false r hr hl
  have HL : Hid (Lg w L B v tv bs s ss) := h
  clear h
  go_enter Try.func7, Try.ntmps7
  go_wp2_with fail
  refine Calls.mono c ?_
  rintro e w1 ⟨rfl, v1, hs1⟩
  have hfl := frameOf_length false r
  obtain ⟨h1, m1⟩ := HL.out.disk hs1 (by have := HL.out.most; simp; omega)
  obtain ⟨ta, tc, rfl, htc, -⟩ := h1.txs.shape
  obtain ⟨c0, c1, f0, f1⟩ := two_cell h1.self
  have hL := lt_of_block h1.self
  have hLt := h1.lt
  have hss := h1.most
  have hmo := h1.dk.most
  have H1 : Hid (Lg w1 L B v1 (.slice ta ss.length tc) (bs ++ frameOf false r) s ss) := h1
  have M1 : Hid (Moved _ _ w w1) := m1
  clear h1 m1 hs1
  go_wp2_with (at_builtin; refine wpList_append_text rfl (.tmp 16) (.tmp 18) rfl 0 (.slice ta ss.length tc) ss rfl (H1.out.txs.fresh _) (Nat.zero_le _) w1.heap.size rfl r _ (heap_alloc_new w1 _) (by omega) ?_; intro a2 c2 w2 ht2 hg2 hl2; have hc2 : w2.cell? ⟨L, 1, none⟩ = some (.slice ta ss.length tc) := (hg2.cell_far _ (by simp; omega) (Ne.symm hLt)).trans (by rw [← c1]; exact World.cell?_of_block (w := w1) (Below.heap_alloc _ _ _ hL)); have hf2 : w2.frozen? ⟨L, 1, none⟩ = false := (hg2.frozen_far _ (by simp; omega) (Ne.symm hLt)).trans (by rw [← f1]; exact World.frozen?_of_block (w := w1) (Below.heap_alloc _ _ _ hL)))
  go_ret
  have k2 : Kept (fun x => (Value.slice ta ss.length tc).ownBlock ≠ some x) w1 w2 := ((Kept.refl _ _).alloc _).grown hg2 (fun k _ e hp => hp e)
  obtain ⟨h3, m3⟩ := H1.out.put k2 ht2 (fun x hx => by
    rcases hl2 with e | e
    · exact .inl (e.symm.trans hx)
    · rw [e] at hx; cases hx; exact .inr (by simp)) (by have := HL.out.most; simp; omega)
  exact ⟨rfl, _, _, h3, M1.out.trans m3⟩

set_option maxRecDepth 100000 in
set_option maxHeartbeats 1000000 in
theorem lreset_any (h : Lg w L B v tv bs s ss) (r : List UInt8) (hr : r.length ≤ 4000) (hl : bs.length + (9 + r.length) ≤ 4194304) :
    Calls Try.prog 9 #[.pointer (some ⟨L, 0, none⟩), .string ⟨r.toArray⟩] w fun e w' => e = .returned (.int .i64 0) ∧ ∃ v' tv', Lg w' L B v' tv' (bs ++ frameOf true r) s [r] ∧ Moved (Foot L B v tv) (Foot L B v' tv') w w' := by
  have c := write_any h true r hr hl
  have HL : Hid (Lg w L B v tv bs s ss) := h
  clear h
  go_enter Try.func9, Try.ntmps9
  go_wp2_with fail
  refine Calls.mono c ?_
  rintro e w1 ⟨rfl, v1, hs1⟩
  have hfl := frameOf_length true r
  obtain ⟨h1, m1⟩ := HL.out.disk hs1 (by have := HL.out.most; simp; omega)
  obtain ⟨c0, c1, f0, f1⟩ := two_cell h1.self
  have hL := lt_of_block h1.self
  have H1 : Hid (Lg w1 L B v1 tv (bs ++ frameOf true r) s ss) := h1
  have M1 : Hid (Moved _ _ w w1) := m1
  clear h1 m1 hs1
  go_wp2
  go_ret
  have k2 : Kept (fun x => tv.ownBlock ≠ some x) w1 (w1.alloc (.cells #[.string ⟨r.toArray⟩] 9)) := (Kept.refl _ _).alloc _
  obtain ⟨h3, m3⟩ := H1.out.put (tv' := .slice (some ⟨w1.heap.size, 0, none⟩) 1 1) (ss' := [r]) k2 (Txs.one w1 0 r (Nat.zero_le _)) (fun x hx => by cases hx; exact .inr (Nat.le_refl _)) (by simp; omega)
  rw [World.setCell_alloc_past _ _ _ _ hL] at h3 m3
  exact ⟨rfl, _, _, h3, M1.out.trans m3⟩

set_option maxHeartbeats 400000 in
theorem lsync_any (h : Lg w L B v tv bs s ss) :
    Calls Try.prog 10 #[.pointer (some ⟨L, 0, none⟩)] w fun e w' => e = .returned (.tuple #[]) ∧ Lg w' L B v tv bs bs.length ss ∧ Moved (Foot L B v tv) (Foot L B v tv) w w' := by
  obtain ⟨c0, c1, f0, f1⟩ := two_cell h.self
  have HL : Hid (Lg w L B v tv bs s ss) := h
  clear h
  go_enter Try.func10, Try.ntmps10
  go_wp2_with fail
  refine Calls.mono (sync_any HL.out.dk) ?_
  rintro e w1 ⟨rfl, hs1⟩
  obtain ⟨h1, m1⟩ := HL.out.disk hs1 HL.out.most
  go_wp2
  go_end0
  exact ⟨rfl, h1, m1⟩

set_option maxHeartbeats 400000 in
theorem llen_any (h : Lg w L B v tv bs s ss) :
    Calls Try.prog 15 #[.pointer (some ⟨L, 0, none⟩)] w fun e w' => e = .returned (.int .i64 (ss.length : Nat)) ∧ w' = w := by
  obtain ⟨ta, tc, rfl, htc, -⟩ := h.txs.shape
  obtain ⟨c0, c1, f0, f1⟩ := two_cell h.self
  clear h
  go_enter Try.func15, Try.ntmps15
  go_wp2
  go_ret
  exact ⟨rfl, rfl⟩

/-- copy over a whole row of texts that was made. -/
theorem copy_texts (W : World) (g : Nat) (cur : Array Value) (ts : List (List UInt8)) (ao : Option Addr) (cap : Nat) (hg : W.heap[g]? = some (.cells cur 9 (0, 0))) (hc : cur.size = ts.length) (hs : Txs W 0 (.slice ao ts.length cap) ts) :
    ∃ W', (Builtin.copy_ #[31, 31] 3 #[.slice (some ⟨g, 0, none⟩) ts.length ts.length, .slice ao ts.length cap]).run Try.prog W = .ok (.int .i64 ts.length) W' ∧
      W'.heap[g]? = some (.cells (srow ts).toArray 9 (0, 0)) ∧ Kept (· ≠ g) W W' ∧ W'.heap.size = W.heap.size := by
  have hi : (Try.prog.info? 9).map (·.size) = some 1 := by
    obtain ⟨i, hi, hz0, hz1, hz2⟩ := info_parts Try.infoText
    rw [hi]; simp [hz1]
  by_cases h0 : 0 < ts.length
  · obtain ⟨ao', cap', e, _, hG⟩ := hs.shape
    obtain ⟨G, hG⟩ := hG h0
    injection e with e1 e2 e3
    subst e1 hG
    have hcell : ∀ j v, (srow ts)[j]? = some v → W.cell? ((⟨G, 0, none⟩ : Addr).add j) = some v := by
      intro j v hv
      have hj : j < ts.length := by
        have := (List.getElem?_eq_some_iff.1 hv).1
        simpa [srow] using this
      rw [srow_get ts j hj] at hv
      have e : (⟨G, 0, none⟩ : Addr).add j = ⟨G, j, none⟩ := by simp [Addr.add]; omega
      rw [e, hs.cell j hj]
      exact hv
    have hrun := run_copy_row (P := Try.prog) W 31 31 3 9 g 0 ts.length ts.length ⟨G, 0, none⟩ ts.length cap cur 9 (srow ts) Try.underlying31 hi hg (by simp [srow_length]) hcell (by rw [srow_length]; omega) (srow_one ts)
    refine ⟨_, ?_, setRow_heap W g _ (srow ts).toArray 9 _ hg, (Kept.refl _ _).setRow (by simp) _, by simp [World.setRow]⟩
    rw [hrun]
    have e : (List.take 0 cur.toList ++ srow ts ++ List.drop (0 + (srow ts).length) cur.toList) = srow ts := by
      rw [srow_length, Nat.zero_add, List.drop_eq_nil_of_le (by simp [hc])]
      simp
    rw [e, srow_length]
    rfl
  · have hn : ts = [] := List.eq_nil_of_length_eq_zero (by omega)
    subst hn
    refine ⟨W, run_copy_none (P := Try.prog) W 31 31 3 9 _ _ _ _ _ _ Try.underlying31 hi (by simp), ?_, Kept.refl _ _, rfl⟩
    have : cur = #[] := Array.eq_empty_of_size_eq_zero (by simpa using hc)
    rw [hg, this]; rfl
theorem made_texts {w1 : World} {base g n : Nat} {xs : List Value} (h : w1.ownsRow base 9 1 (.slice (some ⟨g, 0, none⟩) n n) n xs) : ∃ cur : Array Value, w1.heap[g]? = some (.cells cur 9 (0, 0)) ∧ cur.size = n := by
  rcases h.2 with ⟨hv, _⟩ | ⟨g', cap, cur, hv, _, hh, _, _, hs, _⟩
  · simp at hv
  · simp at hv
    obtain ⟨rfl, rfl⟩ := hv
    exact ⟨cur, hh, by simpa using hs⟩
theorem Txs.block {w : World} {base D : Nat} {ts : List (List UInt8)} (h : w.heap[D]? = some (.cells (srow ts).toArray 9 (0, 0))) (hb : base ≤ D) (hl : ts.length ≤ 140737488355328) : Txs w base (.slice (some ⟨D, 0, none⟩) ts.length ts.length) ts :=
  ⟨by simp [srow_length], .inr ⟨D, ts.length, (srow ts).toArray, rfl, hb, h, Nat.le_refl _, by unfold maxLen; omega, by simp [srow_length], by rw [List.take_of_length_le (by simp [srow_length])]⟩⟩

set_option maxHeartbeats 400000 in
theorem lall_any (h : Lg w L B v tv bs s ss) :
    Calls Try.prog 6 #[.pointer (some ⟨L, 0, none⟩)] w fun e w' => e = .returned (.slice (some ⟨w.heap.size, 0, none⟩) ss.length ss.length) ∧ Txs w' w.heap.size (.slice (some ⟨w.heap.size, 0, none⟩) ss.length ss.length) ss ∧ Kept (fun _ => True) w w' := by
  obtain ⟨i, hi, hz0, hz1, hz2⟩ := info_parts Try.infoText
  have hm := h.dk.most
  have hm2 := h.most
  have hb' : i.bytes * ss.length ≤ 281474976710656 := by rw [hz2]; omega
  have hb2 : ss.length ≤ maxLen := by unfold maxLen; omega
  obtain ⟨ao, cap, rfl, hcap, -⟩ := h.txs.shape
  obtain ⟨-, hc0, -, -⟩ := two_cell h.self
  have hlt := lt_of_block h.self
  have HT : Hid (Txs w 0 (.slice ao ss.length cap) ss) := h.txs
  clear h
  go_enter Try.func6, Try.ntmps6
  go_wp2_with (at_make; refine wpList_make_full _ rfl _ _ _ rfl w.heap.size 9 i (.string ⟨#[]⟩) 1 Try.underlying31 hi hz0 hz1 _ _ _ _ ss.length rfl rfl rfl rfl hb' hb2 (Nat.le_refl _) ?_; intro w1 hown hg; obtain ⟨cur, hrow, hcs⟩ := made_texts hown; have hc1 : w1.cell? ⟨L, 1, none⟩ = some (.slice ao ss.length cap) := (hg.cell_far _ hlt (by simp)).trans hc0)
  have hk1 : Kept (fun _ => True) w w1 := (Kept.refl _ _).grown hg (fun k _ h => by cases h)
  obtain ⟨w3, hrun, hrow3, hk3, hs3⟩ := copy_texts w1 w.heap.size cur ss ao cap hrow hcs (HT.out.kept hk1 (fun _ _ => trivial))
  rw [hrun]
  go_wp2
  go_ret
  exact ⟨rfl, Txs.block hrow3 (Nat.le_refl _) (by omega), hk1.then hk3 (fun i hi _ => by omega)⟩

set_option maxHeartbeats 400000 in
theorem open_nil :
    Calls Try.prog 5 #[.pointer none] w fun e w' => e = .returned (.tuple #[.pointer none, .int .i64 1]) ∧ w' = w := by
  go_enter Try.func5, Try.ntmps5
  go_wp2
  go_ret2
  exact ⟨rfl, rfl⟩

set_option maxRecDepth 100000 in
set_option maxHeartbeats 1000000 in
theorem open_any (h : Dk 44 w B v bs s) :
    Calls Try.prog 5 #[.pointer (some ⟨B, 0, none⟩)] w fun e w' => ∃ L v' tv, e = .returned (.tuple #[.pointer (some ⟨L, 0, none⟩), .int .i64 0]) ∧ Lg w' L B v' tv (bs.take (scanOf bs).2) (min s (scanOf bs).2) (scanOf bs).1 ∧
      Kept (fun x => x ≠ B ∧ v.ownBlock ≠ some x) w w' ∧ (∀ x, Foot L B v' tv x → x = B ∨ v.ownBlock = some x ∨ w.heap.size ≤ x) := by
  have hm := h.most
  have hsl := scanOf_le bs
  have hsf := scanOf_few bs
  have HD : Hid (Dk 44 w B v bs s) := h
  have HB := h.lt
  clear h
  go_enter Try.func5, Try.ntmps5
  go_wp2_with fail
  refine Calls.mono (bytes_any HD.out) ?_
  rintro e w1 ⟨rfl, hr1, k1⟩
  have vw : View w1 (some ⟨w.heap.size, 0, none⟩) bs.length bs.length bs := ⟨has_row hr1, rfl, Nat.le_refl _, by simp⟩
  go_wp2_with fail
  refine Calls.mono (scan_any vw (by omega)) ?_
  rintro e w2 ⟨tv, rfl, ht2, k2⟩
  obtain ⟨ta, tc, rfl, htc, -⟩ := ht2.shape
  have d2 := HD.out.kept (k1.trans k2) trivial (fun _ _ => trivial)
  have HT : Hid (Txs w2 w1.heap.size (.slice ta (scanOf bs).1.length tc) (scanOf bs).1) := ht2
  have K2 : Hid (Kept (fun _ => True) w w2) := k1.trans k2
  have hw1 : Hid (w.heap.size ≤ w1.heap.size) := k1.size
  have D2 : Hid (Dk 44 w2 B v bs s) := d2
  clear ht2 k1 k2 d2 vw hr1
  generalize hS : scanOf bs = S at *
  go_wp2_with fail
  refine Calls.mono (cut_any D2.out S.2 hsl) ?_
  rintro e w3 ⟨rfl, v3, hs3⟩
  go_wp2
  go_ret2
  subst hS
  have hT3 := HT.out.kept hs3.kept (fun x hx => ⟨fun e => by have := (World.ownsRow.lt HT.out x hx).1; have := hw1.out; omega, fun e => by have := (World.ownsRow.lt HT.out x hx).1; have := hw1.out; have := HD.out.rowlt x e; omega⟩)
  have ka : Kept (fun _ => True) w3 (w3.alloc (.cells #[.pointer (some ⟨B, 0, none⟩), .slice ta (scanOf bs).1.length tc] 47)) := (Kept.refl _ _).alloc _
  refine ⟨w3.heap.size, v3, _, rfl, ⟨heap_alloc_new w3 _, hs3.now.kept ka trivial (fun _ _ => trivial), (hT3.kept ka (fun _ _ => trivial)).lower (Nat.zero_le _), by rw [List.length_take]; omega⟩, ((K2.out.mono (fun _ _ _ => trivial)).trans hs3.kept).trans (ka.mono (fun _ _ _ => trivial)), ?_⟩
  rintro x (e | e | e | e)
  · exact .inr (.inr (by have := K2.out.size; have := hs3.kept.size; omega))
  · exact .inl e
  · rcases hs3.new x e with e | e
    · exact .inr (.inl e)
    · exact .inr (.inr (Nat.le_trans K2.out.size e))
  · exact .inr (.inr (Nat.le_trans hw1.out (World.ownsRow.lt HT.out x e).1))

end Go.Proofs.Ytjobddbcalafhaa
