/-
  Names and values that are looked at; slices.Index, Contains; refuse, look, Check, Name.
-/
import Derived.Test.YtnddpalngjmhnabDoorQ2
import Derived.Test.YtnddpalngjmhnabDoorSB
namespace Go.Proofs.YtnddpalngjmhnabDoor
open Go.RowKit

/-- A slice of texts that is looked at. -/
def Ns (w : World) (v : Value) (ns : List (List UInt8)) : Prop :=
  ∃ ao cap, v = .slice ao ns.length cap ∧ ns.length ≤ 281474976710656 ∧ (0 < ns.length → ∃ b off, ao = some ⟨b, off, none⟩ ∧ b < w.heap.size ∧ ∀ i (h : i < ns.length), w.cell? ⟨b, off + i, none⟩ = some (.string ⟨(ns[i]).toArray⟩))
theorem Ns.all {w w' : World} {v : Value} {ns : List (List UInt8)} (h : Ns w v ns) (k : Kept (fun _ => True) w w') : Ns w' v ns := by
  obtain ⟨ao, cap, e, hl, h⟩ := h
  refine ⟨ao, cap, e, hl, fun h0 => ?_⟩
  obtain ⟨b, off, e, hb, hc⟩ := h h0
  exact ⟨b, off, e, Nat.lt_of_lt_of_le hb k.size, fun i hi => (kept_cell k hb trivial).trans (hc i hi)⟩
/-- A slice of numbers that is looked at. -/
def Vi (w : World) (v : Value) (xs : List Int) : Prop :=
  ∃ ao cap, v = .slice ao xs.length cap ∧ (0 < xs.length → ∃ b off, ao = some ⟨b, off, none⟩ ∧ b < w.heap.size ∧ ∀ i (h : i < xs.length), w.cell? ⟨b, off + i, none⟩ = some (.int .i64 (xs[i])))
theorem Vi.all {w w' : World} {v : Value} {xs : List Int} (h : Vi w v xs) (k : Kept (fun _ => True) w w') : Vi w' v xs := by
  obtain ⟨ao, cap, e, h⟩ := h
  refine ⟨ao, cap, e, fun h0 => ?_⟩
  obtain ⟨b, off, e, hb, hc⟩ := h h0
  exact ⟨b, off, e, Nat.lt_of_lt_of_le hb k.size, fun i hi => (kept_cell k hb trivial).trans (hc i hi)⟩

theorem idx_of (ns : List (List UInt8)) (x : List UInt8) (k : Nat) (hk : k < ns.length) (he : ns[k] = x) (hn : ∀ y ∈ ns.take k, y ≠ x) : x ∈ ns ∧ ns.idxOf x = k := by
  refine ⟨he ▸ List.getElem_mem hk, ?_⟩
  induction ns generalizing k with
  | nil => simp at hk
  | cons a l ih =>
    cases k with
    | zero =>
      simp only [List.getElem_cons_zero] at he
      rw [he, List.idxOf_cons_self]
    | succ k =>
      have ha : a ≠ x := hn a (by simp)
      have := ih k (by simpa using hk) (by simpa using he) (fun y hy => hn y (by simp [hy]))
      have hb : (a == x) = false := beq_eq_false_iff_ne.2 ha
      rw [List.idxOf_cons, hb, this]
      rfl
/-- Where x is. -/
def ix (ns : List (List UInt8)) (x : List UInt8) : Int := if x ∈ ns then (ns.idxOf x : Int) else -1

set_option maxRecDepth 100000 in
set_option maxHeartbeats 1000000 in
theorem index_text {w : World} {v : Value} {ns : List (List UInt8)} (h : Ns w v ns) (x : List UInt8) :
    Calls Tryd.prog 50 #[v, .string ⟨x.toArray⟩] w fun e w' => e = .returned (.int .i64 (ix ns x)) ∧ w' = w := by
  obtain ⟨ao, cap, rfl, hl, h⟩ := h
  have H : Hid (0 < ns.length → ∃ b off, ao = some ⟨b, off, none⟩ ∧ b < w.heap.size ∧ ∀ i (h : i < ns.length), w.cell? ⟨b, off + i, none⟩ = some (.string ⟨(ns[i]).toArray⟩)) := h
  clear h
  obtain ⟨Z, hZ⟩ : ∃ Z, Z = ix ns x := ⟨_, rfl⟩
  have HZ : Hid (Z = ix ns x) := hZ
  rw [← hZ]
  clear hZ
  go_enter Tryd.func50, Tryd.ntmps50
  go_wp2_with fail
  go_loop [8] (fun t => ∃ k : Nat, k ≤ ns.length ∧ t = .int .i64 k ∧ ∀ y ∈ ns.take k, y ≠ x) (fun t => ns.length - (intOf t).toNat)
  case atStart => exact ⟨0, Nat.zero_le _, rfl, by simp⟩
  case round =>
    obtain ⟨k, hk, rfl, hn⟩ := hrel
    have HN : Hid (∀ y ∈ ns.take k, y ≠ x) := hn
    clear hn
    by_cases hlt : k < ns.length
    · obtain ⟨b, off, rfl, hb, hc⟩ := H.out (by omega)
      have q1 := hc k hlt
      have HS : Hid (ns.take (k + 1) = ns.take k ++ [ns[k]]) := List.take_succ_eq_append_getElem hlt
      have HP : Hid (ns[k] = x → ix ns x = k) := fun he => by
        obtain ⟨h1, h2⟩ := idx_of ns x k hlt he HN.out
        rw [ix, if_pos h1, h2]
      have i1 : (k : Int) < (ns.length : Int) := by omega
      have i0 : (0 : Int) ≤ (k : Int) := by omega
      clear hc hb
      generalize ns[k] = y at *
      by_cases he : y = x
      · subst he
        have e1 : Hid (Z = k) := HZ.out.trans (HP.out rfl)
        go_wp2_with fail
        go_ret
        exact ⟨by rw [e1.out]; rfl, rfl⟩
      · have hne : (x == y) = false := beq_eq_false_iff_ne.2 (Ne.symm he)
        have HE : Hid (y ≠ x) := he
        clear he
        go_wp2_with fail
        go_round
        case rel =>
          refine ⟨k + 1, by omega, by go_num, fun z hz => ?_⟩
          rw [HS.out] at hz
          rcases List.mem_append.1 hz with hz | hz
          · exact HN.out z hz
          · rw [List.mem_singleton.1 hz]; exact HE.out
        case measure => simp [intOf]; omega
    · have i1 : ¬ ((k : Int) < (ns.length : Int)) := by omega
      have e1 : ix ns x = -1 := by
        rw [ix, if_neg]
        intro hx
        refine HN.out x ?_ rfl
        rw [List.take_of_length_le (by omega)]
        exact hx
      replace e1 : Hid (Z = -1) := HZ.out.trans e1
      go_wp2_with fail
      go_ret
      exact ⟨by rw [e1.out]; rfl, rfl⟩

theorem ix_mem (ns : List (List UInt8)) (x : List UInt8) : decide (0 ≤ ix ns x) = decide (x ∈ ns) := by
  unfold ix
  split <;> simp_all

set_option maxHeartbeats 400000 in
theorem contains_text {w : World} {v : Value} {ns : List (List UInt8)} (h : Ns w v ns) (x : List UInt8) :
    Calls Tryd.prog 61 #[v, .string ⟨x.toArray⟩] w fun e w' => e = .returned (.bool (decide (x ∈ ns))) ∧ w' = w := by
  have cs := index_text h x
  have hm := ix_mem ns x
  obtain ⟨ao, cap, rfl, hl, h⟩ := h
  clear h
  rw [← hm]
  clear hm
  generalize ix ns x = z at *
  go_enter Tryd.func61, Tryd.ntmps61
  go_wp2_with fail
  refine Calls.mono cs ?_
  rintro e w1 ⟨rfl, rfl⟩
  go_wp2_with fail
  go_ret
  exact ⟨rfl, rfl⟩

set_option maxRecDepth 100000 in
set_option maxHeartbeats 1000000 in
theorem refuse_any {w : World} {v : Value} {ns : List (List UInt8)} (h : Ns w v ns) {s : List UInt8} (_ : s.length ≤ 281474976710656) (k q t : Nat) (n : Int) (hq : q ≤ t) (ht : t ≤ s.length) :
    Calls Tryd.prog 49 #[.string ⟨s.toArray⟩, v, .agg #[.int .i64 (k : Nat), .int .i64 (q : Nat), .int .i64 (t : Nat), .int .i64 n]] w fun e w' => e = .returned (.int .i64 (rfk ns k (tex s q t) : Nat)) ∧ Kept (fun _ => True) w w' := by
  have k1 : ∀ o : Obj, Kept (fun _ => True) w (w.alloc o) := fun o => (Kept.refl _ _).alloc _
  have HK : Hid (∀ o : Obj, Kept (fun _ => True) w (w.alloc o)) := k1
  have HC : Hid (∀ o : Obj, Calls Tryd.prog 61 #[v, .string ⟨(tex s q t).toArray⟩] (w.alloc o) fun e w' => e = .returned (.bool (decide (tex s q t ∈ ns))) ∧ w' = w.alloc o) := fun o => contains_text (h.all (k1 o)) _
  have hcut := cut_text s q t hq ht
  obtain ⟨ao, cap, rfl, hl, h⟩ := h
  clear h k1
  unfold rfk
  by_cases h0 : k = 0
  · subst h0
    rw [if_pos rfl]
    go_enter Tryd.func49, Tryd.ntmps49
    go_wp2_with fail
    go_ret
    exact ⟨rfl, HK.out _⟩
  · rw [if_neg h0]
    by_cases h1 : k = 1
    · subst h1
      rw [if_pos rfl]
      go_enter Tryd.func49, Tryd.ntmps49
      go_wp2_with fail
      go_ret
      exact ⟨rfl, HK.out _⟩
    · rw [if_neg h1]
      by_cases h3 : k = 3
      · subst h3
        generalize tex s q t = x at *
        by_cases hx : x ∈ ns
        · rw [if_neg (fun h => h.2 hx)]
          have hd : decide (x ∈ ns) = true := decide_eq_true hx
          rw [hd] at HC
          clear hd hx
          go_enter Tryd.func49, Tryd.ntmps49
          go_wp2_with fail
          refine Calls.mono (HC.out _) ?_
          rintro e w1 ⟨rfl, rfl⟩
          go_wp2_with fail
          go_ret
          exact ⟨rfl, HK.out _⟩
        · rw [if_pos ⟨rfl, hx⟩]
          have hd : decide (x ∈ ns) = false := decide_eq_false hx
          rw [hd] at HC
          clear hd hx
          go_enter Tryd.func49, Tryd.ntmps49
          go_wp2_with fail
          refine Calls.mono (HC.out _) ?_
          rintro e w1 ⟨rfl, rfl⟩
          go_wp2_with fail
          go_ret
          exact ⟨rfl, HK.out _⟩
      · rw [if_neg (fun h => h3 h.1)]
        have g0 : ((k : Int) == 0) = false := by simp; omega
        have g1 : ((k : Int) == 1) = false := by simp; omega
        have g3 : ((k : Int) == 3) = false := by simp; omega
        go_enter Tryd.func49, Tryd.ntmps49
        go_wp2_with fail
        go_ret
        exact ⟨rfl, HK.out _⟩

end Go.Proofs.YtnddpalngjmhnabDoor

namespace Go.Proofs.YtnddpalngjmhnabDoor
open Go.RowKit

theorem rf_small (ns : List (List UInt8)) (x : List UInt8) : rf ns x = 0 ∨ rf ns x = 12 ∨ rf ns x = 20 := by
  rcases rf_cases ns x with h | h | h
  · exact .inr (.inl h.2)
  · exact .inr (.inr h.2.2)
  · exact .inl h.2.2
/-- What look answers. -/
def LkR (ns : List (List UInt8)) (s : List UInt8) (f p c q : Nat) : Prop :=
  (lk ns s.length f (Wo s p) = .inl (c, q) ∧ c ≠ 0) ∨ (c = 0 ∧ q ≤ s.length ∧ lk ns s.length f (Wo s p) = .inr (Wo s q))
theorem Rd.bounds {s : List UInt8} {p k q t : Nat} {n : Int} (h : Rd s p k q t n) : q ≤ t ∧ t ≤ s.length ∧ k ≤ 10 := by
  rcases h with ⟨rfl, rfl, rfl, _⟩ | ⟨h, rfl, _⟩
  · exact ⟨Nat.le_refl _, Nat.le_refl _, by omega⟩
  · exact ⟨Nat.le_of_lt h.some, h.within, (kd_cases _).2⟩
theorem Rd.none {s : List UInt8} {p k q t : Nat} {n : Int} (h : Rd s p k q t n) (hk : k = 0) : q = s.length ∧ Wo s p = [] := by
  rcases h with ⟨_, h1, _, h2⟩ | ⟨_, h, _⟩
  · exact ⟨h1, h2⟩
  · have := kd_cases (tex s q t)
    omega
theorem Rd.some {s : List UInt8} {p k q t : Nat} {n : Int} (h : Rd s p k q t n) (hk : k ≠ 0) : k = kd (tex s q t) ∧ Wo s p = (q, tex s q t) :: Wo s t := by
  rcases h with ⟨h, _⟩ | ⟨h1, h2, _⟩
  · omega
  · exact ⟨h2, h1.words⟩

theorem word_cells {w : World} {b : Nat} {x y z u : Value} {t : TypeId} {fr : Nat × Nat} (h : w.heap[b]? = some (.cells #[x, y, z, u] t fr)) :
    w.cell? ⟨b, 0, none⟩ = some x ∧ w.cell? ⟨b, 1, none⟩ = some y ∧ w.cell? ⟨b, 2, none⟩ = some z ∧ w.cell? ⟨b, 3, none⟩ = some u := ⟨by simp [World.cell?, h], by simp [World.cell?, h], by simp [World.cell?, h], by simp [World.cell?, h]⟩
theorem times_succ {α β : Type} (g : List α → β ⊕ List α) (k : Nat) (ws r : List α) (h : g ws = .inr r) : times g (k + 1) ws = times g k r := by simp [times, h]
theorem times_fail {α β : Type} (g : List α → β ⊕ List α) (k : Nat) (ws : List α) (e : β) (h : g ws = .inl e) : times g (k + 1) ws = .inl e := by simp [times, h]

set_option maxRecDepth 100000 in
set_option maxHeartbeats 2000000 in
theorem look_any {v : Value} {ns : List (List UInt8)} {s : List UInt8} (hs : s.length ≤ 281474976710656) (f : Nat) : ∀ {w : World} (_ : Ns w v ns) (p deep : Nat) (_ : p ≤ s.length) (_ : deep + f = 17),
    Calls Tryd.prog 47 #[.string ⟨s.toArray⟩, v, .int .i64 (p : Nat), .int .i64 (deep : Nat)] w fun e w' => (∃ c q : Nat, e = .returned (.tuple #[.int .i64 (c : Nat), .int .i64 (q : Nat)]) ∧ LkR ns s f p c q) ∧ Kept (fun _ => True) w w' := by
  induction f with
  | zero =>
    intro w h p deep hp hf
    have HN : Hid (Ns w v ns) := h
    have HS : Hid (s.length ≤ 281474976710656) := hs
    have cr := read_any (w := w) hs p hp
    obtain ⟨ao, cap, rfl, -⟩ := h
    have hf16 : (16 : Int) < (deep : Int) := by omega
    go_enter Tryd.func47, Tryd.ntmps47
    go_wp2_with fail
    refine Calls.mono cr ?_
    rintro e w1 ⟨⟨k, q, t, n, rfl, hR⟩, k1⟩
    obtain ⟨b1, b2, b3⟩ := hR.bounds
    have HR : Hid (Rd s p k q t n) := hR
    have ka : Kept (fun _ => True) w (w1.alloc (.cells #[.int .i64 (k : Nat), .int .i64 (q : Nat), .int .i64 (t : Nat), .int .i64 n] 90)) := k1.alloc _
    have HK : Hid _ := ka
    have HB : Hid _ := heap_alloc_new w1 (.cells #[.int .i64 (k : Nat), .int .i64 (q : Nat), .int .i64 (t : Nat), .int .i64 n] 90)
    have cf := refuse_any (HN.out.all ka) hs k q t n b1 b2
    clear cr hR ka k1
    go_wp2_with fail
    refine Calls.mono cf ?_
    rintro e w2 ⟨rfl, k2⟩
    clear cf
    obtain ⟨z0, z1, z2, z3⟩ := word_cells (((k2.block w1.heap.size (by simp) trivial).trans HB.out))
    have HK2 : Hid (Kept (fun _ => True) w w2) := HK.out.trans k2
    clear k2 HK HB
    generalize w1.heap.size = G at *
    by_cases h0 : rfk ns k (tex s q t) = 0
    · have HP : Hid (LkR ns s 0 p 22 q) := by
        have hk : k ≠ 0 := by rintro rfl; simp [rfk] at h0
        obtain ⟨e1, e2⟩ := HR.out.some hk
        have hr : rf ns (tex s q t) = 0 := by rw [rf, ← e1]; exact h0
        refine .inl ⟨?_, by decide⟩
        rw [e2]
        simp [lk, hr]
      rw [h0]
      clear h0
      go_wp2_with fail
      go_quiet (fail)
      go_wp2_with fail
      go_ret2
      exact ⟨⟨22, q, rfl, HP.out⟩, HK2.out.drewN _⟩
    · have HP : Hid (LkR ns s 0 p (rfk ns k (tex s q t)) q) := by
        refine .inl ⟨?_, h0⟩
        by_cases hk : k = 0
        · obtain ⟨e1, e2⟩ := HR.out.none hk
          rw [e2, e1, hk]
          rfl
        · obtain ⟨e1, e2⟩ := HR.out.some hk
          have hr : rf ns (tex s q t) ≠ 0 := by rw [rf, ← e1]; exact h0
          rw [e2]
          simp only [lk, if_pos hr]
          rw [rf, ← e1]
      generalize rfk ns k (tex s q t) = c at *
      have hc : ((c : Int) == 0) = false := by simp; omega
      clear h0
      go_wp2_with fail
      go_quiet (fail)
      go_wp2_with fail
      go_ret2
      exact ⟨⟨c, q, rfl, HP.out⟩, HK2.out.drewN _⟩
  | succ f ih =>
    intro w h p deep hp hf
    have HI : Hid (∀ {w : World} (_ : Ns w v ns) (p deep : Nat) (_ : p ≤ s.length) (_ : deep + f = 17),
      Calls Tryd.prog 47 #[.string ⟨s.toArray⟩, v, .int .i64 (p : Nat), .int .i64 (deep : Nat)] w fun e w' => (∃ c q : Nat, e = .returned (.tuple #[.int .i64 (c : Nat), .int .i64 (q : Nat)]) ∧ LkR ns s f p c q) ∧ Kept (fun _ => True) w w') := ih
    clear ih
    have HN : Hid (Ns w v ns) := h
    have HS : Hid (s.length ≤ 281474976710656) := hs
    have cr := read_any (w := w) hs p hp
    obtain ⟨ao, cap, rfl, -⟩ := h
    have hf16 : ¬ (16 : Int) < (deep : Int) := by omega
    have hf1 : deep + 1 + f = 17 := by omega
    have HF : Hid (deep + 1 + f = 17) := hf1
    have hd : deep ≤ 16 := by omega
    clear hf hf1
    go_enter Tryd.func47, Tryd.ntmps47
    go_wp2_with fail
    refine Calls.mono cr ?_
    rintro e w1 ⟨⟨k, q, t, n, rfl, hR⟩, k1⟩
    obtain ⟨b1, b2, b3⟩ := hR.bounds
    have HR : Hid (Rd s p k q t n) := hR
    have ka : Kept (fun _ => True) w (w1.alloc (.cells #[.int .i64 (k : Nat), .int .i64 (q : Nat), .int .i64 (t : Nat), .int .i64 n] 90)) := k1.alloc _
    have HK : Hid _ := ka
    have HB : Hid _ := heap_alloc_new w1 (.cells #[.int .i64 (k : Nat), .int .i64 (q : Nat), .int .i64 (t : Nat), .int .i64 n] 90)
    have cf := refuse_any (HN.out.all ka) hs k q t n b1 b2
    clear cr hR ka k1
    go_wp2_with fail
    refine Calls.mono cf ?_
    rintro e w2 ⟨rfl, k2⟩
    clear cf
    obtain ⟨z0, z1, z2, z3⟩ := word_cells (((k2.block w1.heap.size (by simp) trivial).trans HB.out))
    have HK2 : Hid (Kept (fun _ => True) w w2) := HK.out.trans k2
    clear k2 HK HB
    generalize w1.heap.size = G at *
    by_cases h0 : rfk ns k (tex s q t) = 0
    · have HP : Hid (lk ns s.length (f + 1) (Wo s p) = times (lk ns s.length f) (ar k) (Wo s t)) := by
        have hk : k ≠ 0 := by rintro rfl; simp [rfk] at h0
        obtain ⟨e1, e2⟩ := HR.out.some hk
        have hr : rf ns (tex s q t) = 0 := by rw [rf, ← e1]; exact h0
        show _ = _
        rw [e2]
        simp [lk, hr, ← e1]
      rw [h0]
      clear h0
      have cp := fun W => parts_any (w := W) k b3
      have har : ar k ≤ 2 := by unfold ar; split <;> (try split) <;> omega
      go_wp2_with fail
      refine Calls.mono (cp _) ?_
      rintro e w3 ⟨rfl, rfl⟩
      clear cp
      generalize ar k = A at *
      go_wp2_with fail
      go_loopw [2, 12, 13, 35] (fun t2 _ _ t35 wr => ∃ i p' : Nat, i ≤ A ∧ p' ≤ s.length ∧ t2 = .int .i64 (p' : Nat) ∧ t35 = .int .i64 (i : Nat) ∧ lk ns s.length (f + 1) (Wo s p) = times (lk ns s.length f) (A - i) (Wo s p') ∧ Kept (fun _ => True) w wr) (fun _ _ _ t35 _ => A - (intOf t35).toNat)
      case atStart => exact ⟨0, t, Nat.zero_le _, b2, rfl, rfl, HP.out, HK2.out⟩
      case round =>
        obtain ⟨i, p', hi, hp', rfl, rfl, hP, hk⟩ := hrel
        have HPi : Hid (lk ns s.length (f + 1) (Wo s p) = times (lk ns s.length f) (A - i) (Wo s p')) := hP
        have HKi : Hid (Kept (fun _ => True) w wr) := hk
        clear hP hk
        by_cases hlt : i < A
        · have i1 : (i : Int) < (A : Int) := by omega
          have cl := HI.out (HN.out.all HKi.out) p' (deep + 1) hp' HF.out
          have e1 : ((deep + 1 : Nat) : Int) = (deep : Int) + 1 := by omega
          rw [e1] at cl
          go_wp2_with fail
          refine Calls.mono cl ?_
          rintro e w4 ⟨⟨c, q', rfl, hL⟩, k4⟩
          clear cl
          have HL : Hid (LkR ns s f p' c q') := hL
          have HK4 : Hid (Kept (fun _ => True) w w4) := HKi.out.trans k4
          clear hL k4
          by_cases hc : c = 0
          · subst hc
            go_wp2_with fail
            go_roundw
            case rel =>
              rcases HL.out with ⟨_, h9⟩ | ⟨_, h8, h9⟩
              · exact absurd rfl h9
              · refine ⟨i + 1, q', by omega, h8, rfl, by go_num, ?_, HK4.out⟩
                rw [HPi.out]
                have e2 : A - i = (A - (i + 1)) + 1 := by omega
                rw [e2, times_succ _ _ _ _ h9]
            case measure => simp [intOf]; omega
          · have hc' : ((c : Int) == 0) = false := by simp; omega
            have HC : Hid (c ≠ 0) := hc
            clear hc
            go_wp2_with fail
            go_ret2
            refine ⟨⟨c, q', rfl, ?_⟩, HK4.out⟩
            rcases HL.out with ⟨h8, h9⟩ | ⟨h8, _⟩
            · refine .inl ⟨?_, h9⟩
              rw [HPi.out]
              have e2 : A - i = (A - (i + 1)) + 1 := by omega
              rw [e2, times_fail _ _ _ _ h8]
            · exact absurd h8 HC.out
        · have i1 : ¬ (i : Int) < (A : Int) := by omega
          go_wp2_with fail
          go_ret2
          refine ⟨⟨0, p', rfl, .inr ⟨rfl, hp', ?_⟩⟩, HKi.out⟩
          rw [HPi.out]
          have e2 : A - i = 0 := by omega
          rw [e2]
          rfl
    · have HP : Hid (LkR ns s (f + 1) p (rfk ns k (tex s q t)) q) := by
        refine .inl ⟨?_, h0⟩
        by_cases hk : k = 0
        · obtain ⟨e1, e2⟩ := HR.out.none hk
          rw [e2, e1, hk]
          rfl
        · obtain ⟨e1, e2⟩ := HR.out.some hk
          have hr : rf ns (tex s q t) ≠ 0 := by rw [rf, ← e1]; exact h0
          rw [e2]
          simp only [lk, if_pos hr]
          rw [rf, ← e1]
      generalize rfk ns k (tex s q t) = c at *
      have hc : ((c : Int) == 0) = false := by simp; omega
      clear h0
      go_wp2_with fail
      go_quiet (fail)
      go_wp2_with fail
      go_ret2
      exact ⟨⟨c, q, rfl, HP.out⟩, HK2.out.drewN _⟩

end Go.Proofs.YtnddpalngjmhnabDoor

namespace Go.Proofs.YtnddpalngjmhnabDoor
open Go.RowKit

theorem chk_long {ns : List (List UInt8)} {s : List UInt8} (h : 120 < s.length) : chk ns s = (3, 0) := if_pos h
theorem chk_fail {ns : List (List UInt8)} {s : List UInt8} (h : ¬ 120 < s.length) {c q : Nat} (hl : lk ns s.length 17 (Wo s 0) = .inl (c, q)) : chk ns s = (c, q) := by
  rw [chk, if_neg h, chkW, hl]
theorem chk_whole {ns : List (List UInt8)} {s : List UInt8} (h : ¬ 120 < s.length) {r : List (Nat × List UInt8)} (hl : lk ns s.length 17 (Wo s 0) = .inr r) : chk ns s = tailOf ns r := by
  rw [chk, if_neg h, chkW, hl]

set_option maxRecDepth 100000 in
set_option maxHeartbeats 2000000 in
theorem check_any {w : World} {v : Value} {ns : List (List UInt8)} (h : Ns w v ns) {s : List UInt8} (hs : s.length ≤ 281474976710656) :
    Calls Tryd.prog 42 #[.string ⟨s.toArray⟩, v] w fun e w' => e = .returned (.tuple #[.int .i64 ((chk ns s).1 : Nat), .int .i64 ((chk ns s).2 : Nat)]) ∧ Kept (fun _ => True) w w' := by
  have HN : Hid (Ns w v ns) := h
  have HS : Hid (s.length ≤ 281474976710656) := hs
  have cl := look_any hs 17 h 0 0 (Nat.zero_le _) rfl
  obtain ⟨ao, cap, rfl, -⟩ := h
  obtain ⟨C, hC⟩ : ∃ C, C = chk ns s := ⟨_, rfl⟩
  have HC : Hid (C = chk ns s) := hC
  rw [← hC]
  clear hC
  by_cases hl : 120 < s.length
  · have hl' : (120 : Int) < (s.length : Int) := by omega
    have e1 := HC.out.trans (chk_long hl)
    subst e1
    clear cl
    go_enter Tryd.func42, Tryd.ntmps42
    go_wp2_with fail
    go_ret2
    exact ⟨rfl, Kept.refl _ _⟩
  · have hl' : ¬ (120 : Int) < (s.length : Int) := by omega
    go_enter Tryd.func42, Tryd.ntmps42
    go_wp2_with fail
    refine Calls.mono cl ?_
    rintro e w1 ⟨⟨c, q, rfl, hL⟩, k1⟩
    clear cl
    have HL : Hid (LkR ns s 17 0 c q) := hL
    have HK : Hid (Kept (fun _ => True) w w1) := k1
    clear hL k1
    by_cases hc : c = 0
    · subst hc
      obtain ⟨hq, hlk⟩ : q ≤ s.length ∧ lk ns s.length 17 (Wo s 0) = .inr (Wo s q) := by
        rcases HL.out with ⟨_, h9⟩ | ⟨_, h8, h9⟩
        · exact absurd rfl h9
        · exact ⟨h8, h9⟩
      have HT : Hid (C = tailOf ns (Wo s q)) := HC.out.trans (chk_whole hl hlk)
      have cr := read_any (w := w1) hs q hq
      clear hlk
      go_wp2_with fail
      refine Calls.mono cr ?_
      rintro e w2 ⟨⟨k, q2, t, n, rfl, hR⟩, k2⟩
      obtain ⟨b1, b2, b3⟩ := hR.bounds
      have HR : Hid (Rd s q k q2 t n) := hR
      have ka : Kept (fun _ => True) w (w2.alloc (.cells #[.int .i64 (k : Nat), .int .i64 (q2 : Nat), .int .i64 (t : Nat), .int .i64 n] 90)) := (HK.out.trans k2).alloc _
      have HK2 : Hid _ := ka
      have HB : Hid _ := heap_alloc_new w2 (.cells #[.int .i64 (k : Nat), .int .i64 (q2 : Nat), .int .i64 (t : Nat), .int .i64 n] 90)
      have cf := refuse_any (HN.out.all ka) hs k q2 t n b1 b2
      clear cr hR ka k2
      by_cases h0 : k = 0
      · have e1 : Hid (C = (0, 0)) := by
          show C = (0, 0)
          rw [HT.out, (HR.out.none h0).2]
          rfl
        subst h0
        clear cf
        go_wp2_with fail
        go_ret2
        exact ⟨by rw [e1.out]; rfl, HK2.out⟩
      · have h0' : ((k : Int) == 0) = false := by simp; omega
        have HT2 : Hid (C = (if rf ns (tex s q2 t) ≠ 0 then rf ns (tex s q2 t) else 11, q2) ∧ rfk ns k (tex s q2 t) = rf ns (tex s q2 t)) := by
          obtain ⟨e1, e2⟩ := HR.out.some h0
          refine ⟨?_, by rw [rf, ← e1]⟩
          rw [HT.out, e2]
          rfl
        rw [HT2.out.2] at cf
        clear h0
        generalize rf ns (tex s q2 t) = r at *
        go_wp2_with fail
        refine Calls.mono cf ?_
        rintro e w3 ⟨rfl, k3⟩
        clear cf
        obtain ⟨z0, z1, z2, z3⟩ := word_cells (((k3.block w2.heap.size (by simp) trivial).trans HB.out))
        have HK3 : Hid (Kept (fun _ => True) w w3) := HK2.out.trans k3
        clear k3 HK2 HB
        generalize w2.heap.size = G at *
        by_cases hr : r = 0
        · subst hr
          have e1 : Hid (C = (11, q2)) := HT2.out.1
          go_wp2_with fail
          go_quiet (fail)
          go_wp2_with fail
          go_ret2
          exact ⟨by rw [e1.out]; rfl, HK3.out.drewN _⟩
        · have e1 : Hid (C = (r, q2)) := by
            show C = (r, q2)
            rw [HT2.out.1, if_pos hr]
          have hr' : ((r : Int) == 0) = false := by simp; omega
          clear hr
          go_wp2_with fail
          go_quiet (fail)
          go_wp2_with fail
          go_ret2
          exact ⟨by rw [e1.out]; rfl, HK3.out.drewN _⟩
    · have hc' : ((c : Int) == 0) = false := by simp; omega
      have e1 : Hid (C = (c, q)) := by
        show C = (c, q)
        rcases HL.out with ⟨h9, _⟩ | ⟨h8, _⟩
        · exact HC.out.trans (chk_fail hl h9)
        · exact absurd h8 hc
      clear hc
      go_wp2_with fail
      go_ret2
      exact ⟨by rw [e1.out]; rfl, HK.out⟩

/-- When the first word is the whole text, and a name. -/
theorem name_read {s : List UInt8} {k q t : Nat} {n : Int} (h : Rd s 0 k q t n) : isName s = (decide (k = 3) && decide (q = 0) && decide (t = s.length)) := by
  by_cases hn : isName s = true
  · rw [hn]
    obtain ⟨h1, h2, _⟩ := isName_all hn
    have hw : ∀ c ∈ tex s 0 s.length, c ≠ 32 := by
      rw [tex_all]
      intro c hc
      exact (isL_not (List.all_eq_true.1 h1 c hc)).2.1
    have hW := Wo_word (s := s) (q := 0) (e := s.length) h2 (Nat.le_refl _) hw (fun h => absurd h (Nat.lt_irrefl _))
    rw [tex_all] at hW
    rcases h with ⟨_, _, _, h4⟩ | ⟨h3, h4, _⟩
    · rw [h4] at hW; cases hW
    · have := h3.words
      rw [hW] at this
      simp only [List.cons.injEq, Prod.mk.injEq] at this
      obtain ⟨⟨e1, e2⟩, _⟩ := this
      have e3 : t = s.length := by
        have := congrArg List.length e2
        rw [tex_length h3.within] at this
        omega
      rw [← e2, (kd_name s).2 hn] at h4
      simp [h4, ← e1, e3]
  · have hn' : isName s = false := by simpa using hn
    rw [hn']
    symm
    rw [← Bool.not_eq_true]
    intro hx
    simp only [Bool.and_eq_true, decide_eq_true_eq] at hx
    obtain ⟨⟨rfl, rfl⟩, rfl⟩ := hx
    obtain ⟨e1, _⟩ := h.some (by decide)
    rw [tex_all] at e1
    exact hn ((kd_name s).1 e1.symm)

end Go.Proofs.YtnddpalngjmhnabDoor

namespace Go.Proofs.YtnddpalngjmhnabDoor
open Go.RowKit

set_option maxHeartbeats 1000000 in
theorem join_any {w : World} (k : Nat) (h1 : 5 ≤ k) (h2 : k ≤ 10) (a b : Int) :
    Calls Tryd.prog 52 #[.int .i64 (k : Nat), .int .i64 a, .int .i64 b] w fun e w' => e = .returned (.int .i64 (jn k a b)) ∧ w' = w := by
  have ct := fun W b => truth_any (w := W) b
  have hk : k = 5 ∨ k = 6 ∨ k = 7 ∨ k = 8 ∨ k = 9 ∨ k = 10 := by omega
  rcases hk with rfl | rfl | rfl | rfl | rfl | rfl
  · have e : jn 5 a b = tr (decide (a ≠ 0 ∧ b ≠ 0)) := rfl
    rw [e]
    by_cases ha : a = 0
    · subst ha
      go_enter Tryd.func52, Tryd.ntmps52
      go_wp2_with fail
      refine Calls.mono (ct _ _) ?_
      rintro e w1 ⟨rfl, rfl⟩
      go_wp2_with fail
      go_ret
      exact ⟨by simp, rfl⟩
    · have ha' : (a == 0) = false := by simpa using ha
      by_cases hb : b = 0
      · subst hb
        go_enter Tryd.func52, Tryd.ntmps52
        go_wp2_with fail
        refine Calls.mono (ct _ _) ?_
        rintro e w1 ⟨rfl, rfl⟩
        go_wp2_with fail
        go_ret
        exact ⟨by simp, rfl⟩
      · have hb' : (b == 0) = false := by simpa using hb
        have hd : decide (a ≠ 0 ∧ b ≠ 0) = true := by simp [ha, hb]
        rw [hd]
        clear hd
        go_enter Tryd.func52, Tryd.ntmps52
        go_wp2_with fail
        refine Calls.mono (ct _ _) ?_
        rintro e w1 ⟨rfl, rfl⟩
        go_wp2_with fail
        go_ret
        exact ⟨by simp [bne, ha', hb'], rfl⟩
  · have e : jn 6 a b = tr (decide (a ≠ 0 ∨ b ≠ 0)) := rfl
    rw [e]
    by_cases ha : a = 0
    · subst ha
      by_cases hb : b = 0
      · subst hb
        go_enter Tryd.func52, Tryd.ntmps52
        go_wp2_with fail
        refine Calls.mono (ct _ _) ?_
        rintro e w1 ⟨rfl, rfl⟩
        go_wp2_with fail
        go_ret
        exact ⟨by simp, rfl⟩
      · have hb' : (b == 0) = false := by simpa using hb
        have hd : decide ((0 : Int) ≠ 0 ∨ b ≠ 0) = true := by simp [hb]
        rw [hd]
        clear hd
        go_enter Tryd.func52, Tryd.ntmps52
        go_wp2_with fail
        refine Calls.mono (ct _ _) ?_
        rintro e w1 ⟨rfl, rfl⟩
        go_wp2_with fail
        go_ret
        exact ⟨by simp [bne, hb'], rfl⟩
    · have ha' : (a == 0) = false := by simpa using ha
      have hd : decide (a ≠ 0 ∨ b ≠ 0) = true := by simp [ha]
      rw [hd]
      clear hd
      go_enter Tryd.func52, Tryd.ntmps52
      go_wp2_with fail
      refine Calls.mono (ct _ _) ?_
      rintro e w1 ⟨rfl, rfl⟩
      go_wp2_with fail
      go_ret
      exact ⟨rfl, rfl⟩
  · have e : jn 7 a b = tr (decide (a < b)) := rfl
    rw [e]
    by_cases ha : a < b
    · rw [decide_eq_true ha]
      go_enter Tryd.func52, Tryd.ntmps52
      go_wp2_with fail
      refine Calls.mono (ct _ _) ?_
      rintro e w1 ⟨rfl, rfl⟩
      go_wp2_with fail
      go_ret
      exact ⟨rfl, rfl⟩
    · rw [decide_eq_false ha]
      go_enter Tryd.func52, Tryd.ntmps52
      go_wp2_with fail
      refine Calls.mono (ct _ _) ?_
      rintro e w1 ⟨rfl, rfl⟩
      go_wp2_with fail
      go_ret
      exact ⟨rfl, rfl⟩
  · have e : jn 8 a b = tr (decide (a = b)) := rfl
    rw [e]
    by_cases ha : a = b
    · rw [decide_eq_true ha]
      subst ha
      go_enter Tryd.func52, Tryd.ntmps52
      go_wp2_with fail
      refine Calls.mono (ct _ _) ?_
      rintro e w1 ⟨rfl, rfl⟩
      go_wp2_with fail
      go_ret
      exact ⟨rfl, rfl⟩
    · have ha' : (a == b) = false := by simpa using ha
      rw [decide_eq_false ha]
      go_enter Tryd.func52, Tryd.ntmps52
      go_wp2_with fail
      refine Calls.mono (ct _ _) ?_
      rintro e w1 ⟨rfl, rfl⟩
      go_wp2_with fail
      go_ret
      exact ⟨rfl, rfl⟩
  · go_enter Tryd.func52, Tryd.ntmps52
    go_wp2_with fail
    go_ret
    exact ⟨rfl, rfl⟩
  · go_enter Tryd.func52, Tryd.ntmps52
    go_wp2_with fail
    go_ret
    exact ⟨rfl, rfl⟩

/-- What a name is worth: the first of that name. -/
def env (ns : List (List UInt8)) (vs : List Int) (x : List UInt8) : Int := vs.getD (ns.idxOf x) 0

/-- A guard that is whole, by its first word. -/
theorem gd_cons {ns : List (List UInt8)} {f : Nat} {xs r : List (List UInt8)} (h : gd ns f xs = .inr r) : ∃ f' x ys, f = f' + 1 ∧ xs = x :: ys ∧ kd x ≠ 1 ∧ (kd x = 3 → x ∈ ns) ∧ times (gd ns f') (ar (kd x)) ys = .inr r := by
  cases f with
  | zero => cases h
  | succ f =>
    cases xs with
    | nil => cases h
    | cons x ys =>
      simp only [gd] at h
      rcases rf_cases ns x with ⟨h1, h2⟩ | ⟨h1, _, h2⟩ | ⟨h1, h2, h3⟩
      · rw [if_pos (by omega)] at h; cases h
      · rw [if_pos (by omega)] at h; cases h
      · rw [if_neg (by omega)] at h
        exact ⟨f, x, ys, rfl, rfl, h1, h2, h⟩
theorem times_one {α β : Type} {g : List α → β ⊕ List α} {ws r : List α} (h : times g 1 ws = .inr r) : g ws = .inr r := by
  simp only [times] at h
  cases hg : g ws with
  | inl e => rw [hg] at h; cases h
  | inr r1 =>
    rw [hg] at h
    simpa using h
theorem times_two {α β : Type} {g : List α → β ⊕ List α} {ws r : List α} (h : times g 2 ws = .inr r) : ∃ r1, g ws = .inr r1 ∧ g r1 = .inr r := by
  simp only [times] at h
  cases hg : g ws with
  | inl e => rw [hg] at h; cases h
  | inr r1 =>
    rw [hg] at h
    refine ⟨r1, rfl, ?_⟩
    cases hg2 : g r1 with
    | inl e => simp only [hg2] at h; cases h
    | inr r2 =>
      simp only [hg2, Sum.inr.injEq] at h
      rw [h]
theorem Rd.first {s : List UInt8} {p k q t : Nat} {n : Int} (h : Rd s p k q t n) {x : List UInt8} {ys : List (List UInt8)} (hx : (Wo s p).map Prod.snd = x :: ys) : k = kd x ∧ tex s q t = x ∧ (Wo s t).map Prod.snd = ys ∧ (k = 2 → n = num x) := by
  rcases h with ⟨_, _, _, h⟩ | ⟨h1, h2, h3⟩
  · rw [h] at hx; cases hx
  · rw [h1.words] at hx
    simp only [List.map_cons, List.cons.injEq] at hx
    obtain ⟨e1, e2⟩ := hx
    rw [e1] at h2 h3
    exact ⟨h2, e1, e2, h3⟩

set_option maxRecDepth 100000 in
set_option maxHeartbeats 2000000 in
theorem reckon_any {v u : Value} {ns : List (List UInt8)} {vs : List Int} {s : List UInt8} (hs : s.length ≤ 281474976710656) (hl : ns.length ≤ vs.length) (f : Nat) : ∀ {w : World} (_ : Ns w v ns) (_ : Vi w u vs) (p : Nat) (_ : p ≤ s.length) (r : List (List UInt8)) (_ : gd ns f ((Wo s p).map Prod.snd) = .inr r),
    Calls Tryd.prog 43 #[.string ⟨s.toArray⟩, v, u, .int .i64 (p : Nat)] w fun e w' => (∃ q : Nat, e = .returned (.tuple #[.int .i64 (vl (env ns vs) f ((Wo s p).map Prod.snd)).1, .int .i64 (q : Nat)]) ∧ q ≤ s.length ∧ (Wo s q).map Prod.snd = r) ∧ Kept (fun _ => True) w w' := by
  induction f with
  | zero => intro w _ _ p _ r h; cases h
  | succ f ih =>
    intro w h hv p hp r hg
    have HI : Hid (∀ {w : World} (_ : Ns w v ns) (_ : Vi w u vs) (p : Nat) (_ : p ≤ s.length) (r : List (List UInt8)) (_ : gd ns f ((Wo s p).map Prod.snd) = .inr r),
      Calls Tryd.prog 43 #[.string ⟨s.toArray⟩, v, u, .int .i64 (p : Nat)] w fun e w' => (∃ q : Nat, e = .returned (.tuple #[.int .i64 (vl (env ns vs) f ((Wo s p).map Prod.snd)).1, .int .i64 (q : Nat)]) ∧ q ≤ s.length ∧ (Wo s q).map Prod.snd = r) ∧ Kept (fun _ => True) w w') := ih
    clear ih
    obtain ⟨f', x, ys, hf', hxs, hk1, hk3, hT⟩ := gd_cons hg
    obtain rfl : f = f' := by omega
    have HX : Hid ((Wo s p).map Prod.snd = x :: ys) := hxs
    have HT : Hid (times (gd ns f) (ar (kd x)) ys = .inr r) := hT
    have HN : Hid (Ns w v ns) := h
    have HV : Hid (Vi w u vs) := hv
    have HS : Hid (s.length ≤ 281474976710656) := hs
    have HL : Hid (ns.length ≤ vs.length) := hl
    obtain ⟨V, hV⟩ : ∃ V, V = (vl (env ns vs) (f + 1) ((Wo s p).map Prod.snd)).1 := ⟨_, rfl⟩
    rw [← hV]
    rw [hxs] at hV
    have hkc := kd_cases x
    have cr := read_any (w := w) hs p hp
    obtain ⟨ao, cap, rfl, -⟩ := h
    obtain ⟨bo, bcap, rfl, hvc⟩ := hv
    have HW : Hid (0 < vs.length → ∃ b off, bo = some ⟨b, off, none⟩ ∧ b < w.heap.size ∧ ∀ i (h : i < vs.length), w.cell? ⟨b, off + i, none⟩ = some (.int .i64 (vs[i]))) := hvc
    clear hg hT hxs hvc hf' hl
    have HV2 : Hid (V = (vl (env ns vs) (f + 1) (x :: ys)).1) := hV
    clear hV
    go_enter Tryd.func43, Tryd.ntmps43
    go_wp2_with fail
    refine Calls.mono cr ?_
    rintro e w1 ⟨⟨k, q, t, n, rfl, hR⟩, k1⟩
    clear cr
    obtain ⟨b1, b2, b3⟩ := hR.bounds
    obtain ⟨e1, e2, e3, e4⟩ := hR.first HX.out
    have HE3 : Hid ((Wo s t).map Prod.snd = ys) := e3
    have HK1 : Hid (Kept (fun _ => True) w w1) := k1
    have hcut := cut_text s q t b1 b2
    rw [e2] at hcut
    clear hR k1 e2 e3
    by_cases h2 : k = 2
    · have hV : Hid (V = n) := by
        show V = n
        rw [HV2.out, e4 h2]
        simp [vl, ← e1, h2]
      have hr : Hid (ys = r) := by
        have := HT.out
        rw [← e1, h2] at this
        show ys = r
        simpa [ar, times] using this
      subst h2
      clear e1 e4 hk3 hcut
      go_wp2_with fail
      go_quiet (fail)
      go_wp2_with fail
      go_ret2
      exact ⟨⟨t, by rw [hV.out]; rfl, b2, HE3.out.trans hr.out⟩, (HK1.out.alloc _).drewN _⟩
    · by_cases h3 : k = 3
      · have hx : x ∈ ns := hk3 (by omega)
        have hr : Hid (ys = r) := by
          have := HT.out
          rw [← e1, h3] at this
          show ys = r
          simpa [ar, times] using this
        have hlt : ns.idxOf x < vs.length := Nat.lt_of_lt_of_le (List.idxOf_lt_length_of_mem hx) HL.out
        have hix : ix ns x = (ns.idxOf x : Int) := if_pos hx
        have hV : Hid (V = vs[ns.idxOf x]) := by
          show V = _
          rw [HV2.out]
          simp only [vl]
          rw [if_neg (by omega), if_pos (by omega)]
          simp [env, hlt]
        obtain ⟨b, off, rfl, hb, hc⟩ := HW.out (by omega)
        have ci := fun W (hW : Kept (fun _ => True) w W) => index_text (HN.out.all hW) x
        rw [hix] at ci
        have q1 := hc _ hlt
        clear hc hix hx hk3 e1 e4
        generalize vs[ns.idxOf x] = z at *
        generalize ns.idxOf x = j at *
        have HK2 : Hid _ := HK1.out.alloc (.cells #[.int .i64 3, .int .i64 (q : Nat), .int .i64 (t : Nat), .int .i64 n] 90)
        have q2 := (kept_cell HK1.out hb (o := off + j) trivial).trans q1
        have q3 := (kept_cell HK2.out hb (o := off + j) trivial).trans q1
        have hb1 : b < w1.heap.size := Nat.lt_of_lt_of_le hb HK1.out.size
        have j1 : (j : Int) < (vs.length : Int) := by omega
        have j0 : (0 : Int) ≤ (j : Int) := by omega
        have c2 := fun n => ci _ (HK2.out.drewN n)
        subst h3
        clear ci q1
        go_wp2_with fail
        go_quiet ((go_at_call 50; exact Calls.quiet_of_same (c2 _)))
        go_wp2_with fail
        go_ret2
        exact ⟨⟨t, by rw [hV.out]; rfl, b2, HE3.out.trans hr.out⟩, HK2.out.drewN _⟩
      · by_cases h4 : k = 4
        · have hT1 : gd ns f ys = .inr r := times_one (by have := HT.out; rw [← e1, h4] at this; exact this)
          have hV : Hid (V = tr (decide ((vl (env ns vs) f ys).1 = 0))) := by
            show V = _
            rw [HV2.out]
            simp only [vl]
            rw [if_neg (by omega), if_neg (by omega), if_pos (by omega)]
          have HK2 : Hid _ := HK1.out.alloc (.cells #[.int .i64 4, .int .i64 (q : Nat), .int .i64 (t : Nat), .int .i64 n] 90)
          have HB : Hid _ := heap_alloc_new w1 (.cells #[.int .i64 4, .int .i64 (q : Nat), .int .i64 (t : Nat), .int .i64 n] 90)
          have ck := HI.out (HN.out.all HK2.out) (HV.out.all HK2.out) t b2 r (by rw [HE3.out]; exact hT1)
          rw [HE3.out] at ck
          subst h4
          clear e1 e4 hk3 hcut hT1
          generalize (vl (env ns vs) f ys).1 = A at *
          go_wp2_with fail
          refine Calls.mono ck ?_
          rintro e w2 ⟨⟨q2, rfl, hq2, hq3⟩, k2⟩
          clear ck
          obtain ⟨z0, z1, z2, z3⟩ := word_cells (((k2.block w1.heap.size (by simp) trivial).trans HB.out))
          have HK3 : Hid (Kept (fun _ => True) w w2) := HK2.out.trans k2
          have HQ : Hid ((Wo s q2).map Prod.snd = r) := hq3
          clear k2 HB HK2 hq3
          generalize w1.heap.size = G at *
          have ct := fun W b => truth_any (w := W) b
          by_cases ha : A = 0
          · subst ha
            go_wp2_with fail
            refine Calls.mono (ct _ _) ?_
            rintro e w3 ⟨rfl, rfl⟩
            go_wp2_with fail
            go_ret2
            exact ⟨⟨q2, by rw [hV.out]; rfl, hq2, HQ.out⟩, HK3.out⟩
          · have ha' : (A == 0) = false := by simpa using ha
            have hV2 : Hid (V = 0) := by
              show V = 0
              rw [hV.out, decide_eq_false ha]
              rfl
            clear ha
            go_wp2_with fail
            refine Calls.mono (ct _ _) ?_
            rintro e w3 ⟨rfl, rfl⟩
            go_wp2_with fail
            go_ret2
            exact ⟨⟨q2, by rw [hV2.out]; rfl, hq2, HQ.out⟩, HK3.out⟩
        · have hk5 : 5 ≤ k := by omega
          have har : ar (kd x) = 2 := by rw [← e1]; unfold ar; rw [if_neg h4, if_pos hk5]
          obtain ⟨r1, hT1, hT2⟩ := times_two (by have := HT.out; rw [har] at this; exact this)
          have hg1 := gd_vl ns (env ns vs) f ys r1 hT1
          have hV : Hid (V = jn k (vl (env ns vs) f ys).1 (vl (env ns vs) f r1).1) := by
            show V = _
            rw [HV2.out]
            simp only [vl]
            rw [if_neg (by omega), if_neg (by omega), if_neg (by omega), hg1, ← e1]
          have HK2 : Hid _ := HK1.out.alloc (.cells #[.int .i64 (k : Nat), .int .i64 (q : Nat), .int .i64 (t : Nat), .int .i64 n] 90)
          have HB : Hid _ := heap_alloc_new w1 (.cells #[.int .i64 (k : Nat), .int .i64 (q : Nat), .int .i64 (t : Nat), .int .i64 n] 90)
          have ck := HI.out (HN.out.all HK2.out) (HV.out.all HK2.out) t b2 r1 (by rw [HE3.out]; exact hT1)
          rw [HE3.out] at ck
          have HT2 : Hid (gd ns f r1 = .inr r) := hT2
          have g2 : ((k : Int) == 2) = false := by simp; omega
          have g3 : ((k : Int) == 3) = false := by simp; omega
          have g4 : ((k : Int) == 4) = false := by simp; omega
          clear e1 e4 hk3 hcut hT1 hT2 har hg1 h2 h3 h4
          generalize (vl (env ns vs) f ys).1 = A at *
          go_wp2_with fail
          refine Calls.mono ck ?_
          rintro e w2 ⟨⟨q2, rfl, hq2, hq3⟩, k2⟩
          clear ck
          have hB2 := (k2.block w1.heap.size (by simp) trivial).trans HB.out
          obtain ⟨z0, z1, z2, z3⟩ := word_cells hB2
          have HB2 : Hid _ := hB2
          have HK3 : Hid (Kept (fun _ => True) w w2) := HK2.out.trans k2
          have HQ : Hid ((Wo s q2).map Prod.snd = r1) := hq3
          have ck := HI.out (HN.out.all HK3.out) (HV.out.all HK3.out) q2 hq2 r (by rw [HQ.out]; exact HT2.out)
          rw [HQ.out] at ck
          clear k2 HB HK2 hq3 hB2
          generalize w1.heap.size = G at *
          generalize (vl (env ns vs) f r1).1 = B at *
          go_wp2_with fail
          refine Calls.mono ck ?_
          rintro e w3 ⟨⟨q3, rfl, hq3, hq4⟩, k3⟩
          clear ck
          have hG := lt_of_block HB2.out
          have hB3 := (k3.block G hG trivial).trans HB2.out
          clear z0 z1 z2 z3
          obtain ⟨z0, z1, z2, z3⟩ := word_cells hB3
          have HK4 : Hid (Kept (fun _ => True) w w3) := HK3.out.trans k3
          have HQ4 : Hid ((Wo s q3).map Prod.snd = r) := hq4
          have cj := fun W => join_any (w := W) k hk5 b3 A B
          clear k3 hB3 HB2 hq4 hG
          go_wp2_with fail
          refine Calls.mono (cj _) ?_
          rintro e w4 ⟨rfl, rfl⟩
          go_wp2_with fail
          go_ret2
          exact ⟨⟨q3, by rw [hV.out]; rfl, hq3, HQ4.out⟩, HK4.out⟩

/-- What Eval answers. -/
def evl (ns : List (List UInt8)) (vs : List Int) (s : List UInt8) : Int × Nat :=
  if (chk ns s).1 ≠ 0 then (0, (chk ns s).1) else if vs.length < ns.length then (0, 1) else ((vl (env ns vs) 17 (tx s)).1, 0)
theorem rf_lk (ns : List (List UInt8)) (L f : Nat) (ws : List (Nat × List UInt8)) (c q : Nat) (h : lk ns L f ws = .inl (c, q)) : c ≠ 0 := by
  induction f generalizing ws c q with
  | zero =>
    cases ws with
    | nil => simp only [lk, Sum.inl.injEq, Prod.mk.injEq] at h; omega
    | cons p ws =>
      obtain ⟨p, x⟩ := p
      simp only [lk, Sum.inl.injEq, Prod.mk.injEq] at h
      have := rf_small ns x
      split at h <;> omega
  | succ f ih =>
    have ht : ∀ k ws, times (lk ns L f) k ws = .inl (c, q) → c ≠ 0 := by
      intro k
      induction k with
      | zero => intro ws h; simp [times] at h
      | succ k ihk =>
        intro ws h
        simp only [times] at h
        cases hw : lk ns L f ws with
        | inl e =>
          rw [hw] at h
          simp only [Sum.inl.injEq] at h
          subst h
          exact ih ws c q hw
        | inr r =>
          rw [hw] at h
          exact ihk r h
    cases ws with
    | nil => simp only [lk, Sum.inl.injEq, Prod.mk.injEq] at h; omega
    | cons p ws =>
      obtain ⟨p, x⟩ := p
      simp only [lk] at h
      by_cases hr : rf ns x ≠ 0
      · rw [if_pos hr] at h
        simp only [Sum.inl.injEq, Prod.mk.injEq] at h
        omega
      · rw [if_neg hr] at h
        exact ht _ _ h
/-- A guard with which nothing is wrong. -/
theorem chk_gd {ns : List (List UInt8)} {s : List UInt8} : (chk ns s).1 = 0 ↔ s.length ≤ 120 ∧ gd ns 17 (tx s) = .inr [] := by
  by_cases hl : 120 < s.length
  · rw [chk_long hl]
    constructor
    · intro h; cases h
    · intro h; omega
  · have hg := lk_gd ns s.length 17 (Wo s 0)
    rw [Wo_tx] at hg
    cases hk : lk ns s.length 17 (Wo s 0) with
    | inl e =>
      obtain ⟨c, q⟩ := e
      rw [chk_fail hl hk]
      have := rf_lk ns _ _ _ c q hk
      have hg := hg.1 _ hk
      constructor
      · intro h; exact absurd h this
      · intro h; rw [hg] at h; cases h.2
    | inr r =>
      rw [chk_whole hl hk]
      have hg := hg.2 _ hk
      rw [hg]
      cases r with
      | nil => simp [tailOf]; omega
      | cons p r =>
        obtain ⟨p, x⟩ := p
        have := rf_small ns x
        constructor
        · intro h
          simp only [tailOf] at h
          split at h <;> omega
        · intro h
          simp at h

set_option maxRecDepth 100000 in
set_option maxHeartbeats 2000000 in
theorem eval_any {w : World} {v u : Value} {ns : List (List UInt8)} {vs : List Int} (h : Ns w v ns) (hv : Vi w u vs) {s : List UInt8} (hs : s.length ≤ 281474976710656) :
    Calls Tryd.prog 35 #[.string ⟨s.toArray⟩, v, u] w fun e w' => e = .returned (.tuple #[.int .i64 (evl ns vs s).1, .int .i64 ((evl ns vs s).2 : Nat)]) ∧ Kept (fun _ => True) w w' := by
  have HN : Hid (Ns w v ns) := h
  have HV : Hid (Vi w u vs) := hv
  have cc := check_any h hs
  obtain ⟨ao, cap, rfl, -⟩ := h
  obtain ⟨bo, bcap, rfl, -⟩ := hv
  obtain ⟨C, hC⟩ : ∃ C, C = evl ns vs s := ⟨_, rfl⟩
  have HC : Hid (C = evl ns vs s) := hC
  rw [← hC]
  clear hC
  by_cases h0 : (chk ns s).1 = 0
  · have hg := chk_gd.1 h0
    rw [h0] at cc
    by_cases hl : vs.length < ns.length
    · have e1 : Hid (C = (0, 1)) := by
        show C = (0, 1)
        rw [HC.out, evl, if_neg (by omega), if_pos hl]
      have hl' : (vs.length : Int) < (ns.length : Int) := by omega
      clear h0 hg
      generalize (chk ns s).2 = q at *
      go_enter Tryd.func35, Tryd.ntmps35
      go_wp2_with fail
      refine Calls.mono cc ?_
      rintro e w1 ⟨rfl, k1⟩
      clear cc
      go_wp2_with fail
      go_ret2
      exact ⟨by rw [e1.out]; rfl, k1⟩
    · have e1 : Hid (C = ((vl (env ns vs) 17 (tx s)).1, 0)) := by
        show C = _
        rw [HC.out, evl, if_neg (by omega), if_neg hl]
      have hl' : ¬ (vs.length : Int) < (ns.length : Int) := by omega
      have ck := fun W (hk : Kept (fun _ => True) w W) => reckon_any hs (by omega) 17 (HN.out.all hk) (HV.out.all hk) 0 (Nat.zero_le _) [] (by rw [Wo_tx]; exact hg.2)
      rw [Wo_tx] at ck
      clear h0 hg
      generalize (chk ns s).2 = q at *
      generalize (vl (env ns vs) 17 (tx s)).1 = V at *
      go_enter Tryd.func35, Tryd.ntmps35
      go_wp2_with fail
      refine Calls.mono cc ?_
      rintro e w1 ⟨rfl, k1⟩
      clear cc
      have c2 := ck _ k1
      clear ck
      go_wp2_with fail
      refine Calls.mono c2 ?_
      rintro e w2 ⟨⟨q2, rfl, -, -⟩, k2⟩
      go_wp2_with fail
      go_ret2
      exact ⟨by rw [e1.out]; rfl, k1.trans k2⟩
  · have e1 : Hid (C = (0, (chk ns s).1)) := by
      show C = _
      rw [HC.out, evl, if_pos h0]
    generalize (chk ns s).2 = q at *
    generalize (chk ns s).1 = c at *
    have hc : ((c : Int) == 0) = false := by simp; omega
    clear h0
    go_enter Tryd.func35, Tryd.ntmps35
    go_wp2_with fail
    refine Calls.mono cc ?_
    rintro e w1 ⟨rfl, k1⟩
    clear cc
    go_wp2_with fail
    go_ret2
    exact ⟨by rw [e1.out]; rfl, k1⟩

end Go.Proofs.YtnddpalngjmhnabDoor
