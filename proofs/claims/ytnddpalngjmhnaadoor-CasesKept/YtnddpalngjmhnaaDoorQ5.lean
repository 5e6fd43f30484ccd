/-
  Names and values that are looked at; slices.Index, Contains; refuse, look, Check, Name.
-/
import Derived.Test.YtnddpalngjmhnaaDoorQ4
import Derived.Test.YtnddpalngjmhnaaDoorQChk
namespace Go.Proofs.YtnddpalngjmhnaaDoor
open Go.RowKit

/-- A slice of texts that is looked at. -/
def Ns (w : World) (v : Value) (ns : List (List UInt8)) : Prop :=
  ∃ ao cap, v = .slice ao ns.length cap ∧ ns.length ≤ 281474976710656 ∧ (0 < ns.length → ∃ b off, ao = some ⟨b, off, none⟩ ∧ b < w.heap.size ∧ ∀ i (h : i < ns.length), w.cell? ⟨b, off + i, none⟩ = some (.string ⟨(ns[i]).toArray⟩))
theorem Ns.all {w w' : World} {v : Value} {ns : List (List UInt8)} (h : Ns w v ns) (k : Kept (fun _ => True) w w') : Ns w' v ns := by
  obtain ⟨ao, cap, e, hl, h⟩ := h
  refine ⟨ao, cap, e, hl, fun h0 => ?_⟩
  obtain ⟨b, off, e, hb, hc⟩ := h h0
  exact ⟨b, off, e, Nat.lt_of_lt_of_le hb k.size, fun i hi => (kept_cell k hb trivial).trans (hc i hi)⟩
/-- A slice of numbers that is looked at. -/
def Vi (w : World) (v : Value) (xs : List Int) : Prop :=
  ∃ ao cap, v = .slice ao xs.length cap ∧ (0 < xs.length → ∃ b off, ao = some ⟨b, off, none⟩ ∧ b < w.heap.size ∧ ∀ i (h : i < xs.length), w.cell? ⟨b, off + i, none⟩ = some (.int .i64 (xs[i])))
theorem Vi.all {w w' : World} {v : Value} {xs : List Int} (h : Vi w v xs) (k : Kept (fun _ => True) w w') : Vi w' v xs := by
  obtain ⟨ao, cap, e, h⟩ := h
  refine ⟨ao, cap, e, fun h0 => ?_⟩
  obtain ⟨b, off, e, hb, hc⟩ := h h0
  exact ⟨b, off, e, Nat.lt_of_lt_of_le hb k.size, fun i hi => (kept_cell k hb trivial).trans (hc i hi)⟩

theorem idx_of (ns : List (List UInt8)) (x : List UInt8) (k : Nat) (hk : k < ns.length) (he : ns[k] = x) (hn : ∀ y ∈ ns.take k, y ≠ x) : x ∈ ns ∧ ns.idxOf x = k := by
  refine ⟨he ▸ List.getElem_mem hk, ?_⟩
  induction ns generalizing k with
  | nil => simp at hk
  | cons a l ih =>
    cases k with
    | zero =>
      simp only [List.getElem_cons_zero] at he
      rw [he, List.idxOf_cons_self]
    | succ k =>
      have ha : a ≠ x := hn a (by simp)
      have := ih k (by simpa using hk) (by simpa using he) (fun y hy => hn y (by simp [hy]))
      have hb : (a == x) = false := beq_eq_false_iff_ne.2 ha
      rw [List.idxOf_cons, hb, this]
      rfl
/-- Where x is. -/
def ix (ns : List (List UInt8)) (x : List UInt8) : Int := if x ∈ ns then (ns.idxOf x : Int) else -1

set_option maxRecDepth 100000 in
set_option maxHeartbeats 1000000 in
theorem index_text {w : World} {v : Value} {ns : List (List UInt8)} (h : Ns w v ns) (x : List UInt8) :
    Calls Tryd.prog 83 #[v, .string ⟨x.toArray⟩] w fun e w' => e = .returned (.int .i64 (ix ns x)) ∧ w' = w := by
  obtain ⟨ao, cap, rfl, hl, h⟩ := h
  have H : Hid (0 < ns.length → ∃ b off, ao = some ⟨b, off, none⟩ ∧ b < w.heap.size ∧ ∀ i (h : i < ns.length), w.cell? ⟨b, off + i, none⟩ = some (.string ⟨(ns[i]).toArray⟩)) := h
  clear h
  obtain ⟨Z, hZ⟩ : ∃ Z, Z = ix ns x := ⟨_, rfl⟩
  have HZ : Hid (Z = ix ns x) := hZ
  rw [← hZ]
  clear hZ
  go_enter Tryd.func83, Tryd.ntmps83
  go_wp2_with fail
  go_loop [8] (fun t => ∃ k : Nat, k ≤ ns.length ∧ t = .int .i64 k ∧ ∀ y ∈ ns.take k, y ≠ x) (fun t => ns.length - (intOf t).toNat)
  case atStart => exact ⟨0, Nat.zero_le _, rfl, by simp⟩
  case round =>
    obtain ⟨k, hk, rfl, hn⟩ := hrel
    have HN : Hid (∀ y ∈ ns.take k, y ≠ x) := hn
    clear hn
    by_cases hlt : k < ns.length
    · obtain ⟨b, off, rfl, hb, hc⟩ := H.out (by omega)
      have q1 := hc k hlt
      have HS : Hid (ns.take (k + 1) = ns.take k ++ [ns[k]]) := List.take_succ_eq_append_getElem hlt
      have HP : Hid (ns[k] = x → ix ns x = k) := fun he => by
        obtain ⟨h1, h2⟩ := idx_of ns x k hlt he HN.out
        rw [ix, if_pos h1, h2]
      have i1 : (k : Int) < (ns.length : Int) := by omega
      have i0 : (0 : Int) ≤ (k : Int) := by omega
      clear hc hb
      generalize ns[k] = y at *
      by_cases he : y = x
      · subst he
        have e1 : Hid (Z = k) := HZ.out.trans (HP.out rfl)
        go_wp2_with fail
        go_ret
        exact ⟨by rw [e1.out]; rfl, rfl⟩
      · have hne : (x == y) = false := beq_eq_false_iff_ne.2 (Ne.symm he)
        have HE : Hid (y ≠ x) := he
        clear he
        go_wp2_with fail
        go_round
        case rel =>
          refine ⟨k + 1, by omega, by go_num, fun z hz => ?_⟩
          rw [HS.out] at hz
          rcases List.mem_append.1 hz with hz | hz
          · exact HN.out z hz
          · rw [List.mem_singleton.1 hz]; exact HE.out
        case measure => simp [intOf]; omega
    · have i1 : ¬ ((k : Int) < (ns.length : Int)) := by omega
      have e1 : ix ns x = -1 := by
        rw [ix, if_neg]
        intro hx
        refine HN.out x ?_ rfl
        rw [List.take_of_length_le (by omega)]
        exact hx
      replace e1 : Hid (Z = -1) := HZ.out.trans e1
      go_wp2_with fail
      go_ret
      exact ⟨by rw [e1.out]; rfl, rfl⟩

theorem ix_mem (ns : List (List UInt8)) (x : List UInt8) : decide (0 ≤ ix ns x) = decide (x ∈ ns) := by
  unfold ix
  split <;> simp_all

set_option maxHeartbeats 400000 in
theorem contains_text {w : World} {v : Value} {ns : List (List UInt8)} (h : Ns w v ns) (x : List UInt8) :
    Calls Tryd.prog 95 #[v, .string ⟨x.toArray⟩] w fun e w' => e = .returned (.bool (decide (x ∈ ns))) ∧ w' = w := by
  have cs := index_text h x
  have hm := ix_mem ns x
  obtain ⟨ao, cap, rfl, hl, h⟩ := h
  clear h
  rw [← hm]
  clear hm
  generalize ix ns x = z at *
  go_enter Tryd.func95, Tryd.ntmps95
  go_wp2_with fail
  refine Calls.mono cs ?_
  rintro e w1 ⟨rfl, rfl⟩
  go_wp2_with fail
  go_ret
  exact ⟨rfl, rfl⟩

set_option maxRecDepth 100000 in
set_option maxHeartbeats 1000000 in
theorem refuse_any {w : World} {v : Value} {ns : List (List UInt8)} (h : Ns w v ns) {s : List UInt8} (_ : s.length ≤ 281474976710656) (k q t : Nat) (n : Int) (hq : q ≤ t) (ht : t ≤ s.length) :
    Calls Tryd.prog 82 #[.string ⟨s.toArray⟩, v, .agg #[.int .i64 (k : Nat), .int .i64 (q : Nat), .int .i64 (t : Nat), .int .i64 n]] w fun e w' => e = .returned (.int .i64 (rfk ns k (tex s q t) : Nat)) ∧ Kept (fun _ => True) w w' := by
  have k1 : ∀ o : Obj, Kept (fun _ => True) w (w.alloc o) := fun o => (Kept.refl _ _).alloc _
  have HK : Hid (∀ o : Obj, Kept (fun _ => True) w (w.alloc o)) := k1
  have HC : Hid (∀ o : Obj, Calls Tryd.prog 95 #[v, .string ⟨(tex s q t).toArray⟩] (w.alloc o) fun e w' => e = .returned (.bool (decide (tex s q t ∈ ns))) ∧ w' = w.alloc o) := fun o => contains_text (h.all (k1 o)) _
  have hcut := cut_text s q t hq ht
  obtain ⟨ao, cap, rfl, hl, h⟩ := h
  clear h k1
  unfold rfk
  by_cases h0 : k = 0
  · subst h0
    rw [if_pos rfl]
    go_enter Tryd.func82, Tryd.ntmps82
    go_wp2_with fail
    go_ret
    exact ⟨rfl, HK.out _⟩
  · rw [if_neg h0]
    by_cases h1 : k = 1
    · subst h1
      rw [if_pos rfl]
      go_enter Tryd.func82, Tryd.ntmps82
      go_wp2_with fail
      go_ret
      exact ⟨rfl, HK.out _⟩
    · rw [if_neg h1]
      by_cases h3 : k = 3
      · subst h3
        generalize tex s q t = x at *
        by_cases hx : x ∈ ns
        · rw [if_neg (fun h => h.2 hx)]
          have hd : decide (x ∈ ns) = true := decide_eq_true hx
          rw [hd] at HC
          clear hd hx
          go_enter Tryd.func82, Tryd.ntmps82
          go_wp2_with fail
          refine Calls.mono (HC.out _) ?_
          rintro e w1 ⟨rfl, rfl⟩
          go_wp2_with fail
          go_ret
          exact ⟨rfl, HK.out _⟩
        · rw [if_pos ⟨rfl, hx⟩]
          have hd : decide (x ∈ ns) = false := decide_eq_false hx
          rw [hd] at HC
          clear hd hx
          go_enter Tryd.func82, Tryd.ntmps82
          go_wp2_with fail
          refine Calls.mono (HC.out _) ?_
          rintro e w1 ⟨rfl, rfl⟩
          go_wp2_with fail
          go_ret
          exact ⟨rfl, HK.out _⟩
      · rw [if_neg (fun h => h3 h.1)]
        have g0 : ((k : Int) == 0) = false := by simp; omega
        have g1 : ((k : Int) == 1) = false := by simp; omega
        have g3 : ((k : Int) == 3) = false := by simp; omega
        go_enter Tryd.func82, Tryd.ntmps82
        go_wp2_with fail
        go_ret
        exact ⟨rfl, HK.out _⟩

end Go.Proofs.YtnddpalngjmhnaaDoor
