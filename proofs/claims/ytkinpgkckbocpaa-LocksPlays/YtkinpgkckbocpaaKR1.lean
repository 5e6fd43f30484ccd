/-
  The document's Held, Holders, All, Writer, Free; the law's in.
-/
import Derived.Test.YtkinpgkckbocpaaKR0
import Derived.Deep.CutRange
namespace Go.Proofs.Ytkinpgkckbocpaa
open Go.RowKit

theorem few_of {us : List (List UInt8)} {xs : List Lo} (hr : Rises us) (f : Lo → List UInt8) (h : ∀ y ∈ us, ∃ z ∈ xs, f z = y) : us.length ≤ xs.length := by
  have := nodup_len (m := xs.map f) hr.nodup (fun y hy => by obtain ⟨z, hz, e⟩ := h y hy; exact List.mem_map.2 ⟨z, hz, e⟩)
  simpa using this
theorem take_some {xs : List Lo} {k : Nat} (hk : k < xs.length) {P : Lo → Prop} : (∃ z ∈ xs.take (k + 1), P z) ↔ (∃ z ∈ xs.take k, P z) ∨ P xs[k] := by
  rw [List.take_succ_eq_append_getElem hk]
  constructor
  · rintro ⟨z, hz, h⟩
    rcases List.mem_append.1 hz with hz | hz
    · exact .inl ⟨z, hz, h⟩
    · simp at hz
      subst hz
      exact .inr h
  · rintro (⟨z, hz, h⟩ | h)
    · exact ⟨z, List.mem_append_left _ hz, h⟩
    · exact ⟨_, List.mem_append_right _ (by simp), h⟩
/-- Texts are told, in order; P: which. -/
def ETold (e : Ending) (w w' : World) (n : Nat) (P : List UInt8 → Prop) : Prop := ∃ u us, e = .returned u ∧ (Rises us ∧ ∀ y, y ∈ us ↔ P y) ∧ us.length ≤ n ∧ Txs w' w.heap.size u us ∧ Kept (fun _ => True) w w'
/-- Who writes. -/
def EWr (e : Ending) (w w' : World) (xs : List Lo) (x : List UInt8) : Prop := ∃ (u : List UInt8) (ok : Bool), e = .returned (.tuple #[.string ⟨u.toArray⟩, .bool ok]) ∧ ((ok = true ∧ ∃ z ∈ xs, z.c = x ∧ z.w = true ∧ z.t = u) ∨ (ok = false ∧ u = [] ∧ ∀ z ∈ xs, ¬ (z.c = x ∧ z.w = true))) ∧ Kept (fun _ => True) w w'
/-- What a Free answers and leaves. -/
def EFree (e : Ending) (w w' : World) (base R : Nat) (v : Value) (xs : List Lo) (x : List UInt8) : Prop := ∃ v', e = .returned (.bool (decide ((xs.filter (fun z => decide (z.t ≠ x))).length < xs.length))) ∧ Rt w' base R v' (xs.filter (fun z => decide (z.t ≠ x))) ∧ RS w w' R v

set_option maxRecDepth 100000 in
set_option maxHeartbeats 1000000 in
theorem rheld_any {w : World} {base R : Nat} {v : Value} {xs : List Lo} (t : Rt w base R v xs) (x : List UInt8) :
    Calls Try.prog 20 #[.pointer (some ⟨R, 0, none⟩), .string ⟨x.toArray⟩] w fun e w' => ETold e w w' xs.length (fun y => ∃ z ∈ xs, z.t = x ∧ z.c = y) := by
  obtain ⟨ao, cap, rfl, hg⟩ := t.shape
  have HT : Hid (Rt w base R (.slice ao xs.length cap) xs) := t
  have HG : Hid (0 < xs.length → ∃ g, ao = some ⟨g, 0, none⟩) := hg
  have hfew := t.few
  clear t hg
  go_enter Try.func20, Try.ntmps20
  go_wp2_with fail
  go_loopw [5, 6] (fun tv tk wr => ∃ (k : Nat) (us : List (List UInt8)), k ≤ xs.length ∧ tk = .int .i64 (k : Nat) ∧ Rises us ∧ (∀ y, y ∈ us ↔ ∃ z ∈ xs.take k, z.t = x ∧ z.c = y) ∧ Txs wr w.heap.size tv us ∧ Kept (fun _ => True) w wr) (fun _ tk _ => xs.length - (intOf tk).toNat)
  case atStart => exact ⟨0, [], Nat.zero_le _, rfl, by simp [Rises], by simp, Txs.nil _ _, Kept.refl _ _⟩
  case round =>
    obtain ⟨k, us, hk, rfl, hR, hm, hT, hkk⟩ := hrel
    have HR : Hid (Rises us ∧ ∀ y, y ∈ us ↔ ∃ z ∈ xs.take k, z.t = x ∧ z.c = y) := ⟨hR, hm⟩
    have HU : Hid (Txs wr w.heap.size u5 us) := hT
    have HK : Hid (Kept (fun _ => True) w wr) := hkk
    have hul : us.length ≤ 1000 := by
      have := few_of (xs := xs.take k) hR (·.c) (fun y hy => by obtain ⟨z, hz, h⟩ := (hm y).1 hy; exact ⟨z, hz, h.2⟩)
      simp at this
      omega
    have HTr : Hid (Rt wr base R (.slice ao xs.length cap) xs) := HT.out.all hkk
    clear hR hm hT hkk
    have q0 := HTr.out.cell0.1
    have kb : (k : Int) ≤ 1000 := by omega
    by_cases hlt : k < xs.length
    · obtain ⟨g, rfl⟩ := HG.out (by omega)
      obtain ⟨d0, d1, d2⟩ := own_cells HTr.out.own k hlt
      have HS : Hid ((∀ y, (∃ z ∈ xs.take (k + 1), z.t = x ∧ z.c = y) ↔ (∃ z ∈ xs.take k, z.t = x ∧ z.c = y) ∨ ((xs[k]).t = x ∧ (xs[k]).c = y))) := fun y => take_some hlt
      have k1 : (k : Int) < (xs.length : Int) := by omega
      have k0 : (0 : Int) ≤ (k : Int) := by omega
      generalize xs[k] = z at *
      obtain ⟨zt, zc, zw⟩ := z
      simp only at d0 d1 d2
      obtain ⟨au, cu, rfl, -, -⟩ := HU.out.shape
      have cp := put_any (HU.out.ns (by omega)) (by omega) zc
      by_cases he : zt = x
      · subst he
        go_wp2_with fail
        refine Calls.mono cp ?_
        rintro e w2 ⟨⟨v2, rfl, t2⟩, k2⟩
        clear cp
        have HU2 : Hid (Txs w2 w.heap.size v2 (ins zc false us)) := row_base t2 HK.out.size
        have HK2 : Hid (Kept (fun _ => True) w w2) := HK.out.trans k2
        clear t2 k2
        go_wp2_with fail
        go_roundw
        case rel =>
          obtain ⟨i1, i2⟩ := ins_false zc us HR.out.1
          refine ⟨k + 1, _, by omega, by go_num, i1, fun y => ?_, HU2.out, HK2.out⟩
          rw [i2 y, HR.out.2 y, HS.out y]
          constructor
          · rintro (h | rfl)
            · exact .inl h
            · exact .inr ⟨by trivial, rfl⟩
          · rintro (h | ⟨_, rfl⟩)
            · exact .inl h
            · exact .inr rfl
        case measure => simp [intOf]; omega
      · have hne : (zt == x) = false := beq_eq_false_iff_ne.2 he
        have HX : Hid (zt ≠ x) := he
        clear he cp
        go_wp2_with fail
        go_roundw
        case rel =>
          refine ⟨k + 1, us, by omega, by go_num, HR.out.1, fun y => ?_, HU.out, HK.out⟩
          rw [HR.out.2 y, HS.out y]
          constructor
          · exact .inl
          · rintro (h | ⟨h, _⟩)
            · exact h
            · exact absurd h HX.out
        case measure => simp [intOf]; omega
    · have k1 : ¬ (k : Int) < (xs.length : Int) := by omega
      obtain ⟨au, cu, rfl, -, -⟩ := HU.out.shape
      have HE : Hid (xs.take k = xs) := List.take_of_length_le (by omega)
      go_wp2_with fail
      go_ret
      have hR := HR.out
      rw [HE.out] at hR
      unfold ETold
      exact ⟨_, us, rfl, hR, few_of hR.1 (·.c) (fun y hy => by obtain ⟨z, hz, h⟩ := (hR.2 y).1 hy; exact ⟨z, hz, h.2⟩), HU.out, HK.out⟩

set_option maxRecDepth 100000 in
set_option maxHeartbeats 1000000 in
theorem rholders_any {w : World} {base R : Nat} {v : Value} {xs : List Lo} (t : Rt w base R v xs) (x : List UInt8) :
    Calls Try.prog 23 #[.pointer (some ⟨R, 0, none⟩), .string ⟨x.toArray⟩] w fun e w' => ETold e w w' xs.length (fun y => ∃ z ∈ xs, z.c = x ∧ z.t = y) := by
  obtain ⟨ao, cap, rfl, hg⟩ := t.shape
  have HT : Hid (Rt w base R (.slice ao xs.length cap) xs) := t
  have HG : Hid (0 < xs.length → ∃ g, ao = some ⟨g, 0, none⟩) := hg
  have hfew := t.few
  clear t hg
  go_enter Try.func23, Try.ntmps23
  go_wp2_with fail
  go_loopw [5, 6] (fun tv tk wr => ∃ (k : Nat) (us : List (List UInt8)), k ≤ xs.length ∧ tk = .int .i64 (k : Nat) ∧ Rises us ∧ (∀ y, y ∈ us ↔ ∃ z ∈ xs.take k, z.c = x ∧ z.t = y) ∧ Txs wr w.heap.size tv us ∧ Kept (fun _ => True) w wr) (fun _ tk _ => xs.length - (intOf tk).toNat)
  case atStart => exact ⟨0, [], Nat.zero_le _, rfl, by simp [Rises], by simp, Txs.nil _ _, Kept.refl _ _⟩
  case round =>
    obtain ⟨k, us, hk, rfl, hR, hm, hT, hkk⟩ := hrel
    have HR : Hid (Rises us ∧ ∀ y, y ∈ us ↔ ∃ z ∈ xs.take k, z.c = x ∧ z.t = y) := ⟨hR, hm⟩
    have HU : Hid (Txs wr w.heap.size u5 us) := hT
    have HK : Hid (Kept (fun _ => True) w wr) := hkk
    have hul : us.length ≤ 1000 := by
      have := few_of (xs := xs.take k) hR (·.t) (fun y hy => by obtain ⟨z, hz, h⟩ := (hm y).1 hy; exact ⟨z, hz, h.2⟩)
      simp at this
      omega
    have HTr : Hid (Rt wr base R (.slice ao xs.length cap) xs) := HT.out.all hkk
    clear hR hm hT hkk
    have q0 := HTr.out.cell0.1
    have kb : (k : Int) ≤ 1000 := by omega
    by_cases hlt : k < xs.length
    · obtain ⟨g, rfl⟩ := HG.out (by omega)
      obtain ⟨d0, d1, d2⟩ := own_cells HTr.out.own k hlt
      have HS : Hid ((∀ y, (∃ z ∈ xs.take (k + 1), z.c = x ∧ z.t = y) ↔ (∃ z ∈ xs.take k, z.c = x ∧ z.t = y) ∨ ((xs[k]).c = x ∧ (xs[k]).t = y))) := fun y => take_some hlt
      have k1 : (k : Int) < (xs.length : Int) := by omega
      have k0 : (0 : Int) ≤ (k : Int) := by omega
      generalize xs[k] = z at *
      obtain ⟨zt, zc, zw⟩ := z
      simp only at d0 d1 d2
      obtain ⟨au, cu, rfl, -, -⟩ := HU.out.shape
      have cp := put_any (HU.out.ns (by omega)) (by omega) zt
      by_cases he : zc = x
      · subst he
        go_wp2_with fail
        refine Calls.mono cp ?_
        rintro e w2 ⟨⟨v2, rfl, t2⟩, k2⟩
        clear cp
        have HU2 : Hid (Txs w2 w.heap.size v2 (ins zt false us)) := row_base t2 HK.out.size
        have HK2 : Hid (Kept (fun _ => True) w w2) := HK.out.trans k2
        clear t2 k2
        go_wp2_with fail
        go_roundw
        case rel =>
          obtain ⟨i1, i2⟩ := ins_false zt us HR.out.1
          refine ⟨k + 1, _, by omega, by go_num, i1, fun y => ?_, HU2.out, HK2.out⟩
          rw [i2 y, HR.out.2 y, HS.out y]
          constructor
          · rintro (h | rfl)
            · exact .inl h
            · exact .inr ⟨by trivial, rfl⟩
          · rintro (h | ⟨_, rfl⟩)
            · exact .inl h
            · exact .inr rfl
        case measure => simp [intOf]; omega
      · have hne : (zc == x) = false := beq_eq_false_iff_ne.2 he
        have HX : Hid (zc ≠ x) := he
        clear he cp
        go_wp2_with fail
        go_roundw
        case rel =>
          refine ⟨k + 1, us, by omega, by go_num, HR.out.1, fun y => ?_, HU.out, HK.out⟩
          rw [HR.out.2 y, HS.out y]
          constructor
          · exact .inl
          · rintro (h | ⟨h, _⟩)
            · exact h
            · exact absurd h HX.out
        case measure => simp [intOf]; omega
    · have k1 : ¬ (k : Int) < (xs.length : Int) := by omega
      obtain ⟨au, cu, rfl, -, -⟩ := HU.out.shape
      have HE : Hid (xs.take k = xs) := List.take_of_length_le (by omega)
      go_wp2_with fail
      go_ret
      have hR := HR.out
      rw [HE.out] at hR
      unfold ETold
      exact ⟨_, us, rfl, hR, few_of hR.1 (·.t) (fun y hy => by obtain ⟨z, hz, h⟩ := (hR.2 y).1 hy; exact ⟨z, hz, h.2⟩), HU.out, HK.out⟩

set_option maxRecDepth 100000 in
set_option maxHeartbeats 1000000 in
theorem rall_any {w : World} {base R : Nat} {v : Value} {xs : List Lo} (t : Rt w base R v xs) :
    Calls Try.prog 21 #[.pointer (some ⟨R, 0, none⟩)] w fun e w' => ETold e w w' xs.length (fun y => ∃ z ∈ xs, z.t = y) := by
  obtain ⟨ao, cap, rfl, hg⟩ := t.shape
  have HT : Hid (Rt w base R (.slice ao xs.length cap) xs) := t
  have HG : Hid (0 < xs.length → ∃ g, ao = some ⟨g, 0, none⟩) := hg
  have hfew := t.few
  clear t hg
  go_enter Try.func21, Try.ntmps21
  go_wp2_with fail
  go_loopw [3, 4] (fun tv tk wr => ∃ (k : Nat) (us : List (List UInt8)), k ≤ xs.length ∧ tk = .int .i64 (k : Nat) ∧ Rises us ∧ (∀ y, y ∈ us ↔ ∃ z ∈ xs.take k, z.t = y) ∧ Txs wr w.heap.size tv us ∧ Kept (fun _ => True) w wr) (fun _ tk _ => xs.length - (intOf tk).toNat)
  case atStart => exact ⟨0, [], Nat.zero_le _, rfl, by simp [Rises], by simp, Txs.nil _ _, Kept.refl _ _⟩
  case round =>
    obtain ⟨k, us, hk, rfl, hR, hm, hT, hkk⟩ := hrel
    have HR : Hid (Rises us ∧ ∀ y, y ∈ us ↔ ∃ z ∈ xs.take k, z.t = y) := ⟨hR, hm⟩
    have HU : Hid (Txs wr w.heap.size u3 us) := hT
    have HK : Hid (Kept (fun _ => True) w wr) := hkk
    have hul : us.length ≤ 1000 := by
      have := few_of (xs := xs.take k) hR (·.t) (fun y hy => by obtain ⟨z, hz, h⟩ := (hm y).1 hy; exact ⟨z, hz, h⟩)
      simp at this
      omega
    have HTr : Hid (Rt wr base R (.slice ao xs.length cap) xs) := HT.out.all hkk
    clear hR hm hT hkk
    have q0 := HTr.out.cell0.1
    have kb : (k : Int) ≤ 1000 := by omega
    by_cases hlt : k < xs.length
    · obtain ⟨g, rfl⟩ := HG.out (by omega)
      obtain ⟨d0, d1, d2⟩ := own_cells HTr.out.own k hlt
      have HS : Hid ((∀ y, (∃ z ∈ xs.take (k + 1), z.t = y) ↔ (∃ z ∈ xs.take k, z.t = y) ∨ ((xs[k]).t = y))) := fun y => take_some hlt
      have k1 : (k : Int) < (xs.length : Int) := by omega
      have k0 : (0 : Int) ≤ (k : Int) := by omega
      generalize xs[k] = z at *
      obtain ⟨zt, zc, zw⟩ := z
      simp only at d0 d1 d2
      obtain ⟨au, cu, rfl, -, -⟩ := HU.out.shape
      have cp := put_any (HU.out.ns (by omega)) (by omega) zt
      go_wp2_with fail
      refine Calls.mono cp ?_
      rintro e w2 ⟨⟨v2, rfl, t2⟩, k2⟩
      clear cp
      have HU2 : Hid (Txs w2 w.heap.size v2 (ins zt false us)) := row_base t2 HK.out.size
      have HK2 : Hid (Kept (fun _ => True) w w2) := HK.out.trans k2
      clear t2 k2
      go_wp2_with fail
      go_roundw
      case rel =>
        obtain ⟨i1, i2⟩ := ins_false zt us HR.out.1
        refine ⟨k + 1, _, by omega, by go_num, i1, fun y => ?_, HU2.out, HK2.out⟩
        rw [i2 y, HR.out.2 y, HS.out y]
        constructor
        · rintro (h | rfl)
          · exact .inl h
          · exact .inr rfl
        · rintro (h | rfl)
          · exact .inl h
          · exact .inr rfl
      case measure => simp [intOf]; omega
    · have k1 : ¬ (k : Int) < (xs.length : Int) := by omega
      obtain ⟨au, cu, rfl, -, -⟩ := HU.out.shape
      have HE : Hid (xs.take k = xs) := List.take_of_length_le (by omega)
      go_wp2_with fail
      go_ret
      have hR := HR.out
      rw [HE.out] at hR
      unfold ETold
      exact ⟨_, us, rfl, hR, few_of hR.1 (·.t) (fun y hy => by obtain ⟨z, hz, h⟩ := (hR.2 y).1 hy; exact ⟨z, hz, h⟩), HU.out, HK.out⟩

set_option maxRecDepth 100000 in
set_option maxHeartbeats 1000000 in
theorem rwriter_any {w : World} {base R : Nat} {v : Value} {xs : List Lo} (t : Rt w base R v xs) (x : List UInt8) :
    Calls Try.prog 22 #[.pointer (some ⟨R, 0, none⟩), .string ⟨x.toArray⟩] w fun e w' => EWr e w w' xs x := by
  obtain ⟨ao, cap, rfl, hg⟩ := t.shape
  have HT : Hid (Rt w base R (.slice ao xs.length cap) xs) := t
  have HG : Hid (0 < xs.length → ∃ g, ao = some ⟨g, 0, none⟩) := hg
  have hfew := t.few
  clear t hg
  go_enter Try.func22, Try.ntmps22
  go_wp2_with fail
  go_loopw [6] (fun tk wr => ∃ k : Nat, k ≤ xs.length ∧ tk = .int .i64 (k : Nat) ∧ (∀ z ∈ xs.take k, ¬ (z.c = x ∧ z.w = true)) ∧ Kept (fun _ => True) w wr) (fun tk _ => xs.length - (intOf tk).toNat)
  case atStart => exact ⟨0, Nat.zero_le _, rfl, by simp, Kept.refl _ _⟩
  case round =>
    obtain ⟨k, hk, rfl, hm, hkk⟩ := hrel
    have HM : Hid (∀ z ∈ xs.take k, ¬ (z.c = x ∧ z.w = true)) := hm
    have HK : Hid (Kept (fun _ => True) w wr) := hkk
    have HTr : Hid (Rt wr base R (.slice ao xs.length cap) xs) := HT.out.all hkk
    clear hm hkk
    have q0 := HTr.out.cell0.1
    have kb : (k : Int) ≤ 1000 := by omega
    by_cases hlt : k < xs.length
    · obtain ⟨g, rfl⟩ := HG.out (by omega)
      obtain ⟨d0, d1, d2⟩ := own_cells HTr.out.own k hlt
      have HS : Hid (xs.take (k + 1) = xs.take k ++ [xs[k]] ∧ xs[k] ∈ xs) := ⟨List.take_succ_eq_append_getElem hlt, List.getElem_mem hlt⟩
      have k1 : (k : Int) < (xs.length : Int) := by omega
      have k0 : (0 : Int) ≤ (k : Int) := by omega
      generalize xs[k] = z at *
      obtain ⟨zt, zc, zw⟩ := z
      simp only at d0 d1 d2
      by_cases he : zc = x
      · subst he
        cases zw with
        | true =>
          go_wp2_with fail
          go_ret2
          unfold EWr
          exact ⟨zt, true, rfl, .inl ⟨rfl, _, HS.out.2, rfl, rfl, rfl⟩, HK.out⟩
        | false =>
          go_wp2_with fail
          go_roundw
          case rel =>
            refine ⟨k + 1, by omega, by go_num, fun z hz => ?_, HK.out⟩
            rw [HS.out.1, List.mem_append, List.mem_singleton] at hz
            rcases hz with hz | rfl
            · exact HM.out z hz
            · rintro ⟨_, h⟩
              cases h
          case measure => simp [intOf]; omega
      · have hne : (zc == x) = false := beq_eq_false_iff_ne.2 he
        have HX : Hid (zc ≠ x) := he
        clear he
        go_wp2_with fail
        go_roundw
        case rel =>
          refine ⟨k + 1, by omega, by go_num, fun z hz => ?_, HK.out⟩
          rw [HS.out.1, List.mem_append, List.mem_singleton] at hz
          rcases hz with hz | rfl
          · exact HM.out z hz
          · rintro ⟨h, _⟩
            exact HX.out h
        case measure => simp [intOf]; omega
    · have k1 : ¬ (k : Int) < (xs.length : Int) := by omega
      have HE : Hid (xs.take k = xs) := List.take_of_length_le (by omega)
      go_wp2_with fail
      go_ret2
      have hM := HM.out
      rw [HE.out] at hM
      unfold EWr
      exact ⟨[], false, rfl, .inr ⟨rfl, rfl, hM⟩, HK.out⟩

theorem filter_take {xs : List Lo} {k : Nat} (hk : k < xs.length) (p : Lo → Bool) : (xs.take (k + 1)).filter p = (xs.take k).filter p ++ (if p xs[k] = true then [xs[k]] else []) := by
  rw [List.take_succ_eq_append_getElem hk, List.filter_append]
  congr 1
  by_cases h : p xs[k] = true <;> simp [h]
theorem lk3_block {w : World} (t c : List UInt8) (b : Bool) : (w.alloc (.cells #[.string ⟨t.toArray⟩, .string ⟨c.toArray⟩, .bool b] 69)).heap[w.heap.size]? = some (.cells (lk3 ⟨t, c, b⟩).toArray 69 (0, 0)) := heap_alloc_new w _
theorem lk3_one (z : Lo) : ∀ u ∈ lk3 z, u.oneCell' = true := fun u hu => row3_one [z] u (by simpa [row3] using hu)

set_option maxRecDepth 100000 in
set_option maxHeartbeats 1000000 in
theorem rfree_any {w : World} {base R : Nat} {v : Value} {xs : List Lo} (t : Rt w base R v xs) (hb : base ≤ w.heap.size) (x : List UInt8) :
    Calls Try.prog 19 #[.pointer (some ⟨R, 0, none⟩), .string ⟨x.toArray⟩] w fun e w' => EFree e w w' base R v xs x := by
  obtain ⟨ao, cap, rfl, hg⟩ := t.shape
  have HT : Hid (Rt w base R (.slice ao xs.length cap) xs) := t
  have HG : Hid (0 < xs.length → ∃ g, ao = some ⟨g, 0, none⟩) := hg
  have hfew := t.few
  clear t hg
  go_enter Try.func19, Try.ntmps19
  go_wp2_with fail
  go_loopw [5, 6] (fun tv tk wr => ∃ k : Nat, k ≤ xs.length ∧ tk = .int .i64 (k : Nat) ∧ wr.ownsRow w.heap.size 69 3 tv ((xs.take k).filter (fun z => decide (z.t ≠ x))).length (row3 ((xs.take k).filter (fun z => decide (z.t ≠ x)))) ∧ Kept (fun _ => True) w wr) (fun _ tk _ => xs.length - (intOf tk).toNat)
  case atStart => exact ⟨0, Nat.zero_le _, rfl, World.ownsRow_nil _ _ _ _, Kept.refl _ _⟩
  case round =>
    obtain ⟨k, hk, rfl, hO, hkk⟩ := hrel
    have HK : Hid (Kept (fun _ => True) w wr) := hkk
    have HTr : Hid (Rt wr base R (.slice ao xs.length cap) xs) := HT.out.all hkk
    have HLE : Hid (((xs.take k).filter (fun z => decide (z.t ≠ x))).length ≤ 1000) := by
      have := List.length_filter_le (fun z : Lo => decide (z.t ≠ x)) (xs.take k)
      simp only [List.length_take] at this
      show _ ≤ _
      omega
    obtain ⟨au, cu, rfl⟩ := own_shape_any hO
    have q0 := HTr.out.cell0.1
    have kb : (k : Int) ≤ 1000 := by omega
    by_cases hlt : k < xs.length
    · obtain ⟨g, rfl⟩ := HG.out (by omega)
      obtain ⟨d0, d1, d2⟩ := own_cells HTr.out.own k hlt
      have HS : Hid ((xs.take (k + 1)).filter (fun z => decide (z.t ≠ x)) = (xs.take k).filter (fun z => decide (z.t ≠ x)) ++ (if decide (xs[k].t ≠ x) = true then [xs[k]] else [])) := filter_take hlt _
      have k1 : (k : Int) < (xs.length : Int) := by omega
      have k0 : (0 : Int) ≤ (k : Int) := by omega
      generalize (xs.take k).filter (fun z => decide (z.t ≠ x)) = ys at *
      have HO : Hid (wr.ownsRow w.heap.size 69 3 (.slice au ys.length cu) ys.length (row3 ys)) := hO
      clear hO hkk
      generalize xs[k] = z at *
      obtain ⟨zt, zc, zw⟩ := z
      simp only at d0 d1 d2
      by_cases he : zt = x
      · have HS2 : Hid ((xs.take (k + 1)).filter (fun z => decide (z.t ≠ x)) = ys) := by
          show _ = _
          rw [HS.out]
          simp [he]
        subst he
        clear HS
        go_wp2_with fail
        go_roundw
        case rel =>
          refine ⟨k + 1, by omega, by go_num, ?_, HK.out⟩
          rw [HS2.out]
          exact HO.out
        case measure => simp [intOf]; omega
      · have hne : (zt == x) = false := beq_eq_false_iff_ne.2 he
        have HS2 : Hid ((xs.take (k + 1)).filter (fun z => decide (z.t ≠ x)) = ys ++ [⟨zt, zc, zw⟩]) := by
          show _ = _
          rw [HS.out]
          simp [he]
        clear HS he
        go_wp2_with (at_builtin; refine wpList_append_cells Try.underlying39 Try.infoLock cells_lock (by decide) (by decide) rfl (.tmp 27) (.tmp 35) rfl w.heap.size (.slice au ys.length cu) ys.length (row3 ys) rfl (own_keptK HO.out ((Kept.refl (fun _ => True) _).alloc _) (fun _ _ => trivial)) (Nat.le_trans HK.out.size (by simp)) wr.heap.size rfl (lk3 ⟨zt, zc, zw⟩) rfl (lk3_one _) (0, 0) (lk3_block _ _ _) (by have := HLE.out; omega) ?_; intro ao1 cap1 w1 t1 g1 at1; have HO1 : Hid (w1.ownsRow w.heap.size 69 3 (.slice ao1 (ys.length + 1) cap1) (ys.length + 1) (row3 ys ++ lk3 ⟨zt, zc, zw⟩)) := t1; have HK1 : Hid (Kept (fun _ => True) w w1) := (HK.out.alloc _).grown g1 (fun i hi e => by have := (World.ownsRow.lt HO.out i e).1; omega); clear t1 g1 at1)
        go_roundw
        case rel =>
          refine ⟨k + 1, by omega, by go_num, ?_, HK1.out⟩
          rw [HS2.out, row3_append, List.length_append]
          exact HO1.out
        case measure => simp [intOf]; omega
    · have k1 : ¬ (k : Int) < (xs.length : Int) := by omega
      have HE : Hid (xs.take k = xs) := List.take_of_length_le (by omega)
      rw [HE.out] at hO HLE ⊢
      obtain ⟨ys, hys⟩ : ∃ ys, ys = xs.filter (fun z => decide (z.t ≠ x)) := ⟨_, rfl⟩
      have HYS : Hid (ys = xs.filter (fun z => decide (z.t ≠ x))) := hys
      rw [← hys] at hO HLE ⊢
      clear hys
      have HO : Hid (wr.ownsRow w.heap.size 69 3 (.slice au ys.length cu) ys.length (row3 ys)) := hO
      have qf := HTr.out.cell0.2
      clear hO hkk
      go_wp2_with fail
      go_ret
      obtain ⟨r1, r2⟩ := HT.out.swap (HK.out.mono (fun _ _ _ => trivial)) (row_base HO.out hb) HLE.out
      have e1 := HYS.out
      unfold EFree
      rw [← e1]
      refine ⟨_, ?_, r1, r2⟩
      rfl

/-- The cells of a Want. -/
def wk2 (z : List UInt8 × Bool) : List Value := [.string ⟨z.1.toArray⟩, .bool z.2]
def row2 (l : List (List UInt8 × Bool)) : List Value := l.flatMap wk2
theorem row2_get : ∀ (xs : List (List UInt8 × Bool)) (k : Nat) (h : k < xs.length) (j : Nat), j < 2 → (row2 xs)[k * 2 + j]? = (wk2 xs[k])[j]?
  | x :: xs, 0, _, j, hj => by
    show (wk2 x ++ row2 xs)[0 * 2 + j]? = _
    rw [Nat.zero_mul, Nat.zero_add, List.getElem?_append_left (by simpa [wk2] using hj)]
    rfl
  | x :: xs, k + 1, h, j, hj => by
    have := row2_get xs k (by simpa using h) j hj
    show (wk2 x ++ row2 xs)[(k + 1) * 2 + j]? = _
    rw [show (k + 1) * 2 + j = 2 + (k * 2 + j) by omega, List.getElem?_append_right (by simp [wk2])]
    simpa [wk2] using this
theorem wk2_one (z : List UInt8 × Bool) : ∀ u ∈ wk2 z, u.oneCell' = true := by
  intro u hu
  simp [wk2] at hu
  rcases hu with rfl | rfl <;> rfl
theorem wk2_block {w : World} (c : List UInt8) (b : Bool) : (w.alloc (.cells #[.string ⟨c.toArray⟩, .bool b] 67)).heap[w.heap.size]? = some (.cells (wk2 (c, b)).toArray 67 (0, 0)) := heap_alloc_new w _
theorem row2_wn {w : World} {base : Nat} {v : Value} {l : List (List UInt8 × Bool)} (h : w.ownsRow base 67 2 v l.length (row2 l)) : Wn w v l := by
  obtain ⟨ao, cap, rfl⟩ := own_shape_any h
  refine ⟨ao, cap, rfl, fun h0 => ?_⟩
  obtain ⟨g, rfl⟩ : ∃ g, ao = some ⟨g, 0, none⟩ := by
    rcases h.2 with ⟨_, h'⟩ | ⟨g, cap', cur, h', _⟩
    · omega
    · injection h' with h' _ _
      exact ⟨g, h'⟩
  refine ⟨g, 0, rfl, fun i hi => ?_⟩
  rw [Nat.zero_add]
  exact ⟨(h.cellAt (i * 2 + 0) (by omega)).trans (row2_get l i hi 0 (by omega)), (h.cellAt (i * 2 + 1) (by omega)).trans (row2_get l i hi 1 (by omega))⟩

set_option maxRecDepth 100000 in
set_option maxHeartbeats 1000000 in
/-- A row of Wants in the document's own type. -/
theorem in_any {w : World} {v : Value} {l : List (List UInt8 × Bool)} (hw : Wn w v l) (hl : l.length ≤ 1000) :
    Calls Try.prog 18 #[v] w fun e w' => ∃ v', e = .returned v' ∧ w'.ownsRow w.heap.size 67 2 v' l.length (row2 l) ∧ Kept (fun _ => True) w w' := by
  obtain ⟨ao, cap, rfl, hc⟩ := hw
  have HC : Hid (0 < l.length → ∃ b off, ao = some ⟨b, off, none⟩ ∧ ∀ i (h : i < l.length), w.cell? ⟨b, off + i * 2, none⟩ = some (.string ⟨(l[i].1).toArray⟩) ∧ w.cell? ⟨b, off + i * 2 + 1, none⟩ = some (.bool l[i].2)) := hc
  clear hc
  go_enter Try.func18, Try.ntmps18
  go_wp2_with fail
  go_loopw [3, 4] (fun tv tk wr => ∃ k : Nat, k ≤ l.length ∧ tk = .int .i64 (k : Nat) ∧ wr.ownsRow w.heap.size 67 2 tv k (row2 (l.take k)) ∧ Kept (fun _ => True) w wr) (fun _ tk _ => l.length - (intOf tk).toNat)
  case atStart => exact ⟨0, Nat.zero_le _, rfl, World.ownsRow_nil _ _ _ _, Kept.refl _ _⟩
  case round =>
    obtain ⟨k, hk, rfl, hO, hkk⟩ := hrel
    obtain ⟨au, cu, rfl⟩ := own_shape_any hO
    have HO : Hid (wr.ownsRow w.heap.size 67 2 (.slice au k cu) k (row2 (l.take k))) := hO
    have HK : Hid (Kept (fun _ => True) w wr) := hkk
    clear hO hkk
    have kb : (k : Int) ≤ 1000 := by omega
    by_cases hlt : k < l.length
    · obtain ⟨b, off, rfl, hcs⟩ := HC.out (by omega)
      obtain ⟨c0, c1⟩ := hcs k hlt
      have hbl := World.block_lt_of_cell? w _ c0
      have HR : Hid (row2 (l.take (k + 1)) = row2 (l.take k) ++ wk2 l[k]) := by
        show _ = _
        unfold row2
        rw [List.take_succ_eq_append_getElem hlt]
        simp only [List.flatMap_append, List.flatMap_cons, List.flatMap_nil, List.append_nil]
      have k1 : (k : Int) < (l.length : Int) := by omega
      have k0 : (0 : Int) ≤ (k : Int) := by omega
      have r0 : ∀ W, Kept (fun y => y < w.heap.size) wr W → W.cell? ⟨b, off + k * 2, none⟩ = some (.string ⟨(l[k].1).toArray⟩) := fun W kk => cell_kept kk (cell_kept HK.out c0 trivial) hbl
      have r1 : ∀ W, Kept (fun y => y < w.heap.size) wr W → W.cell? ⟨b, off + k * 2 + 1, none⟩ = some (.bool l[k].2) := fun W kk => cell_kept kk (cell_kept HK.out c1 trivial) hbl
      clear hcs c0 c1
      generalize l[k] = z at *
      obtain ⟨c, wt⟩ := z
      simp only at r0 r1
      have kd : Kept (fun y => y < w.heap.size) wr wr.drew := (Kept.refl _ _).drew
      have HOD : Hid (∀ o : Obj, (wr.drew.alloc o).ownsRow w.heap.size 67 2 (.slice au k cu) k (row2 (l.take k))) := fun o => own_keptK HO.out (((Kept.refl (fun _ => True) _).drew).alloc o) (fun _ _ => trivial)
      have HSZ : Hid (∀ o : Obj, w.heap.size ≤ (wr.drew.alloc o).heap.size) := fun o => Nat.le_trans HK.out.size ((((Kept.refl (fun _ => True) wr).drew).alloc o).size)
      go_wp2_with fail
      go_region_held3 (fun W => Kept (fun y => y < w.heap.size) wr W) (first | assumption | exact kd.alloc _) ((refine step_append_cells Try.underlying45 Try.infoRWant cells_rwant (by decide) (by decide) ?_ (.tmp 11) (.tmp 23) ?_ w.heap.size (.slice au k cu) k (row2 (l.take k)) ?_ (HOD.out _) (HSZ.out _) wr.heap.size ?_ (wk2 (c, wt)) rfl (wk2_one _) (0, 0) (wk2_block _ _) (by omega) ?_; rfl; rfl; rfl; rfl; intro ao1 cap1 w1 t1 gr1 at1; have HO1 : Hid (w1.ownsRow w.heap.size 67 2 (.slice ao1 (k + 1) cap1) (k + 1) (row2 (l.take k) ++ wk2 (c, wt))) := t1; have kw : Kept (fun y => y < w.heap.size) wr w1 := (kd.alloc _).grown gr1 (fun j hj e q => by have := (World.ownsRow.lt HO.out j e).1; omega); clear t1 gr1 at1))
      all_goals
        have HK1 : Hid (Kept (fun _ => True) w w1) := HK.out.then kw (fun i hi _ => hi)
        go_wp2_with fail
        go_roundw
        case rel =>
          refine ⟨k + 1, by omega, by go_num, ?_, HK1.out⟩
          rw [HR.out]
          exact HO1.out
        case measure => simp [intOf]; omega
    · have k1 : ¬ (k : Int) < (l.length : Int) := by omega
      obtain rfl : k = l.length := by omega
      have HE : Hid (l.take l.length = l) := List.take_length
      go_wp2_with fail
      go_ret
      have hO := HO.out
      rw [HE.out] at hO
      exact ⟨_, rfl, hO, HK.out⟩

end Go.Proofs.Ytkinpgkckbocpaa
