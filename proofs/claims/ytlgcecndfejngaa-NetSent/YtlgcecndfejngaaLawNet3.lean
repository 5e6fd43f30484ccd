/-
  NetSent: whatever the calls: true, and nothing old is written.
-/
import Derived.Test.YtlgcecndfejngaaNAsks
namespace Go.Proofs.Ytlgcecndfejngaa
open Go.RowKit

/-- The message that was sent as number j. -/
def idMs (j : Nat) : Ms := ⟨1, 2, [UInt8.ofNat j, 9]⟩
/-- How many below s were not taken. -/
def cnt (T : Nat → Bool) : Nat → Nat
  | 0 => 0
  | s + 1 => cnt T s + (if T s = true then 0 else 1)
theorem cnt_le (T : Nat → Bool) (s : Nat) : cnt T s ≤ s := by
  induction s with
  | zero => exact Nat.le_refl _
  | succ s ih => unfold cnt; split <;> omega
theorem cnt_upd_far (T : Nat → Bool) (j s : Nat) (h : s ≤ j) : cnt (upd T j) s = cnt T s := by
  induction s with
  | zero => rfl
  | succ s ih =>
    unfold cnt
    rw [ih (by omega)]
    have : upd T j s = T s := by unfold upd; rw [if_neg (by omega)]
    rw [this]
theorem cnt_upd (T : Nat → Bool) (j s : Nat) (h : j < s) (hT : T j = false) : cnt (upd T j) s + 1 = cnt T s := by
  induction s with
  | zero => omega
  | succ s ih =>
    unfold cnt
    by_cases hj : j = s
    · subst hj
      rw [cnt_upd_far T j j (Nat.le_refl _), hT]
      simp [upd]
    · have e : upd T j s = T s := by unfold upd; rw [if_neg (by omega)]
      rw [e]
      have := ih (by omega)
      omega

/-- Which are under way, and which were taken. -/
structure Inv (s : Nat) (ids : List Nat) (T : Nat → Bool) : Prop where
  mem : ∀ j ∈ ids, j < s ∧ T j = false
  nod : ids.Nodup
  off : ∀ j, s ≤ j → T j = false
  num : cnt T s = ids.length

theorem Inv.send {s : Nat} {ids : List Nat} {T : Nat → Bool} (h : Inv s ids T) : Inv (s + 1) (ids ++ [s]) T := by
  refine ⟨fun j hj => ?_, ?_, fun j hj => h.off j (by omega), ?_⟩
  · rcases List.mem_append.1 hj with hj | hj
    · have := h.mem j hj; exact ⟨by omega, this.2⟩
    · rw [List.mem_singleton.1 hj]; exact ⟨by omega, h.off s (Nat.le_refl _)⟩
  · rw [List.nodup_append]
    refine ⟨h.nod, by simp, fun a ha b hb => ?_⟩
    rw [List.mem_singleton.1 hb]
    have := (h.mem a ha).1
    omega
  · unfold cnt
    rw [h.off s (Nat.le_refl _), h.num]
    simp
theorem Inv.take {s : Nat} {ids : List Nat} {T : Nat → Bool} (h : Inv s ids T) {q j : Nat} (hq : ids[q]? = some j) : Inv s (ids.eraseIdx q) (upd T j) := by
  have hql : q < ids.length := (List.getElem?_eq_some_iff.1 hq).1
  have hj : ids[q] = j := (List.getElem?_eq_some_iff.1 hq).2
  have hm := h.mem j (hj ▸ List.getElem_mem hql)
  refine ⟨fun x hx => ?_, List.Nodup.sublist (List.eraseIdx_sublist _ _) h.nod, fun x hx => ?_, ?_⟩
  · have hxi := List.mem_of_mem_eraseIdx hx
    refine ⟨(h.mem x hxi).1, ?_⟩
    have hne : x ≠ j := by
      intro e
      subst e
      obtain ⟨i, hi, hne, he⟩ := List.mem_eraseIdx_iff_getElem.1 hx
      have hpw := List.pairwise_iff_getElem.1 h.nod
      rcases Nat.lt_or_gt_of_ne hne with hlt | hlt
      · exact hpw i q hi hql hlt (he.trans hj.symm)
      · exact hpw q i hql hi hlt (hj.trans he.symm)
    unfold upd
    rw [if_neg hne]
    exact (h.mem x hxi).2
  · unfold upd
    rw [if_neg (by omega)]
    exact h.off x hx
  · have := cnt_upd T j s hm.1 hm.2
    rw [List.length_eraseIdx_of_lt hql]
    have := h.num
    omega

theorem erase_mapf {α β : Type} (f : α → β) (l : List α) (q : Nat) : (l.eraseIdx q).map f = (l.map f).eraseIdx q := by
  induction l generalizing q with
  | nil => simp
  | cons x l ih => cases q with
    | zero => rfl
    | succ q => simp [ih]
/-- The message at q. -/
theorem pick_at {ps : List (Ms × Value)} {ids : List Nat} {q : Nat} (h : ps.map Prod.fst = ids.map idMs) (hq : q < ids.length) : ∃ j u, ids[q]? = some j ∧ ps[q]? = some (idMs j, u) ∧ (ps.eraseIdx q).map Prod.fst = (ids.eraseIdx q).map idMs := by
  have hl : ps.length = ids.length := by simpa using congrArg List.length h
  have hg : (ps[q]'(by omega)).1 = idMs ids[q] := by
    have := congrArg (fun l => l[q]?) h
    simpa [List.getElem?_eq_getElem hq, List.getElem?_eq_getElem (show q < ps.length by omega)] using this
  refine ⟨ids[q], (ps[q]'(by omega)).2, List.getElem?_eq_getElem hq, by rw [List.getElem?_eq_getElem (by omega), ← hg], ?_⟩
  rw [erase_mapf, h, ← erase_mapf]

set_option maxRecDepth 100000 in
set_option maxHeartbeats 2000000 in
theorem netSent_any {w : World} {a : Option Addr} {na ca : Nat} (ha : IsAsks w a na) :
    Calls Try.prog 5 #[.slice a na ca] w fun e w' => e = .returned (.bool true) ∧ Kept (fun _ => True) w w' := by
  have HA : Hid (IsAsks w a na) := ha
  clear ha
  go_enter Try.func5, Try.ntmps5
  go_wp2_with fail
  refine Calls.mono (new_ok 3 (by decide) (by decide)) ?_
  rintro e w1 ⟨rfl, d1, k1⟩
  have m1 : Hid (Own1 w w1 w.heap.size (fun x => x = w.heap.size) (.slice none 0 0) [] 3 0) := Own1.new d1 k1
  have L1 : Hid (w.heap.size < w1.heap.size) := d1.lt
  clear d1 k1
  go_wp2_with ((with_reducible refine w_alloc (d := some 6) ?_); intro w2 a2 k2)
  have m2 : Hid (Own1 w w2 w.heap.size (fun x => x = w.heap.size) (.slice none 0 0) [] 3 0) := m1.out.ahead k2
  have A2 : Hid (Ar w2 w1.heap.size (fun _ => false)) := a2
  have N2 : Hid (¬ (fun x => x = w.heap.size) w1.heap.size) := by show ¬ _; have := L1.out; simp; omega
  have LA : Hid (w.heap.size ≤ w1.heap.size) := by have := L1.out; show _ ≤ _; omega
  clear a2 k2 m1 L1
  generalize (fun x => x = w.heap.size) = F1 at *
  generalize w1.heap.size = A at *
  obtain ⟨B, hB⟩ : ∃ B, B = w.heap.size := ⟨_, rfl⟩
  rw [← hB] at m2 ⊢
  clear hB
  go_loopw [5, 7] (fun sn t wr => ∃ (i s : Nat) (F : Nat → Prop) (v : Value) (ps : List (Ms × Value)) (ids : List Nat) (T : Nat → Bool), i ≤ 150 ∧ s ≤ i ∧ sn = .int .i64 s ∧ t = .int .i64 i ∧ Own1 w wr B F v ps 3 s ∧ ps.map Prod.fst = ids.map idMs ∧ Inv s ids T ∧ Ar wr A T ∧ ¬ F A) (fun _ t _ => 150 - (intOf t).toNat)
  case atStart => exact ⟨0, 0, F1, _, [], [], _, Nat.zero_le _, Nat.le_refl _, rfl, rfl, m2.out, rfl, ⟨by simp, by simp, by simp, rfl⟩, A2.out, N2.out⟩
  case round =>
    clear m2 A2 N2
    obtain ⟨i, s, F, v, ps, ids, T, hi, hsi, rfl, rfl, hm, hps, hv, har, hnA⟩ := hrel
    have m : Hid (Own1 w wr B F v ps 3 s) := hm
    have HP : Hid (ps.map Prod.fst = ids.map idMs) := hps
    have HV : Hid (Inv s ids T) := hv
    have HR : Hid (Ar wr A T) := har
    have NA : Hid (¬ F A) := hnA
    have hlen : Hid (ps.length = ids.length) := by show _ = _; simpa using congrArg List.length hps
    have hl2 : Hid (ids.length ≤ s) := by show _ ≤ _; rw [← hv.num]; exact cnt_le T s
    clear hm hps hv har hnA
    by_cases hlt : i < na ∧ i < 150
    · obtain ⟨hl1, hl3⟩ := hlt
      obtain ⟨ab, ao, x, rfl, hab, x0, -, -, x3, -, hI, -⟩ := HA.out i hl1
      have q0 : wr.cell? ⟨ab, ao + i * 5, none⟩ = some (.int .i64 x.kind) := (kept_cell m.out.kept hab trivial).trans x0
      have q3 : wr.cell? ⟨ab, ao + i * 5 + 3, none⟩ = some (.int .i64 x.n) := (kept_cell m.out.kept hab trivial).trans x3
      have HI : Hid (I64 x.n) := hI
      have g1 : (i : Int) < (na : Int) := by omega
      have g2 : (i : Int) < 150 := by omega
      have g0 : (0 : Int) ≤ (i : Int) := by omega
      generalize x.kind = kind at *
      generalize x.n = n at *
      clear x0 x3 hI
      by_cases hk : kind = 1
      · subst hk
        obtain ⟨b, hb⟩ : ∃ b : UInt8, b = UInt8.ofNat s := ⟨_, rfl⟩
        have hw8 : IntKind.u8.wrap (s : Int) = (b.toNat : Int) := by rw [hb]; simp [IntKind.wrap, IntKind.bits, IntKind.signed]
        have hh : Has (wr.alloc (.cells #[.int .u8 (b.toNat : Int), .int .u8 9] 5)) (some ⟨wr.heap.size, 0, none⟩) [b, 9] := has_row (bs := [b, 9]) (heap_alloc_new wr (.cells (cells [b, 9]).toArray 5))
        have k2 : Kept (fun _ => True) wr (wr.alloc (.cells #[.int .u8 (b.toNat : Int), .int .u8 9] 5)) := (Kept.refl _ _).alloc _
        have m2 : Hid (Own1 w (wr.alloc (.cells #[.int .u8 (b.toNat : Int), .int .u8 9] 5)) B F v ps 3 s) := m.out.ahead k2
        have R2 : Hid (Ar (wr.alloc (.cells #[.int .u8 (b.toNat : Int), .int .u8 9] 5)) A T) := HR.out.kept k2 trivial
        have c := send_any (cap := 2) m2.out.net 1 2 (by decide) (by decide) (by have := hlen.out; have := hl2.out; omega) (by simp [IntKind.wrap, IntKind.bits, IntKind.signed]; omega) hh (by simp) (by simp)
        have HB : Hid (b = UInt8.ofNat s) := hb
        clear hh k2 hb m HR
        generalize hy : b.toNat = y at *
        go_wp2_with fail
        refine Calls.mono c ?_
        rintro e w3 ⟨rfl, F', v', u, s3⟩
        clear c hw8
        have m3 : Hid (Own1 w w3 B F' v' (ps ++ [(⟨1, 2, [b, 9]⟩, u)]) 3 (s + 1)) := m2.out.step s3
        have R3 : Hid (Ar w3 A T) := R2.out.kept s3.kept NA.out
        have N3 : Hid (¬ F' A) := s3.not R2.out.lt NA.out
        clear s3 m2 R2
        go_wp2
        go_roundw
        case rel => exact ⟨i + 1, s + 1, F', v', _, ids ++ [s], T, by omega, by omega, by go_num, by go_num, by have := m3.out; exact_mod_cast this, by rw [List.map_append, List.map_append, HP.out, HB.out]; rfl, HV.out.send, R3.out, N3.out⟩
        case measure => simp [intOf]; omega
      · by_cases h0 : ids.length = 0
        · obtain rfl : ps = [] := List.eq_nil_of_length_eq_zero (by have := hlen.out; omega)
          have c := take_empty m.out.net n
          go_wp2_with fail
          refine Calls.mono c ?_
          rintro e w3 ⟨rfl, k3⟩
          clear c
          have k4 : Kept (fun _ => True) wr (w3.alloc (.cells #[.int .i64 0, .int .i64 0, .slice none 0 0] 30)) := k3.alloc _
          have m4 : Hid (Own1 w _ B F v [] 3 s) := m.out.ahead k4
          have R4 : Hid (Ar _ A T) := HR.out.kept k4 trivial
          clear k3 k4 m HR q0 q3
          go_wp2
          go_roundw
          case rel => exact ⟨i + 1, s, F, v, [], ids, T, by omega, by omega, rfl, by go_num, m4.out, HP.out, HV.out, R4.out, NA.out⟩
          case measure => simp [intOf]; omega
        · have hq : spot n ps.length < ids.length := by rw [← hlen.out]; exact spot_lt n (by have := hlen.out; omega)
          obtain ⟨j, u, hj, hp, hps⟩ := pick_at HP.out hq
          have hmj := HV.out.mem j (List.mem_of_getElem? hj)
          have V2 : Hid (Inv s (ids.eraseIdx (spot n ps.length)) (upd T j)) := HV.out.take hj
          have P2 : Hid ((ps.eraseIdx (spot n ps.length)).map Prod.fst = (ids.eraseIdx (spot n ps.length)).map idMs) := hps
          have c := take_any (p := (⟨1, 2, [UInt8.ofNat j, 9]⟩, u)) m.out.net n HI.out hp
          have hTj : Hid (T j = false) := hmj.2
          have hjs : ¬ ((s : Int) ≤ (j : Int)) := by have := hmj.1; omega
          have hj2 : (j : Int) < 200 := by have := hmj.1; omega
          have hj0 : (0 : Int) ≤ (j : Int) := by omega
          have hj3 : Hid (j < 200) := by show _ < _; have := hmj.1; omega
          have hj4 : IntKind.i64.wrap (j : Int) = (j : Int) := by simp [IntKind.wrap, IntKind.bits, IntKind.signed]; omega
          have E8 : Hid ((UInt8.ofNat j).toNat = j) := by show _ = _; simp; have := hmj.1; omega
          clear hq hj hp hps hmj HP HV
          generalize spot n ps.length = q at *
          go_wp2_with fail
          refine Calls.mono c ?_
          rintro e w3 ⟨bo, bc, v3, rfl, o3, s3⟩
          clear c q0 q3
          obtain ⟨g, cap, hv, -, -⟩ := o3.form (by simp)
          injection hv with e1 e2 e3
          subst e1 e3
          clear e2
          have k4 : Kept (fun _ => True) w3 (w3.alloc (.cells #[.int .i64 1, .int .i64 2, .slice (some ⟨g, 0, none⟩) 2 bc] 30)) := (Kept.refl _ _).alloc _
          have m4 : Hid (Own1 w (w3.alloc (.cells #[.int .i64 1, .int .i64 2, .slice (some ⟨g, 0, none⟩) 2 bc] 30)) B F v3 (ps.eraseIdx q) 3 s) := (m.out.step s3).ahead k4
          have R4 : Hid (Ar (w3.alloc (.cells #[.int .i64 1, .int .i64 2, .slice (some ⟨g, 0, none⟩) 2 bc] 30)) A T) := (HR.out.kept s3.kept NA.out).kept k4 trivial
          have o4 := own_kept o3 k4 (fun _ _ => trivial)
          have b0 : (w3.alloc (.cells #[.int .i64 1, .int .i64 2, .slice (some ⟨g, 0, none⟩) 2 bc] 30)).cell? ⟨g, 0, none⟩ = some (.int .u8 (j : Int)) := (o4.cellAt 0 (by simp)).trans (by show some (Value.int .u8 ((UInt8.ofNat j).toNat : Int)) = _; rw [E8.out])
          have b1 : (w3.alloc (.cells #[.int .i64 1, .int .i64 2, .slice (some ⟨g, 0, none⟩) 2 bc] 30)).cell? ⟨g, 1, none⟩ = some (.int .u8 9) := o4.cellAt 1 (by simp)
          have t0 : (w3.alloc (.cells #[.int .i64 1, .int .i64 2, .slice (some ⟨g, 0, none⟩) 2 bc] 30)).cell? ⟨A, j, none⟩ = some (.bool false) := (R4.out.cell j hj3.out).trans (by rw [hTj.out])
          have t1 : (w3.alloc (.cells #[.int .i64 1, .int .i64 2, .slice (some ⟨g, 0, none⟩) 2 bc] 30)).frozen? ⟨A, j, none⟩ = false := R4.out.free j
          have k5 : Kept (· ≠ A) (w3.alloc (.cells #[.int .i64 1, .int .i64 2, .slice (some ⟨g, 0, none⟩) 2 bc] 30)) ((w3.alloc (.cells #[.int .i64 1, .int .i64 2, .slice (some ⟨g, 0, none⟩) 2 bc] 30)).setCell ⟨A, j, none⟩ (.bool true)) := (Kept.refl _ _).setCell (by simp) _
          have m5 : Hid (Own1 w _ B F v3 (ps.eraseIdx q) 3 s) := m4.out.beside k5 (fun y hy e => NA.out (e ▸ hy)) (fun y hy => by have := LA.out; show y ≠ A; omega)
          have R5 : Hid (Ar _ A (upd T j)) := R4.out.set j
          clear o3 s3 o4 k4 k5 m4 R4 m HR
          go_wp2
          go_roundw
          case rel => exact ⟨i + 1, s, F, v3, _, _, upd T j, by omega, by omega, rfl, by go_num, m5.out, P2.out, V2.out, R5.out, NA.out⟩
          case measure => simp [intOf]; omega
    · have hcond : ¬ ((i : Int) < (na : Int)) ∨ ((i : Int) < (na : Int) ∧ ¬ ((i : Int) < 150)) := by omega
      obtain ⟨w5, rfl⟩ : ∃ w5, w5 = wr := ⟨_, rfl⟩
      rcases hcond with g1 | ⟨g1, g2⟩
      all_goals
        go_wp2
        go_loopw [10, 11] (fun lf t wr => ∃ k : Nat, k ≤ s ∧ lf = .int .i64 (cnt T k : Nat) ∧ t = .int .i64 k ∧ wr = w5) (fun _ t _ => s - (intOf t).toNat)
        case atStart => exact ⟨0, Nat.zero_le _, rfl, rfl, rfl⟩
        case round =>
          obtain ⟨k, hk, rfl, rfl, rfl⟩ := hrel
          by_cases hlt2 : k < s
          · have t0 : wr.cell? ⟨A, k, none⟩ = some (.bool (T k)) := HR.out.cell k (by omega)
            have hc := cnt_le T k
            have f1 : (k : Int) < (s : Int) := by omega
            have f2 : (k : Int) < 200 := by omega
            have f0 : (0 : Int) ≤ (k : Int) := by omega
            have f3 : IntKind.i64.wrap ((cnt T k : Nat) + 1 : Int) = (cnt T k : Nat) + 1 := by simp [IntKind.wrap, IntKind.bits, IntKind.signed]; omega
            have HC : Hid (cnt T (k + 1) = cnt T k + (if T k = true then 0 else 1)) := rfl
            cases hT : T k with
            | true =>
              rw [hT] at t0 HC
              go_wp2
              go_roundw
              case rel => exact ⟨k + 1, by omega, by rw [HC.out]; simp, by go_num, trivial⟩
              case measure => simp [intOf]; omega
            | false =>
              rw [hT] at t0 HC
              go_wp2
              go_roundw
              case rel => exact ⟨k + 1, by omega, by rw [HC.out]; simp, by go_num, trivial⟩
              case measure => simp [intOf]; omega
          · have f1 : ¬ ((k : Int) < (s : Int)) := by omega
            obtain rfl : k = s := by omega
            have c := pending_any m.out.net
            rw [hlen.out, ← HV.out.num] at c
            go_wp2_with fail
            refine Calls.mono c ?_
            rintro e w6 ⟨rfl, L, qs, hL⟩
            clear c
            have m6 : Hid (Own1 w w6 B F v ps 3 k) := m.out.ahead hL.kept
            clear hL m HR
            have c := sent_any m6.out.net.nt
            go_wp2_with fail
            refine Calls.mono c ?_
            rintro e w6 ⟨rfl, rfl⟩
            clear c
            go_wp2_with fail
            refine Calls.mono (known_any _) ?_
            rintro e w7 ⟨rfl, k7⟩
            go_wp2
            go_ret
            exact ⟨rfl, m6.out.kept.trans k7⟩

end Go.Proofs.Ytlgcecndfejngaa
