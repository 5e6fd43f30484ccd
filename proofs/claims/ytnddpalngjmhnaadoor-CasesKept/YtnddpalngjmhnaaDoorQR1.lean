/-
  The document's takes, Number, Name, index, truth.
-/
import Derived.Test.YtnddpalngjmhnaaDoorQ9
import Derived.Deep.CutRange
namespace Go.Proofs.YtnddpalngjmhnaaDoor
open Go.RowKit

def opWords : List (List UInt8) := [[110, 111, 116], [97, 110, 100], [111, 114], [108, 116], [101, 113], [97, 100, 100], [115, 117, 98]]
set_option maxHeartbeats 1000000 in
theorem takes_any {w : World} (x : List UInt8) :
    Calls Tryd.prog 69 #[.string ⟨x.toArray⟩] w fun e w' => e = .returned (.int .i64 (ar (opOf x) : Nat)) ∧ w' = w := by
  by_cases hx : x ∈ opWords
  · simp only [opWords, List.mem_cons, List.not_mem_nil, or_false] at hx
    rcases hx with rfl | rfl | rfl | rfl | rfl | rfl | rfl
    all_goals
      go_enter Tryd.func69, Tryd.ntmps69
      go_wp2
      go_ret
      exact ⟨rfl, rfl⟩
  · have e : opOf x = 0 := by
      simp only [opWords, List.mem_cons, List.not_mem_nil, or_false, not_or] at hx
      simp [opOf, hx]
    rw [e]
    simp only [opWords, List.mem_cons, List.not_mem_nil, or_false, not_or] at hx
    obtain ⟨n1, n2, n3, n4, n5, n6, n7⟩ := hx
    replace n1 := beq_eq_false_iff_ne.2 n1
    replace n2 := beq_eq_false_iff_ne.2 n2
    replace n3 := beq_eq_false_iff_ne.2 n3
    replace n4 := beq_eq_false_iff_ne.2 n4
    replace n5 := beq_eq_false_iff_ne.2 n5
    replace n6 := beq_eq_false_iff_ne.2 n6
    replace n7 := beq_eq_false_iff_ne.2 n7
    clear e
    go_enter Tryd.func69, Tryd.ntmps69
    go_wp2
    go_ret
    exact ⟨rfl, rfl⟩

set_option maxHeartbeats 400000 in
theorem rtruth_any {w : World} (b : Bool) :
    Calls Tryd.prog 75 #[.bool b] w fun e w' => e = .returned (.int .i64 (tr b)) ∧ w' = w := by
  cases b
  all_goals
    go_enter Tryd.func75, Tryd.ntmps75
    go_wp2
    go_ret
    exact ⟨rfl, rfl⟩

set_option maxRecDepth 100000 in
set_option maxHeartbeats 1000000 in
theorem rindex_any {w : World} {v : Value} {ns : List (List UInt8)} (h : Ns w v ns) (x : List UInt8) :
    Calls Tryd.prog 71 #[v, .string ⟨x.toArray⟩] w fun e w' => e = .returned (.int .i64 (ix ns x)) ∧ w' = w := by
  obtain ⟨ao, cap, rfl, hl, h⟩ := h
  have H : Hid (0 < ns.length → ∃ b off, ao = some ⟨b, off, none⟩ ∧ b < w.heap.size ∧ ∀ i (h : i < ns.length), w.cell? ⟨b, off + i, none⟩ = some (.string ⟨(ns[i]).toArray⟩)) := h
  clear h
  obtain ⟨Z, hZ⟩ : ∃ Z, Z = ix ns x := ⟨_, rfl⟩
  have HZ : Hid (Z = ix ns x) := hZ
  rw [← hZ]
  clear hZ
  go_enter Tryd.func71, Tryd.ntmps71
  go_wp2_with fail
  go_loop [5] (fun t => ∃ k : Nat, k ≤ ns.length ∧ t = .int .i64 k ∧ ∀ y ∈ ns.take k, y ≠ x) (fun t => ns.length - (intOf t).toNat)
  case atStart => exact ⟨0, Nat.zero_le _, rfl, by simp⟩
  case round =>
    obtain ⟨k, hk, rfl, hn⟩ := hrel
    have HN : Hid (∀ y ∈ ns.take k, y ≠ x) := hn
    clear hn
    by_cases hlt : k < ns.length
    · obtain ⟨b, off, rfl, hb, hc⟩ := H.out (by omega)
      have q1 := hc k hlt
      have HS : Hid (ns.take (k + 1) = ns.take k ++ [ns[k]]) := List.take_succ_eq_append_getElem hlt
      have HP : Hid (ns[k] = x → ix ns x = k) := fun he => by
        obtain ⟨h1, h2⟩ := idx_of ns x k hlt he HN.out
        rw [ix, if_pos h1, h2]
      have i1 : (k : Int) < (ns.length : Int) := by omega
      have i0 : (0 : Int) ≤ (k : Int) := by omega
      clear hc hb
      generalize ns[k] = y at *
      by_cases he : y = x
      · subst he
        have e1 : Hid (Z = k) := HZ.out.trans (HP.out rfl)
        go_wp2_with fail
        go_ret
        exact ⟨by rw [e1.out]; rfl, rfl⟩
      · have hne : (y == x) = false := beq_eq_false_iff_ne.2 he
        have HE : Hid (y ≠ x) := he
        clear he
        go_wp2_with fail
        go_round
        case rel =>
          refine ⟨k + 1, by omega, by go_num, fun z hz => ?_⟩
          rw [HS.out] at hz
          rcases List.mem_append.1 hz with hz | hz
          · exact HN.out z hz
          · rw [List.mem_singleton.1 hz]; exact HE.out
        case measure => simp [intOf]; omega
    · have i1 : ¬ ((k : Int) < (ns.length : Int)) := by omega
      have e1 : ix ns x = -1 := by
        rw [ix, if_neg]
        intro hx
        refine HN.out x ?_ rfl
        rw [List.take_of_length_le (by omega)]
        exact hx
      replace e1 : Hid (Z = -1) := HZ.out.trans e1
      go_wp2_with fail
      go_ret
      exact ⟨by rw [e1.out]; rfl, rfl⟩

theorem take_all {l : List UInt8} {f : UInt8 → Bool} {i : Nat} (hi : i < l.length) (h : (l.take i).all f = true) (hf : f l[i] = true) : (l.take (i + 1)).all f = true := by
  rw [List.take_succ_eq_append_getElem hi, List.all_append, h]
  simp [hf]
theorem not_all_at {l : List UInt8} {f : UInt8 → Bool} {i : Nat} (hi : i < l.length) (hf : f l[i] = false) : l.all f = false := by
  rw [← Bool.not_eq_true, List.all_eq_true]
  intro h
  rw [h l[i] (List.getElem_mem hi)] at hf
  cases hf

set_option maxRecDepth 100000 in
set_option maxHeartbeats 1000000 in
theorem rname_any {w : World} (x : List UInt8) (hxl : x.length ≤ 281474976710656) :
    Calls Tryd.prog 60 #[.string ⟨x.toArray⟩] w fun e w' => e = .returned (.bool (isName x)) ∧ w' = w := by
  have ct := fun W => takes_any (w := W) x
  obtain ⟨C, hC⟩ : ∃ C, C = isName x := ⟨_, rfl⟩
  have HC : Hid (C = isName x) := hC
  rw [← hC]
  clear hC
  go_enter Tryd.func60, Tryd.ntmps60
  go_wp2_with fail
  go_loop [3] (fun t => ∃ k : Nat, k ≤ x.length ∧ t = .int .i64 k ∧ (x.take k).all isL = true) (fun t => x.length - (intOf t).toNat)
  case atStart => exact ⟨0, Nat.zero_le _, rfl, by simp⟩
  case round =>
    obtain ⟨k, hk, rfl, ha⟩ := hrel
    have HA : Hid ((x.take k).all isL = true) := ha
    clear ha
    by_cases hlt : k < x.length
    · have hx := at_text x k hlt (by simpa [ByteArray.size] using hlt)
      have i1 : (k : Int) < (x.length : Int) := by omega
      have i0 : (0 : Int) ≤ (k : Int) := by omega
      have HT : Hid (isL x[k] = true → (x.take (k + 1)).all isL = true) := fun h => take_all hlt HA.out h
      have HF : Hid (isL x[k] = false → isName x = false) := fun h => by simp [isName, not_all_at hlt h]
      generalize x[k] = c at *
      by_cases d1 : c.toNat < 97
      · have d1' : (c.toNat : Int) < 97 := by omega
        have e1 : Hid (C = false) := HC.out.trans (HF.out (by simp [isL]; omega))
        go_wp2_with fail
        go_ret
        exact ⟨by rw [e1.out]; rfl, rfl⟩
      · have d1' : ¬ (c.toNat : Int) < 97 := by omega
        by_cases d2 : 122 < c.toNat
        · have d2' : (122 : Int) < (c.toNat : Int) := by omega
          have e1 : Hid (C = false) := HC.out.trans (HF.out (by simp [isL]; omega))
          go_wp2_with fail
          go_ret
          exact ⟨by rw [e1.out]; rfl, rfl⟩
        · have d2' : ¬ (122 : Int) < (c.toNat : Int) := by omega
          have HL : Hid (isL c = true) := by show _ = _; simp [isL]; omega
          go_wp2_with fail
          go_round
          case rel => exact ⟨k + 1, by omega, by go_num, HT.out HL.out⟩
          case measure => simp [intOf]; omega
    · have i1 : ¬ (k : Int) < (x.length : Int) := by omega
      have hall : x.all isL = true := by have := HA.out; rwa [List.take_of_length_le (by omega)] at this
      have hop := opOf_cases x
      by_cases h0 : opOf x = 0
      · rw [h0] at ct
        by_cases hT : isT x = true
        · have e1 : Hid (C = false) := by show C = false; rw [HC.out]; simp [isName, hT]
          simp only [isT, Bool.or_eq_true, decide_eq_true_eq] at hT
          clear hop hall
          rcases hT with ((rfl | rfl) | rfl) | rfl
          all_goals
            go_wp2_with fail
            refine Calls.mono (ct _) ?_
            rintro e w1 ⟨rfl, rfl⟩
            go_wp2_with fail
            go_ret
            exact ⟨by rw [e1.out]; rfl, rfl⟩
        · have e1 : Hid (C = (decide (1 ≤ x.length) && decide (x.length ≤ 12))) := by show C = _; rw [HC.out]; simp [isName, hT, hall, h0]
          simp only [isT, Bool.or_eq_true, decide_eq_true_eq, not_or] at hT
          obtain ⟨⟨⟨t1, t2⟩, t3⟩, t4⟩ := hT
          replace t1 := beq_eq_false_iff_ne.2 t1
          replace t2 := beq_eq_false_iff_ne.2 t2
          replace t3 := beq_eq_false_iff_ne.2 t3
          replace t4 := beq_eq_false_iff_ne.2 t4
          clear hop hall h0
          by_cases l1 : 1 ≤ x.length
          · have l1' : (1 : Int) ≤ (x.length : Int) := by omega
            by_cases l2 : x.length ≤ 12
            · have l2' : (x.length : Int) ≤ 12 := by omega
              go_wp2_with fail
              refine Calls.mono (ct _) ?_
              rintro e w1 ⟨rfl, rfl⟩
              go_wp2_with fail
              go_ret
              exact ⟨by rw [e1.out]; simp [l1, l2], rfl⟩
            · have l2' : ¬ (x.length : Int) ≤ 12 := by omega
              go_wp2_with fail
              refine Calls.mono (ct _) ?_
              rintro e w1 ⟨rfl, rfl⟩
              go_wp2_with fail
              go_ret
              exact ⟨by rw [e1.out]; simp [l2]; omega, rfl⟩
          · have l1' : ¬ (1 : Int) ≤ (x.length : Int) := by omega
            go_wp2_with fail
            refine Calls.mono (ct _) ?_
            rintro e w1 ⟨rfl, rfl⟩
            go_wp2_with fail
            go_ret
            exact ⟨by rw [e1.out]; simp [l1], rfl⟩
      · have e1 : Hid (C = false) := by show C = false; rw [HC.out]; simp [isName, h0]
        have har : 0 < ar (opOf x) := by unfold ar; split <;> (try split) <;> omega
        clear hall hop h0
        generalize ar (opOf x) = r at *
        have har' : (0 : Int) < (r : Int) := by omega
        go_wp2_with fail
        refine Calls.mono (ct _) ?_
        rintro e w1 ⟨rfl, rfl⟩
        go_wp2_with fail
        go_ret
        exact ⟨by rw [e1.out]; rfl, rfl⟩

theorem mag_drop (x : List UInt8) (h : 0 < x.length) : mag x = if x[0] = 45 then x.drop 1 else x := by
  cases x with
  | nil => simp at h
  | cons c r =>
    unfold mag
    by_cases h : c = 45 <;> simp [h]
theorem num_drop (x : List UInt8) (h : 0 < x.length) : num x = if x[0] = 45 then -(digs (mag x) : Int) else (digs (mag x) : Int) := by
  cases x with
  | nil => simp at h
  | cons c r =>
    unfold num
    by_cases h : c = 45 <;> simp [h]

set_option maxRecDepth 100000 in
set_option maxHeartbeats 2000000 in
theorem number_any {w : World} (x : List UInt8) (hxl : x.length ≤ 281474976710656) :
    Calls Tryd.prog 70 #[.string ⟨x.toArray⟩] w fun e w' => e = .returned (.tuple #[.int .i64 (if isNum x = true then num x else 0), .bool (isNum x)]) ∧ w' = w := by
  obtain ⟨C, hC⟩ : ∃ C, C = isNum x := ⟨_, rfl⟩
  obtain ⟨Z, hZ⟩ : ∃ Z, Z = if isNum x = true then num x else 0 := ⟨_, rfl⟩
  have HC : Hid (C = isNum x) := hC
  have HZ : Hid (Z = if isNum x = true then num x else 0) := hZ
  rw [← hZ, ← hC]
  clear hZ hC
  have HNO : Hid (isNum x = false → C = false ∧ Z = 0) := fun h => ⟨HC.out.trans h, by rw [HZ.out, h]; rfl⟩
  by_cases h0 : x = []
  · subst h0
    have e1 : Hid (C = false ∧ Z = 0) := HNO.out rfl
    go_enter Tryd.func70, Tryd.ntmps70
    go_wp2_with fail
    go_ret2
    exact ⟨by rw [e1.out.1, e1.out.2]; rfl, rfl⟩
  · have hpos : 0 < x.length := List.length_pos_iff.2 h0
    have hx := at_text x 0 hpos (by simpa [ByteArray.size] using hpos)
    have hne : (x == ([] : List UInt8)) = false := beq_eq_false_iff_ne.2 h0
    have HM : Hid (mag x = if x[0] = 45 then x.drop 1 else x) := mag_drop x hpos
    have hcut : ∀ w0, (Instr.slice 9 (.string ⟨x.toArray⟩) (some (.int .i64 1)) none none).run Tryd.prog w0 = .ok (.string ⟨(x.drop 1).toArray⟩) w0 := by
      intro w0
      rw [run_slice_string_from_if (P := Tryd.prog) w0 9 ⟨x.toArray⟩ .i64 1 Tryd.underlying9, if_pos ⟨by omega, by simp [ByteArray.size]; omega⟩]
      congr 2
      apply ByteArray.ext
      have hz : (⟨x.toArray⟩ : ByteArray).size = x.length := by simp [ByteArray.size]
      simp [hz, List.take_of_length_le]
    have hml : (mag x).length ≤ 281474976710656 := by rw [HM.out]; split <;> (try rw [List.length_drop]) <;> omega
    have HNM : Hid (isNum x = ((mag x).all isD && decide (1 ≤ (mag x).length) && decide ((mag x).length ≤ 4))) := by show _ = _; rfl
    have HNU : Hid (num x = if x[0] = 45 then -(digs (mag x) : Int) else (digs (mag x) : Int)) := num_drop x hpos
    have hx0 : (0 : Int) < (x.length : Int) := by omega
    clear h0 hxl
    generalize mag x = m at *
    generalize x.drop 1 = xd at *
    generalize x[0] = c at *
    obtain ⟨mn, hmn⟩ : ∃ mn : Bool, mn = ((c.toNat : Int) == 45) := ⟨_, rfl⟩
    have HMN : Hid (mn = true ↔ c = 45) := by
      show _ ↔ _
      rw [hmn]
      constructor
      · intro h
        have : (c.toNat : Int) = 45 := by simpa using h
        exact UInt8.toNat_inj.1 (by simpa using (by omega : c.toNat = 45))
      · rintro rfl
        rfl
    replace hmn := hmn.symm
    go_enter Tryd.func70, Tryd.ntmps70
    go_upto_if 14 with fail
    go_cut [0] from 15 to 16 (fun t0 wx => t0 = .string ⟨m.toArray⟩ ∧ w = wx)
    case first =>
      cases mn with
      | true =>
        have e1 : Hid (m = xd) := by show _ = _; rw [HM.out, if_pos (HMN.out.1 rfl)]
        go_wp2_with fail
        go_meet
        exact ⟨by rw [e1.out], rfl⟩
      | false =>
        have e1 : Hid (m = x) := by show _ = _; rw [HM.out, if_neg (fun h => by have := HMN.out.2 h; cases this)]
        go_wp2_with fail
        go_meet
        exact ⟨by rw [e1.out], rfl⟩
    case rest =>
    obtain ⟨rfl, rfl⟩ := hcut
    clear hx hne hx0 hpos
    have HFS : Hid (1 ≤ m.length → m.length ≤ 4 → m.all isD = true → C = true ∧ Z = if mn = true then -(digs m : Int) else (digs m : Int)) := by
      intro h1 h4 ha
      have hn : isNum x = true := by rw [HNM.out]; simp [h1, h4, ha]
      refine ⟨HC.out.trans hn, ?_⟩
      rw [HZ.out, if_pos hn, HNU.out]
      by_cases hc : c = 45
      · rw [if_pos hc, if_pos (HMN.out.2 hc)]
      · rw [if_neg hc, if_neg (fun h => hc (HMN.out.1 h))]
    have HNF : Hid ((¬ 1 ≤ m.length) ∨ (¬ m.length ≤ 4) ∨ m.all isD = false → C = false ∧ Z = 0) := by
      intro h
      refine HNO.out ?_
      rw [HNM.out]
      rcases h with h | h | h <;> simp [h]
    by_cases l1 : 1 ≤ m.length
    · have l1' : ¬ (m.length : Int) < 1 := by omega
      by_cases l4 : m.length ≤ 4
      · have l4' : ¬ (4 : Int) < (m.length : Int) := by omega
        go_wp2_with fail
        go_loop [5, 6] (fun t5 t6 => ∃ i : Nat, i ≤ m.length ∧ t6 = .int .i64 (i : Nat) ∧ t5 = .int .i64 (digs (m.take i) : Nat) ∧ (m.take i).all isD = true) (fun _ t6 => m.length - (intOf t6).toNat)
        case atStart => exact ⟨0, Nat.zero_le _, rfl, rfl, by simp⟩
        case round =>
          obtain ⟨i, hi, rfl, rfl, ha⟩ := hrel
          have HA : Hid ((m.take i).all isD = true) := ha
          have hb : digs (m.take i) < 10000 := by
            have := digs_lt _ ha
            refine Nat.lt_of_lt_of_le this (Nat.pow_le_pow_right (n := 10) (by decide) (show (m.take i).length ≤ 4 by rw [List.length_take]; omega))
          clear ha
          by_cases hlt : i < m.length
          · have hx := at_text m i hlt (by simpa [ByteArray.size] using hlt)
            have i1 : (i : Int) < (m.length : Int) := by omega
            have i0 : (0 : Int) ≤ (i : Int) := by omega
            have HT : Hid (isD m[i] = true → (m.take (i + 1)).all isD = true) := fun h => take_all hlt HA.out h
            have HD : Hid (digs (m.take (i + 1)) = 10 * digs (m.take i) + (m[i].toNat - 48)) := by
              show _ = _
              rw [List.take_succ_eq_append_getElem hlt, digs_snoc]
            have HF : Hid (isD m[i] = false → C = false ∧ Z = 0) := fun h => HNF.out (.inr (.inr (not_all_at hlt h)))
            generalize m[i] = ch at *
            generalize digs (m.take i) = N at *
            by_cases d1 : ch.toNat < 48
            · have d1' : (ch.toNat : Int) < 48 := by omega
              have e1 : Hid (C = false ∧ Z = 0) := HF.out (by simp [isD]; omega)
              go_wp2_with fail
              go_ret2
              exact ⟨by rw [e1.out.1, e1.out.2]; rfl, rfl⟩
            · have d1' : ¬ (ch.toNat : Int) < 48 := by omega
              by_cases d2 : 57 < ch.toNat
              · have d2' : (57 : Int) < (ch.toNat : Int) := by omega
                have e1 : Hid (C = false ∧ Z = 0) := HF.out (by simp [isD]; omega)
                go_wp2_with fail
                go_ret2
                exact ⟨by rw [e1.out.1, e1.out.2]; rfl, rfl⟩
              · have d2' : ¬ (57 : Int) < (ch.toNat : Int) := by omega
                have HL : Hid (isD ch = true) := by show _ = _; simp [isD]; omega
                go_wp2_with fail
                go_round
                case rel => exact ⟨i + 1, by omega, by go_num, by rw [HD.out]; go_num, HT.out HL.out⟩
                case measure => simp [intOf]; omega
          · have i1 : ¬ (i : Int) < (m.length : Int) := by omega
            have et : m.take i = m := List.take_of_length_le (by omega)
            have e1 : Hid (C = true ∧ Z = if mn = true then -(digs m : Int) else (digs m : Int)) := HFS.out l1 l4 (by have := HA.out; rwa [et] at this)
            rw [et] at hb ⊢
            clear et HA
            generalize digs m = N at *
            cases mn with
            | true =>
              go_wp2_with fail
              go_ret2
              exact ⟨by rw [e1.out.1, e1.out.2]; rfl, rfl⟩
            | false =>
              go_wp2_with fail
              go_ret2
              exact ⟨by rw [e1.out.1, e1.out.2]; rfl, rfl⟩
      · have l4' : (4 : Int) < (m.length : Int) := by omega
        have e1 : Hid (C = false ∧ Z = 0) := HNF.out (.inr (.inl l4))
        go_wp2_with fail
        go_ret2
        exact ⟨by rw [e1.out.1, e1.out.2]; rfl, rfl⟩
    · have l1' : (m.length : Int) < 1 := by omega
      have e1 : Hid (C = false ∧ Z = 0) := HNF.out (.inl l1)
      go_wp2_with fail
      go_ret2
      exact ⟨by rw [e1.out.1, e1.out.2]; rfl, rfl⟩

end Go.Proofs.YtnddpalngjmhnaaDoor
