/-
  The document's takes, Number, Name, index, truth.
-/
import Derived.Test.YtnddpalngjmhnaaDoorWStr
import Derived.Deep.CutRange
import Derived.Test.YtnddpalngjmhnaaDoorSB
import Derived.Test.YtnddpalngjmhnaaDoorPInts
namespace Go.Proofs.YtnddpalngjmhnaaDoor
open Go.RowKit

def opWords : List (List UInt8) := [[110, 111, 116], [97, 110, 100], [111, 114], [108, 116], [101, 113], [97, 100, 100], [115, 117, 98]]
set_option maxHeartbeats 1000000 in
theorem takes_any {w : World} (x : List UInt8) :
    Calls Tryd.prog 69 #[.string ⟨x.toArray⟩] w fun e w' => e = .returned (.int .i64 (ar (opOf x) : Nat)) ∧ w' = w := by
  by_cases hx : x ∈ opWords
  · simp only [opWords, List.mem_cons, List.not_mem_nil, or_false] at hx
    rcases hx with rfl | rfl | rfl | rfl | rfl | rfl | rfl
    all_goals
      go_enter Tryd.func69, Tryd.ntmps69
      go_wp2
      go_ret
      exact ⟨rfl, rfl⟩
  · have e : opOf x = 0 := by
      simp only [opWords, List.mem_cons, List.not_mem_nil, or_false, not_or] at hx
      simp [opOf, hx]
    rw [e]
    simp only [opWords, List.mem_cons, List.not_mem_nil, or_false, not_or] at hx
    obtain ⟨n1, n2, n3, n4, n5, n6, n7⟩ := hx
    replace n1 := beq_eq_false_iff_ne.2 n1
    replace n2 := beq_eq_false_iff_ne.2 n2
    replace n3 := beq_eq_false_iff_ne.2 n3
    replace n4 := beq_eq_false_iff_ne.2 n4
    replace n5 := beq_eq_false_iff_ne.2 n5
    replace n6 := beq_eq_false_iff_ne.2 n6
    replace n7 := beq_eq_false_iff_ne.2 n7
    clear e
    go_enter Tryd.func69, Tryd.ntmps69
    go_wp2
    go_ret
    exact ⟨rfl, rfl⟩

set_option maxHeartbeats 400000 in
theorem rtruth_any {w : World} (b : Bool) :
    Calls Tryd.prog 75 #[.bool b] w fun e w' => e = .returned (.int .i64 (tr b)) ∧ w' = w := by
  cases b
  all_goals
    go_enter Tryd.func75, Tryd.ntmps75
    go_wp2
    go_ret
    exact ⟨rfl, rfl⟩

set_option maxRecDepth 100000 in
set_option maxHeartbeats 1000000 in
theorem rindex_any {w : World} {v : Value} {ns : List (List UInt8)} (h : Ns w v ns) (x : List UInt8) :
    Calls Tryd.prog 71 #[v, .string ⟨x.toArray⟩] w fun e w' => e = .returned (.int .i64 (ix ns x)) ∧ w' = w := by
  obtain ⟨ao, cap, rfl, hl, h⟩ := h
  have H : Hid (0 < ns.length → ∃ b off, ao = some ⟨b, off, none⟩ ∧ b < w.heap.size ∧ ∀ i (h : i < ns.length), w.cell? ⟨b, off + i, none⟩ = some (.string ⟨(ns[i]).toArray⟩)) := h
  clear h
  obtain ⟨Z, hZ⟩ : ∃ Z, Z = ix ns x := ⟨_, rfl⟩
  have HZ : Hid (Z = ix ns x) := hZ
  rw [← hZ]
  clear hZ
  go_enter Tryd.func71, Tryd.ntmps71
  go_wp2_with fail
  go_loop [5] (fun t => ∃ k : Nat, k ≤ ns.length ∧ t = .int .i64 k ∧ ∀ y ∈ ns.take k, y ≠ x) (fun t => ns.length - (intOf t).toNat)
  case atStart => exact ⟨0, Nat.zero_le _, rfl, by simp⟩
  case round =>
    obtain ⟨k, hk, rfl, hn⟩ := hrel
    have HN : Hid (∀ y ∈ ns.take k, y ≠ x) := hn
    clear hn
    by_cases hlt : k < ns.length
    · obtain ⟨b, off, rfl, hb, hc⟩ := H.out (by omega)
      have q1 := hc k hlt
      have HS : Hid (ns.take (k + 1) = ns.take k ++ [ns[k]]) := List.take_succ_eq_append_getElem hlt
      have HP : Hid (ns[k] = x → ix ns x = k) := fun he => by
        obtain ⟨h1, h2⟩ := idx_of ns x k hlt he HN.out
        rw [ix, if_pos h1, h2]
      have i1 : (k : Int) < (ns.length : Int) := by omega
      have i0 : (0 : Int) ≤ (k : Int) := by omega
      clear hc hb
      generalize ns[k] = y at *
      by_cases he : y = x
      · subst he
        have e1 : Hid (Z = k) := HZ.out.trans (HP.out rfl)
        go_wp2_with fail
        go_ret
        exact ⟨by rw [e1.out]; rfl, rfl⟩
      · have hne : (y == x) = false := beq_eq_false_iff_ne.2 he
        have HE : Hid (y ≠ x) := he
        clear he
        go_wp2_with fail
        go_round
        case rel =>
          refine ⟨k + 1, by omega, by go_num, fun z hz => ?_⟩
          rw [HS.out] at hz
          rcases List.mem_append.1 hz with hz | hz
          · exact HN.out z hz
          · rw [List.mem_singleton.1 hz]; exact HE.out
        case measure => simp [intOf]; omega
    · have i1 : ¬ ((k : Int) < (ns.length : Int)) := by omega
      have e1 : ix ns x = -1 := by
        rw [ix, if_neg]
        intro hx
        refine HN.out x ?_ rfl
        rw [List.take_of_length_le (by omega)]
        exact hx
      replace e1 : Hid (Z = -1) := HZ.out.trans e1
      go_wp2_with fail
      go_ret
      exact ⟨by rw [e1.out]; rfl, rfl⟩

theorem take_all {l : List UInt8} {f : UInt8 → Bool} {i : Nat} (hi : i < l.length) (h : (l.take i).all f = true) (hf : f l[i] = true) : (l.take (i + 1)).all f = true := by
  rw [List.take_succ_eq_append_getElem hi, List.all_append, h]
  simp [hf]
theorem not_all_at {l : List UInt8} {f : UInt8 → Bool} {i : Nat} (hi : i < l.length) (hf : f l[i] = false) : l.all f = false := by
  rw [← Bool.not_eq_true, List.all_eq_true]
  intro h
  rw [h l[i] (List.getElem_mem hi)] at hf
  cases hf

set_option maxRecDepth 100000 in
set_option maxHeartbeats 1000000 in
theorem rname_any {w : World} (x : List UInt8) (hxl : x.length ≤ 281474976710656) :
    Calls Tryd.prog 60 #[.string ⟨x.toArray⟩] w fun e w' => e = .returned (.bool (isName x)) ∧ w' = w := by
  have ct := fun W => takes_any (w := W) x
  obtain ⟨C, hC⟩ : ∃ C, C = isName x := ⟨_, rfl⟩
  have HC : Hid (C = isName x) := hC
  rw [← hC]
  clear hC
  go_enter Tryd.func60, Tryd.ntmps60
  go_wp2_with fail
  go_loop [3] (fun t => ∃ k : Nat, k ≤ x.length ∧ t = .int .i64 k ∧ (x.take k).all isL = true) (fun t => x.length - (intOf t).toNat)
  case atStart => exact ⟨0, Nat.zero_le _, rfl, by simp⟩
  case round =>
    obtain ⟨k, hk, rfl, ha⟩ := hrel
    have HA : Hid ((x.take k).all isL = true) := ha
    clear ha
    by_cases hlt : k < x.length
    · have hx := at_text x k hlt (by simpa [ByteArray.size] using hlt)
      have i1 : (k : Int) < (x.length : Int) := by omega
      have i0 : (0 : Int) ≤ (k : Int) := by omega
      have HT : Hid (isL x[k] = true → (x.take (k + 1)).all isL = true) := fun h => take_all hlt HA.out h
      have HF : Hid (isL x[k] = false → isName x = false) := fun h => by simp [isName, not_all_at hlt h]
      generalize x[k] = c at *
      by_cases d1 : c.toNat < 97
      · have d1' : (c.toNat : Int) < 97 := by omega
        have e1 : Hid (C = false) := HC.out.trans (HF.out (by simp [isL]; omega))
        go_wp2_with fail
        go_ret
        exact ⟨by rw [e1.out]; rfl, rfl⟩
      · have d1' : ¬ (c.toNat : Int) < 97 := by omega
        by_cases d2 : 122 < c.toNat
        · have d2' : (122 : Int) < (c.toNat : Int) := by omega
          have e1 : Hid (C = false) := HC.out.trans (HF.out (by simp [isL]; omega))
          go_wp2_with fail
          go_ret
          exact ⟨by rw [e1.out]; rfl, rfl⟩
        · have d2' : ¬ (122 : Int) < (c.toNat : Int) := by omega
          have HL : Hid (isL c = true) := by show _ = _; simp [isL]; omega
          go_wp2_with fail
          go_round
          case rel => exact ⟨k + 1, by omega, by go_num, HT.out HL.out⟩
          case measure => simp [intOf]; omega
    · have i1 : ¬ (k : Int) < (x.length : Int) := by omega
      have hall : x.all isL = true := by have := HA.out; rwa [List.take_of_length_le (by omega)] at this
      have hop := opOf_cases x
      by_cases h0 : opOf x = 0
      · rw [h0] at ct
        by_cases hT : isT x = true
        · have e1 : Hid (C = false) := by show C = false; rw [HC.out]; simp [isName, hT]
          simp only [isT, Bool.or_eq_true, decide_eq_true_eq] at hT
          clear hop hall
          rcases hT with ((rfl | rfl) | rfl) | rfl
          all_goals
            go_wp2_with fail
            refine Calls.mono (ct _) ?_
            rintro e w1 ⟨rfl, rfl⟩
            go_wp2_with fail
            go_ret
            exact ⟨by rw [e1.out]; rfl, rfl⟩
        · have e1 : Hid (C = (decide (1 ≤ x.length) && decide (x.length ≤ 12))) := by show C = _; rw [HC.out]; simp [isName, hT, hall, h0]
          simp only [isT, Bool.or_eq_true, decide_eq_true_eq, not_or] at hT
          obtain ⟨⟨⟨t1, t2⟩, t3⟩, t4⟩ := hT
          replace t1 := beq_eq_false_iff_ne.2 t1
          replace t2 := beq_eq_false_iff_ne.2 t2
          replace t3 := beq_eq_false_iff_ne.2 t3
          replace t4 := beq_eq_false_iff_ne.2 t4
          clear hop hall h0
          by_cases l1 : 1 ≤ x.length
          · have l1' : (1 : Int) ≤ (x.length : Int) := by omega
            by_cases l2 : x.length ≤ 12
            · have l2' : (x.length : Int) ≤ 12 := by omega
              go_wp2_with fail
              refine Calls.mono (ct _) ?_
              rintro e w1 ⟨rfl, rfl⟩
              go_wp2_with fail
              go_ret
              exact ⟨by rw [e1.out]; simp [l1, l2], rfl⟩
            · have l2' : ¬ (x.length : Int) ≤ 12 := by omega
              go_wp2_with fail
              refine Calls.mono (ct _) ?_
              rintro e w1 ⟨rfl, rfl⟩
              go_wp2_with fail
              go_ret
              exact ⟨by rw [e1.out]; simp [l2]; omega, rfl⟩
          · have l1' : ¬ (1 : Int) ≤ (x.length : Int) := by omega
            go_wp2_with fail
            refine Calls.mono (ct _) ?_
            rintro e w1 ⟨rfl, rfl⟩
            go_wp2_with fail
            go_ret
            exact ⟨by rw [e1.out]; simp [l1], rfl⟩
      · have e1 : Hid (C = false) := by show C = false; rw [HC.out]; simp [isName, h0]
        have har : 0 < ar (opOf x) := by unfold ar; split <;> (try split) <;> omega
        clear hall hop h0
        generalize ar (opOf x) = r at *
        have har' : (0 : Int) < (r : Int) := by omega
        go_wp2_with fail
        refine Calls.mono (ct _) ?_
        rintro e w1 ⟨rfl, rfl⟩
        go_wp2_with fail
        go_ret
        exact ⟨by rw [e1.out]; rfl, rfl⟩

theorem mag_drop (x : List UInt8) (h : 0 < x.length) : mag x = if x[0] = 45 then x.drop 1 else x := by
  cases x with
  | nil => simp at h
  | cons c r =>
    unfold mag
    by_cases h : c = 45 <;> simp [h]
theorem num_drop (x : List UInt8) (h : 0 < x.length) : num x = if x[0] = 45 then -(digs (mag x) : Int) else (digs (mag x) : Int) := by
  cases x with
  | nil => simp at h
  | cons c r =>
    unfold num
    by_cases h : c = 45 <;> simp [h]

set_option maxRecDepth 100000 in
set_option maxHeartbeats 2000000 in
theorem number_any {w : World} (x : List UInt8) (hxl : x.length ≤ 281474976710656) :
    Calls Tryd.prog 70 #[.string ⟨x.toArray⟩] w fun e w' => e = .returned (.tuple #[.int .i64 (if isNum x = true then num x else 0), .bool (isNum x)]) ∧ w' = w := by
  obtain ⟨C, hC⟩ : ∃ C, C = isNum x := ⟨_, rfl⟩
  obtain ⟨Z, hZ⟩ : ∃ Z, Z = if isNum x = true then num x else 0 := ⟨_, rfl⟩
  have HC : Hid (C = isNum x) := hC
  have HZ : Hid (Z = if isNum x = true then num x else 0) := hZ
  rw [← hZ, ← hC]
  clear hZ hC
  have HNO : Hid (isNum x = false → C = false ∧ Z = 0) := fun h => ⟨HC.out.trans h, by rw [HZ.out, h]; rfl⟩
  by_cases h0 : x = []
  · subst h0
    have e1 : Hid (C = false ∧ Z = 0) := HNO.out rfl
    go_enter Tryd.func70, Tryd.ntmps70
    go_wp2_with fail
    go_ret2
    exact ⟨by rw [e1.out.1, e1.out.2]; rfl, rfl⟩
  · have hpos : 0 < x.length := List.length_pos_iff.2 h0
    have hx := at_text x 0 hpos (by simpa [ByteArray.size] using hpos)
    have hne : (x == ([] : List UInt8)) = false := beq_eq_false_iff_ne.2 h0
    have HM : Hid (mag x = if x[0] = 45 then x.drop 1 else x) := mag_drop x hpos
    have hcut : ∀ w0, (Instr.slice 9 (.string ⟨x.toArray⟩) (some (.int .i64 1)) none none).run Tryd.prog w0 = .ok (.string ⟨(x.drop 1).toArray⟩) w0 := by
      intro w0
      rw [run_slice_string_from_if (P := Tryd.prog) w0 9 ⟨x.toArray⟩ .i64 1 Tryd.underlying9, if_pos ⟨by omega, by simp [ByteArray.size]; omega⟩]
      congr 2
      apply ByteArray.ext
      have hz : (⟨x.toArray⟩ : ByteArray).size = x.length := by simp [ByteArray.size]
      simp [hz, List.take_of_length_le]
    have hml : (mag x).length ≤ 281474976710656 := by rw [HM.out]; split <;> (try rw [List.length_drop]) <;> omega
    have HNM : Hid (isNum x = ((mag x).all isD && decide (1 ≤ (mag x).length) && decide ((mag x).length ≤ 4))) := by show _ = _; rfl
    have HNU : Hid (num x = if x[0] = 45 then -(digs (mag x) : Int) else (digs (mag x) : Int)) := num_drop x hpos
    have hx0 : (0 : Int) < (x.length : Int) := by omega
    clear h0 hxl
    generalize mag x = m at *
    generalize x.drop 1 = xd at *
    generalize x[0] = c at *
    obtain ⟨mn, hmn⟩ : ∃ mn : Bool, mn = ((c.toNat : Int) == 45) := ⟨_, rfl⟩
    have HMN : Hid (mn = true ↔ c = 45) := by
      show _ ↔ _
      rw [hmn]
      constructor
      · intro h
        have : (c.toNat : Int) = 45 := by simpa using h
        exact UInt8.toNat_inj.1 (by simpa using (by omega : c.toNat = 45))
      · rintro rfl
        rfl
    replace hmn := hmn.symm
    go_enter Tryd.func70, Tryd.ntmps70
    go_upto_if 14 with fail
    go_cut [0] from 15 to 16 (fun t0 wx => t0 = .string ⟨m.toArray⟩ ∧ w = wx)
    case first =>
      cases mn with
      | true =>
        have e1 : Hid (m = xd) := by show _ = _; rw [HM.out, if_pos (HMN.out.1 rfl)]
        go_wp2_with fail
        go_meet
        exact ⟨by rw [e1.out], rfl⟩
      | false =>
        have e1 : Hid (m = x) := by show _ = _; rw [HM.out, if_neg (fun h => by have := HMN.out.2 h; cases this)]
        go_wp2_with fail
        go_meet
        exact ⟨by rw [e1.out], rfl⟩
    case rest =>
    obtain ⟨rfl, rfl⟩ := hcut
    clear hx hne hx0 hpos
    have HFS : Hid (1 ≤ m.length → m.length ≤ 4 → m.all isD = true → C = true ∧ Z = if mn = true then -(digs m : Int) else (digs m : Int)) := by
      intro h1 h4 ha
      have hn : isNum x = true := by rw [HNM.out]; simp [h1, h4, ha]
      refine ⟨HC.out.trans hn, ?_⟩
      rw [HZ.out, if_pos hn, HNU.out]
      by_cases hc : c = 45
      · rw [if_pos hc, if_pos (HMN.out.2 hc)]
      · rw [if_neg hc, if_neg (fun h => hc (HMN.out.1 h))]
    have HNF : Hid ((¬ 1 ≤ m.length) ∨ (¬ m.length ≤ 4) ∨ m.all isD = false → C = false ∧ Z = 0) := by
      intro h
      refine HNO.out ?_
      rw [HNM.out]
      rcases h with h | h | h <;> simp [h]
    by_cases l1 : 1 ≤ m.length
    · have l1' : ¬ (m.length : Int) < 1 := by omega
      by_cases l4 : m.length ≤ 4
      · have l4' : ¬ (4 : Int) < (m.length : Int) := by omega
        go_wp2_with fail
        go_loop [5, 6] (fun t5 t6 => ∃ i : Nat, i ≤ m.length ∧ t6 = .int .i64 (i : Nat) ∧ t5 = .int .i64 (digs (m.take i) : Nat) ∧ (m.take i).all isD = true) (fun _ t6 => m.length - (intOf t6).toNat)
        case atStart => exact ⟨0, Nat.zero_le _, rfl, rfl, by simp⟩
        case round =>
          obtain ⟨i, hi, rfl, rfl, ha⟩ := hrel
          have HA : Hid ((m.take i).all isD = true) := ha
          have hb : digs (m.take i) < 10000 := by
            have := digs_lt _ ha
            refine Nat.lt_of_lt_of_le this (Nat.pow_le_pow_right (n := 10) (by decide) (show (m.take i).length ≤ 4 by rw [List.length_take]; omega))
          clear ha
          by_cases hlt : i < m.length
          · have hx := at_text m i hlt (by simpa [ByteArray.size] using hlt)
            have i1 : (i : Int) < (m.length : Int) := by omega
            have i0 : (0 : Int) ≤ (i : Int) := by omega
            have HT : Hid (isD m[i] = true → (m.take (i + 1)).all isD = true) := fun h => take_all hlt HA.out h
            have HD : Hid (digs (m.take (i + 1)) = 10 * digs (m.take i) + (m[i].toNat - 48)) := by
              show _ = _
              rw [List.take_succ_eq_append_getElem hlt, digs_snoc]
            have HF : Hid (isD m[i] = false → C = false ∧ Z = 0) := fun h => HNF.out (.inr (.inr (not_all_at hlt h)))
            generalize m[i] = ch at *
            generalize digs (m.take i) = N at *
            by_cases d1 : ch.toNat < 48
            · have d1' : (ch.toNat : Int) < 48 := by omega
              have e1 : Hid (C = false ∧ Z = 0) := HF.out (by simp [isD]; omega)
              go_wp2_with fail
              go_ret2
              exact ⟨by rw [e1.out.1, e1.out.2]; rfl, rfl⟩
            · have d1' : ¬ (ch.toNat : Int) < 48 := by omega
              by_cases d2 : 57 < ch.toNat
              · have d2' : (57 : Int) < (ch.toNat : Int) := by omega
                have e1 : Hid (C = false ∧ Z = 0) := HF.out (by simp [isD]; omega)
                go_wp2_with fail
                go_ret2
                exact ⟨by rw [e1.out.1, e1.out.2]; rfl, rfl⟩
              · have d2' : ¬ (57 : Int) < (ch.toNat : Int) := by omega
                have HL : Hid (isD ch = true) := by show _ = _; simp [isD]; omega
                go_wp2_with fail
                go_round
                case rel => exact ⟨i + 1, by omega, by go_num, by rw [HD.out]; go_num, HT.out HL.out⟩
                case measure => simp [intOf]; omega
          · have i1 : ¬ (i : Int) < (m.length : Int) := by omega
            have et : m.take i = m := List.take_of_length_le (by omega)
            have e1 : Hid (C = true ∧ Z = if mn = true then -(digs m : Int) else (digs m : Int)) := HFS.out l1 l4 (by have := HA.out; rwa [et] at this)
            rw [et] at hb ⊢
            clear et HA
            generalize digs m = N at *
            cases mn with
            | true =>
              go_wp2_with fail
              go_ret2
              exact ⟨by rw [e1.out.1, e1.out.2]; rfl, rfl⟩
            | false =>
              go_wp2_with fail
              go_ret2
              exact ⟨by rw [e1.out.1, e1.out.2]; rfl, rfl⟩
      · have l4' : (4 : Int) < (m.length : Int) := by omega
        have e1 : Hid (C = false ∧ Z = 0) := HNF.out (.inr (.inl l4))
        go_wp2_with fail
        go_ret2
        exact ⟨by rw [e1.out.1, e1.out.2]; rfl, rfl⟩
    · have l1' : (m.length : Int) < 1 := by omega
      have e1 : Hid (C = false ∧ Z = 0) := HNF.out (.inl l1)
      go_wp2_with fail
      go_ret2
      exact ⟨by rw [e1.out.1, e1.out.2]; rfl, rfl⟩

end Go.Proofs.YtnddpalngjmhnaaDoor

namespace Go.Proofs.YtnddpalngjmhnaaDoor
open Go.RowKit

/-- The two cells of a word. -/
def wlay (x : Nat × List UInt8) : List Value := [.int .i64 (x.1 : Nat), .string ⟨x.2.toArray⟩]
def wrow (xs : List (Nat × List UInt8)) : List Value := xs.flatMap wlay
theorem wrow_cons (x : Nat × List UInt8) (xs : List (Nat × List UInt8)) : wrow (x :: xs) = wlay x ++ wrow xs := rfl
theorem wrow_length (xs : List (Nat × List UInt8)) : (wrow xs).length = xs.length * 2 := by
  induction xs with
  | nil => rfl
  | cons x xs ih => rw [wrow_cons]; simp [ih, wlay]; omega
theorem wrow_append (xs ys : List (Nat × List UInt8)) : wrow (xs ++ ys) = wrow xs ++ wrow ys := by simp [wrow]
theorem wrow_get : ∀ (xs : List (Nat × List UInt8)) (k : Nat) (h : k < xs.length) (j : Nat), j < 2 → (wrow xs)[k * 2 + j]? = (wlay xs[k])[j]?
  | x :: xs, 0, _, j, hj => by
    rw [wrow_cons, Nat.zero_mul, Nat.zero_add, List.getElem?_append_left (by simpa [wlay] using hj)]
    rfl
  | x :: xs, k + 1, h, j, hj => by
    have := wrow_get xs k (by simpa using h) j hj
    rw [wrow_cons, show (k + 1) * 2 + j = 2 + (k * 2 + j) by omega, List.getElem?_append_right (by simp [wlay]), show (wlay x).length = 2 from rfl, Nat.add_sub_cancel_left, this]
    rfl
theorem wrow_one (xs : List (Nat × List UInt8)) : ∀ u ∈ wrow xs, u.oneCell' = true := by
  intro u hu
  obtain ⟨x, _, hm⟩ := List.mem_flatMap.1 hu
  simp [wlay] at hm
  rcases hm with rfl | rfl <;> rfl
theorem Tryd.infoRW : (Tryd.prog.info? 102).map (fun i => (i.zero, i.size, i.bytes)) = some (some (.agg #[.int .i64 0, .string .empty]), 2, 24) := by kernel_rfl
theorem cells_rw : (Value.agg #[.int .i64 0, .string .empty]).cells.size = 2 := by simp [Value.cells]

/-- A slice of words, in a row of its own behind 'base'. -/
def Wr (w : World) (base : Nat) (v : Value) (ws : List (Nat × List UInt8)) : Prop := w.ownsRow base 102 2 v ws.length (wrow ws)
theorem Wr.nil (w : World) (base : Nat) : Wr w base (.slice none 0 0) [] := World.ownsRow_nil _ _ _ _
theorem Wr.kept {p : Nat → Prop} {w w' : World} {base : Nat} {v : Value} {ws : List (Nat × List UInt8)} (h : Wr w base v ws) (hk : Kept p w w') (hp : ∀ k, v.ownBlock = some k → p k) : Wr w' base v ws := by
  refine ⟨h.1, ?_⟩
  rcases h.2 with h0 | ⟨g, cap, cur, rfl, hb, hh, rest⟩
  · exact .inl h0
  · exact .inr ⟨g, cap, cur, rfl, hb, (hk.block g (lt_of_block hh) (hp g rfl)).trans hh, rest⟩
theorem Wr.shape {w : World} {base : Nat} {v : Value} {ws : List (Nat × List UInt8)} (h : Wr w base v ws) : ∃ ao cap, v = .slice ao ws.length cap ∧ ws.length ≤ cap ∧ (0 < ws.length → ∃ g, ao = some ⟨g, 0, none⟩) := by
  rcases h.2 with ⟨hv, h0⟩ | ⟨g, cap, cur, hv, _, hh, hc, _⟩
  · exact ⟨none, 0, by rw [hv, h0], by omega, fun hp => by omega⟩
  · exact ⟨_, cap, hv, hc, fun _ => ⟨g, rfl⟩⟩
theorem append_word (w : World) (ty : TypeId) (base : Nat) (v : Value) (ws : List (Nat × List UInt8)) (h : Wr w base v ws) (hb : base ≤ w.heap.size) (G : Nat) (x : Nat × List UInt8) (fr : Nat × Nat) (hG : w.heap[G]? = some (.cells (wlay x).toArray 102 fr)) (hm : ws.length ≤ 1000000) :
    ∃ ao' cap' w', (Builtin.append_ #[95, 95] ty #[v, .slice (some ⟨G, 0, none⟩) 1 1]).run Tryd.prog w = .ok (.slice ao' (ws.length + 1) cap') w' ∧ Wr w' base (.slice ao' (ws.length + 1) cap') (ws ++ [x]) ∧ w.grownBy w' v.ownBlock := by
  obtain ⟨i, hi, hz0, hz1, hz2⟩ := info_parts Tryd.infoRW
  have hG' : w.heap[G]? = some (.cells (wrow [x]).toArray 102 fr) := by rw [hG]; simp [wrow]
  obtain ⟨v', w', hr, h2, h3, _, h5⟩ := run_append_own_at (P := Tryd.prog) w base 95 ty 102 i (.agg #[.int .i64 0, .string .empty]) 2 24 Tryd.underlying95 hi hz0 hz1 hz2 cells_rw (by decide) v ws.length (wrow ws) h ⟨G, 0, none⟩ 1 1 (wrow [x]) (by rw [wrow_length]; rfl) (World.news_of_block (w := w) hG') (wrow_one [x]) (by unfold maxLen; omega) (by omega) hb
  obtain ⟨ao', cap', rfl⟩ := own_shape_any h2
  refine ⟨ao', cap', w', hr, ?_, h3⟩
  unfold Wr
  rw [wrow_append, List.length_append]
  exact h2
theorem wpList_append_word {w : World} {ops : Array Oper} {rest : List Oper} {o : Oper} {a : Act} {Q : Exit → Act → World → Prop} (hgd : o.guard = none) (sl y : Operand) (ho : o.op = .call { callee := .builtin .append, args := #[sl, y], argTypes := #[95, 95] })
    (base : Nat) (v : Value) (ws : List (Nat × List UInt8)) (hs : a.eval sl = v) (h : Wr w base v ws) (hb : base ≤ w.heap.size) (G : Nat) (hy : a.eval y = .slice (some ⟨G, 0, none⟩) 1 1) (x : Nat × List UInt8) (fr : Nat × Nat) (hG : w.heap[G]? = some (.cells (wlay x).toArray 102 fr)) (hm : ws.length ≤ 1000000)
    (hK : ∀ ao' cap' w', Wr w' base (.slice ao' (ws.length + 1) cap') (ws ++ [x]) → w.grownBy w' v.ownBlock → wpList Tryd.prog ops Q rest (a.put o.dst (.slice ao' (ws.length + 1) cap')) w') : wpList Tryd.prog ops Q (o :: rest) a w := by
  refine wpList_plain hgd fun K hK' => ?_
  obtain ⟨ao', cap', w', hr, h2, h3⟩ := append_word w o.type base v ws h hb G x fr hG hm
  unfold Oper.wp execOp
  simp only [ho, resolve, invoke, builtin, Sem.run_bind, Sem.run_pure, Result.andThen_ok, List.map_toArray, List.map_cons, List.map_nil, hs, hy, hr]
  exact hK' _ _ (hK ao' cap' w' h2 h3)
theorem Wr.grown {w0 w w' : World} {o : Obj} {v : Value} {ws : List (Nat × List UInt8)} (h : Wr w w0.heap.size v ws) (k : Kept (fun _ => True) w0 w) (g : (w.alloc o).grownBy w' v.ownBlock) : Kept (fun _ => True) w0 w' :=
  (k.alloc o).grown g (fun i hi e => by have := (World.ownsRow.lt h i e).1; omega)
/-- Words that are looked at, from anywhere on. -/
def Wv (w : World) (v : Value) (ws : List (Nat × List UInt8)) : Prop :=
  ∃ ao cap, v = .slice ao ws.length cap ∧ ws.length ≤ cap ∧ (0 < ws.length → ∃ b off, ao = some ⟨b, off, none⟩ ∧ b < w.heap.size ∧ ∀ i (h : i < ws.length), w.cell? ⟨b, off + i * 2, none⟩ = some (.int .i64 ((ws[i]).1 : Nat)) ∧ w.cell? ⟨b, off + i * 2 + 1, none⟩ = some (.string ⟨((ws[i]).2).toArray⟩))
theorem Wv.all {w w' : World} {v : Value} {ws : List (Nat × List UInt8)} (h : Wv w v ws) (k : Kept (fun _ => True) w w') : Wv w' v ws := by
  obtain ⟨ao, cap, e, hc, h⟩ := h
  refine ⟨ao, cap, e, hc, fun h0 => ?_⟩
  obtain ⟨b, off, e, hb, hx⟩ := h h0
  exact ⟨b, off, e, Nat.lt_of_lt_of_le hb k.size, fun i hi => ⟨(kept_cell k hb trivial).trans (hx i hi).1, (kept_cell k hb trivial).trans (hx i hi).2⟩⟩
theorem Wr.view {w : World} {base : Nat} {v : Value} {ws : List (Nat × List UInt8)} (h : Wr w base v ws) : Wv w v ws := by
  have h' : w.ownsRow base 102 2 v ws.length (wrow ws) := h
  rcases h.2 with ⟨hv, h0⟩ | ⟨g, cap, cur, rfl, _, hh, hc, _⟩
  · exact ⟨none, 0, by rw [hv, h0], by omega, fun hp => by omega⟩
  · refine ⟨_, cap, rfl, hc, fun _ => ⟨g, 0, rfl, lt_of_block hh, fun i hi => ⟨?_, ?_⟩⟩⟩
    · rw [Nat.zero_add]
      exact (h'.cellAt (i * 2) (by omega)).trans (wrow_get ws i hi 0 (by omega))
    · rw [Nat.zero_add]
      exact (h'.cellAt (i * 2 + 1) (by omega)).trans (wrow_get ws i hi 1 (by omega))

set_option maxRecDepth 100000 in
set_option maxHeartbeats 2000000 in
theorem words_any {w : World} (s : List UInt8) (hs : s.length ≤ 10000) :
    Calls Tryd.prog 66 #[.string ⟨s.toArray⟩, .int .i64 0] w fun e w' => (∃ v, e = .returned v ∧ Wr w' w.heap.size v (Wo s 0)) ∧ Kept (fun _ => True) w w' := by
  have HS : Hid (s.length ≤ 10000) := hs
  go_enter Tryd.func66, Tryd.ntmps66
  go_wp2_with fail
  go_loopw [5, 6, 7] (fun t5 t6 _ wr => ∃ (i : Nat) (dn : List (Nat × List UInt8)), i ≤ s.length ∧ t6 = .int .i64 (i : Nat) ∧ dn ++ Wo s i = Wo s 0 ∧ dn.length ≤ i ∧ Wr wr w.heap.size t5 dn ∧ Kept (fun _ => True) w wr) (fun _ t6 _ _ => s.length - (intOf t6).toNat)
  case atStart => exact ⟨0, [], Nat.zero_le _, rfl, rfl, Nat.le_refl _, Wr.nil _ _, Kept.refl _ _⟩
  case round =>
    obtain ⟨i, dn, hi, rfl, hd, hdl, hw, hk⟩ := hrel
    have HD : Hid (dn ++ Wo s i = Wo s 0) := hd
    have HK : Hid (Kept (fun _ => True) w wr) := hk
    obtain ⟨ao, cap, rfl, -, -⟩ := hw.shape
    have HW : Hid (Wr wr w.heap.size (.slice ao dn.length cap) dn) := hw
    clear hd hw hk
    by_cases hlt : i < s.length
    · have hx := at_text s i hlt (by simpa [ByteArray.size] using hlt)
      have i1 : (i : Int) < (s.length : Int) := by omega
      have i0 : (0 : Int) ≤ (i : Int) := by omega
      by_cases hc : s[i] = 32
      · have HB : Hid (Wo s i = Wo s (i + 1)) := Wo_blank hlt hc
        rw [hc] at hx
        clear hc
        go_wp2_with fail
        go_roundw
        case rel => exact ⟨i + 1, dn, by omega, by go_num, by rw [← HB.out]; exact HD.out, by omega, HW.out, HK.out⟩
        case measure => simp [intOf]; omega
      · obtain ⟨e, hE⟩ := At1.mk' (Nat.le_refl i) hlt hc rfl
        have HE : Hid (At1 s i i e) := hE
        have hie := hE.some
        have hel := hE.within
        have hc' : ((s[i].toNat : Int) == 32) = false := by simp only [beq_eq_false_iff_ne, ne_eq]; intro q; exact hc (UInt8.toNat_inj.1 (by simpa using (by omega : s[i].toNat = 32)))
        clear hc hE
        generalize s[i] = ch at *
        go_wp2_with fail
        go_loop [7] (fun t7 => ∃ k : Nat, i ≤ k ∧ k ≤ e ∧ t7 = .int .i64 (k : Nat)) (fun t7 => e - (intOf t7).toNat)
        case atStart => exact ⟨i, Nat.le_refl _, by omega, rfl⟩
        case round =>
          obtain ⟨k, hk1, hk2, rfl⟩ := hrel
          rcases HE.out.out hk1 hk2 with ⟨hl, h5, h6⟩ | ⟨h5, h6⟩ | ⟨h5, hl, h6⟩
          · have hy := at_text s k hl (by simpa [ByteArray.size] using hl)
            have j1 : (k : Int) < (s.length : Int) := by omega
            have j0 : (0 : Int) ≤ (k : Int) := by omega
            have h6' : ((s[k].toNat : Int) == 32) = false := by simp only [beq_eq_false_iff_ne, ne_eq]; intro q; exact h6 (UInt8.toNat_inj.1 (by simpa using (by omega : s[k].toNat = 32)))
            clear h6
            generalize s[k] = ck at *
            go_wp2_with fail
            go_round
            case rel => exact ⟨k + 1, by omega, by omega, by go_num⟩
            case measure => simp [intOf]; omega
          · have j1 : ¬ (k : Int) < (s.length : Int) := by omega
            clear h6
            have HKE : Hid (k = e) := h5
            have hcut := cut_text s i k hk1 (by omega)
            have HTX : Hid (dn ++ [(i, tex s i k)] ++ Wo s k = Wo s 0) := by
              show _ = _
              rw [← HD.out, HE.out.words, HKE.out]
              simp
            generalize tex s i k = x at *
            clear h5
            go_wp2_with (at_builtin; refine wpList_append_word rfl (.tmp 31) (.tmp 40) rfl w.heap.size (.slice ao dn.length cap) dn rfl (HW.out.kept (p := fun _ => True) ((Kept.refl _ _).alloc _) (fun _ _ => trivial)) (Nat.le_trans HK.out.size (by simp)) wr.heap.size rfl (i, x) (0, 0) (heap_alloc_new _ _) (by omega) ?_; intro ao2 cap2 w2 t2 g2)
            go_roundw
            case rel => exact ⟨k, dn ++ [(i, x)], by omega, rfl, HTX.out, by have := HKE.out; simp; omega, by simpa using t2, HW.out.grown HK.out g2⟩
            case measure => have := HKE.out; simp [intOf]; omega
          · have j1 : (k : Int) < (s.length : Int) := by omega
            have j0 : (0 : Int) ≤ (k : Int) := by omega
            have hy := at_text s k hl (by simpa [ByteArray.size] using hl)
            rw [h6] at hy
            clear h6
            have HKE : Hid (k = e) := h5
            have hcut := cut_text s i k hk1 (by omega)
            have HTX : Hid (dn ++ [(i, tex s i k)] ++ Wo s k = Wo s 0) := by
              show _ = _
              rw [← HD.out, HE.out.words, HKE.out]
              simp
            generalize tex s i k = x at *
            clear h5
            go_wp2_with (at_builtin; refine wpList_append_word rfl (.tmp 31) (.tmp 40) rfl w.heap.size (.slice ao dn.length cap) dn rfl (HW.out.kept (p := fun _ => True) ((Kept.refl _ _).alloc _) (fun _ _ => trivial)) (Nat.le_trans HK.out.size (by simp)) wr.heap.size rfl (i, x) (0, 0) (heap_alloc_new _ _) (by omega) ?_; intro ao2 cap2 w2 t2 g2)
            go_roundw
            case rel => exact ⟨k, dn ++ [(i, x)], by omega, rfl, HTX.out, by have := HKE.out; simp; omega, by simpa using t2, HW.out.grown HK.out g2⟩
            case measure => have := HKE.out; simp [intOf]; omega
    · have i1 : ¬ (i : Int) < (s.length : Int) := by omega
      go_wp2_with fail
      go_ret
      refine ⟨⟨_, rfl, ?_⟩, HK.out⟩
      have e : Wo s i = [] := Wo_end (by omega)
      have := HD.out
      rw [e, List.append_nil] at this
      rw [← this]
      exact HW.out

end Go.Proofs.YtnddpalngjmhnaaDoor

namespace Go.Proofs.YtnddpalngjmhnaaDoor
open Go.RowKit

theorem wdp_few (s : List UInt8) (p : Nat) : (wdp p s).1.length + (wdp p s).2.length ≤ s.length := by
  induction s generalizing p with
  | nil => simp [wdp]
  | cons c r ih =>
    have := ih (p + 1)
    unfold wdp
    split
    · simp only [flush]
      split
      · simp; omega
      · rename_i h
        have : 0 < (wdp (p + 1) r).1.length := List.length_pos_iff.2 h
        simp; omega
    · simp; omega
/-- No more words than bytes. -/
theorem words_few (s : List UInt8) : (Wo s 0).length ≤ s.length := by
  have := wdp_few s 0
  unfold Wo
  rw [List.drop_zero]
  simp only [flush]
  split
  · omega
  · rename_i h
    have : 0 < (wdp 0 s).1.length := List.length_pos_iff.2 h
    simp; omega

end Go.Proofs.YtnddpalngjmhnaaDoor

namespace Go.Proofs.YtnddpalngjmhnaaDoor
open Go.RowKit

theorem ar_op (x : List UInt8) : ar (opOf x) = ar (kd x) := by
  by_cases h : opOf x = 0
  · have hk := kd_cases x
    have : kd x < 4 := by
      rcases Nat.lt_or_ge (kd x) 4 with h4 | h4
      · exact h4
      · have := kd_op x h4
        omega
    rw [h]
    unfold ar
    rw [if_neg (by omega), if_neg (by omega), if_neg (by omega), if_neg (by omega)]
  · rw [op_kd x h]
theorem kind_one {x : List UInt8} (h : kd x = 1) : isNum x = false ∧ ar (opOf x) = 0 ∧ isName x = false := by
  refine ⟨?_, by rw [ar_op, h]; rfl, ?_⟩
  · cases hn : isNum x with
    | false => rfl
    | true => rw [(kd_num x).2 hn] at h; cases h
  · cases hn : isName x with
    | false => rfl
    | true => rw [(kd_name x).2 hn] at h; cases h
theorem kind_name {x : List UInt8} (h : kd x = 3) : isNum x = false ∧ ar (opOf x) = 0 ∧ isName x = true := by
  refine ⟨?_, by rw [ar_op, h]; rfl, (kd_name x).1 h⟩
  cases hn : isNum x with
  | false => rfl
  | true => rw [(kd_num x).2 hn] at h; cases h
theorem kind_fine {ns : List (List UInt8)} {x : List UInt8} (h : rf ns x = 0) : isNum x = true ∨ (isNum x = false ∧ 0 < ar (opOf x)) ∨ (isNum x = false ∧ ar (opOf x) = 0 ∧ isName x = true ∧ 0 ≤ ix ns x) := by
  have hk := kd_cases x
  rcases rf_cases ns x with ⟨_, h1⟩ | ⟨_, _, h1⟩ | ⟨h1, h2, _⟩
  · omega
  · omega
  · by_cases h3 : kd x = 3
    · obtain ⟨a, b, c⟩ := kind_name h3
      have hx := h2 h3
      exact .inr (.inr ⟨a, b, c, by rw [ix, if_pos hx]; omega⟩)
    · cases hn : isNum x with
      | true => exact .inl rfl
      | false =>
        have : kd x ≠ 2 := fun e => by rw [(kd_num x).1 e] at hn; cases hn
        refine .inr (.inl ⟨rfl, ?_⟩)
        rw [ar_op]
        unfold ar
        split <;> (try split) <;> omega

/-- All but the last. -/
theorem Its.cut {w : World} {base g cap : Nat} {ks : List Nat} (h : Its w base (.slice (some ⟨g, 0, none⟩) ks.length cap) ks) : Its w base (.slice (some ⟨g, 0, none⟩) ks.dropLast.length cap) ks.dropLast := by
  rcases h.2 with ⟨hv, _⟩ | ⟨g', cap', cur, hv, hb, hh, hc, hm, hs, ht⟩
  · simp at hv
  · simp only [Value.slice.injEq, Option.some.injEq, Addr.mk.injEq, and_true, true_and] at hv
    obtain ⟨rfl, rfl⟩ := hv
    refine ⟨by simp [irow], .inr ⟨g, cap, cur, rfl, hb, hh, by rw [List.length_dropLast]; omega, hm, hs, ?_⟩⟩
    have e : irow ks.dropLast = (irow ks).take ks.dropLast.length := by
      simp only [irow, List.dropLast_eq_take, List.map_take, List.length_take]
      rw [Nat.min_eq_left (by omega)]
    rw [e, ← ht, List.take_take, List.length_dropLast]
    congr 1
    omega
theorem Its.set {w : World} {base g cap : Nat} {ks : List Nat} (h : Its w base (.slice (some ⟨g, 0, none⟩) ks.length cap) ks) (k n : Nat) : Its (w.setCell ⟨g, k, none⟩ (.int .i64 (n : Nat))) base (.slice (some ⟨g, 0, none⟩) (ks.set k n).length cap) (ks.set k n) := by
  have hr := (World.ownsRow.stored h k (.int .i64 (n : Nat))).1
  have e : (irow ks).set k (.int .i64 (n : Nat)) = irow (ks.set k n) := by simp [irow, List.map_set]
  rw [e] at hr
  unfold Its
  rw [List.length_set]
  exact hr
theorem Its.spot {w : World} {base n cap : Nat} {ao : Option Addr} {ks : List Nat} (h : Its w base (.slice ao n cap) ks) (h0 : 0 < ks.length) : ∃ g, ao = some ⟨g, 0, none⟩ ∧ base ≤ g ∧ n = ks.length ∧ ks.length ≤ cap ∧ (∀ j, w.frozen? ⟨g, j, none⟩ = false) := by
  have h' : w.ownsRow base 3 1 (.slice ao n cap) ks.length (irow ks) := h
  rcases h.2 with ⟨hv, e⟩ | ⟨g, cap', cur, hv, hb, hh, hc, _⟩
  · omega
  · injection hv with e1 e2 e3
    subst e1 e2 e3
    exact ⟨g, rfl, hb, rfl, hc, fun j => World.ownsRow.frozenAt h' j⟩
theorem size_int (w0 : World) : (sizeOf (Tryd.prog.elem 28)).run Tryd.prog w0 = .ok 1 w0 := by
  obtain ⟨i, hi, hz0, hz1, hz2⟩ := info_parts Tryd.infoInt
  have e : Tryd.prog.elem 28 = 3 := by kernel_rfl
  rw [e]
  simp [sizeOf, typeInfo, hi, hz1]
set_option maxRecDepth 100000 in
theorem run_cut {g n cap : Nat} (m : Nat) (h : m ≤ cap) (w0 : World) : (Instr.slice 28 (.slice (some ⟨g, 0, none⟩) n cap) none (some (.int .i64 (m : Int))) none).run Tryd.prog w0 = .ok (.slice (some ⟨g, 0, none⟩) m cap) w0 := by
  have := run_slice_h (P := Tryd.prog) w0 28 (some ⟨g, 0, none⟩) n cap Tryd.underlying28 .i64 m (by omega) (by omega)
  rw [this, size_int]
  simp [Result.andThen, sliced, Addr.add]
theorem Its.new (W : World) (k : Nat) : Its (W.alloc (.cells #[.int .i64 (k : Nat)] 3)) W.heap.size (.slice (some ⟨W.heap.size, 0, none⟩) 1 1) [k] :=
  ⟨rfl, .inr ⟨W.heap.size, 1, _, rfl, Nat.le_refl _, heap_alloc_new W _, Nat.le_refl _, by decide, rfl, rfl⟩⟩

theorem wdp_short (s : List UInt8) (p : Nat) : (wdp p s).1.length ≤ s.length ∧ ∀ x ∈ (wdp p s).2, x.2.length ≤ s.length := by
  induction s generalizing p with
  | nil => simp [wdp]
  | cons c r ih =>
    obtain ⟨h1, h2⟩ := ih (p + 1)
    unfold wdp
    split
    · refine ⟨by simp, fun x hx => ?_⟩
      simp only [flush] at hx
      split at hx
      · have := h2 x hx
        simp; omega
      · rcases List.mem_cons.1 hx with rfl | hx
        · simp; omega
        · have := h2 x hx
          simp; omega
    · refine ⟨by simp; omega, fun x hx => ?_⟩
      have := h2 x hx
      simp; omega
/-- No word is longer than the text. -/
theorem texts_short (s : List UInt8) (hs : s.length ≤ 10000) (x : Nat × List UInt8) (hx : x ∈ Wo s 0) : x.2.length ≤ 281474976710656 := by
  obtain ⟨h1, h2⟩ := wdp_short s 0
  unfold Wo at hx
  rw [List.drop_zero] at hx
  simp only [flush] at hx
  split at hx
  · have := h2 x hx
    omega
  · rcases List.mem_cons.1 hx with rfl | hx
    · simp; omega
    · have := h2 x hx
      omega

/-- What is left of a row when noughts are struck. -/
theorem row_step {ns : List (List UInt8)} {L : Nat} {S S' : List Nat} {p : Nat} {x : List UInt8} {r : List (Nat × List UInt8)} (h : rf ns x = 0) (hS : S.dropWhile (fun n => n == 0) = S') :
    rowRun ns L S ((p, x) :: r) = if 17 < S'.length then (22, p) else match S' with
        | [] => (11, p)
        | n :: t => if 0 < ar (kd x) then rowRun ns L (ar (kd x) :: (n - 1) :: t) r else rowRun ns L ((n - 1) :: t) r := by
  simp only [rowRun, hS]
  rw [if_neg (by omega)]
  cases S' <;> rfl

end Go.Proofs.YtnddpalngjmhnaaDoor

namespace Go.Proofs.YtnddpalngjmhnaaDoor
open Go.RowKit

/-- The row of what is open, in memory order; the innermost last. -/
theorem drop_last {S : List Nat} {k : Nat} {t : List Nat} (h : S = k :: t) : S.reverse.dropLast = t.reverse ∧ S.reverse.length = t.length + 1 ∧ ∀ hk : t.length < S.reverse.length, S.reverse[t.length] = k := by
  subst h
  refine ⟨by simp, by simp, fun hk => ?_⟩
  simp

/-- How long a slice is. -/
def lenOf : Value → Nat
  | .slice _ n _ => n
  | _ => 0

set_option maxRecDepth 100000 in
set_option maxHeartbeats 4000000 in
theorem rcheck_any {w : World} {v : Value} {ns : List (List UInt8)} (h : Ns w v ns) (s : List UInt8) (hs0 : s.length ≤ 281474976710656) :
    Calls Tryd.prog 61 #[.string ⟨s.toArray⟩, v] w fun e w' => e = .returned (.tuple #[.int .i64 ((chk ns s).1 : Nat), .int .i64 ((chk ns s).2 : Nat)]) ∧ Kept (fun _ => True) w w' := by
  have HN : Hid (Ns w v ns) := h
  obtain ⟨ao, cap, rfl, -⟩ := h
  obtain ⟨C, hC⟩ : ∃ C, C = chk ns s := ⟨_, rfl⟩
  have HC : Hid (C = chk ns s) := hC
  rw [← hC]
  clear hC
  by_cases hl : 120 < s.length
  · have hl' : (120 : Int) < (s.length : Int) := by omega
    have e1 := HC.out.trans (chk_long hl)
    subst e1
    go_enter Tryd.func61, Tryd.ntmps61
    go_wp2_with fail
    go_ret2
    exact ⟨rfl, Kept.refl _ _⟩
  · have hl' : ¬ (120 : Int) < (s.length : Int) := by omega
    have hs : s.length ≤ 10000 := by omega
    have HS : Hid (s.length ≤ 10000) := hs
    have cw := words_any (w := w) s hs
    go_enter Tryd.func61, Tryd.ntmps61
    go_wp2_with fail
    refine Calls.mono cw ?_
    rintro e W1 ⟨⟨wv, rfl, hW⟩, k1⟩
    clear cw
    obtain ⟨ws, hws⟩ : ∃ ws, ws = Wo s 0 := ⟨_, rfl⟩
    rw [← hws] at hW
    have HR : Hid (C = rowRun ns s.length [1] ws) := by
      show _ = _
      rw [HC.out, row_chk, chk, if_neg hl, hws]
    have HWL : Hid (ws.length ≤ 10000) := by
      have h1 := words_few s
      rw [← hws] at h1
      have h2 := HS.out
      show _ ≤ _
      omega
    have HXL : Hid (∀ i (hi : i < ws.length), (ws[i]).2.length ≤ 281474976710656) := by
      intro i hi
      exact texts_short s hs _ (by rw [← hws]; exact List.getElem_mem hi)
    have HV : Hid (Wv W1 wv ws) := hW.view
    have HK1 : Hid (Kept (fun _ => True) w W1) := k1
    obtain ⟨wao, wcap, rfl, hwc, hwx⟩ := hW.view
    have HWX : Hid _ := hwx
    have HI0 : Hid _ := Its.new W1 1
    clear hws hW k1 hwx hwc HC
    go_wp2_with fail
    go_loopw [7, 8, 9, 10, 11, 12] (fun t7 t8 _ _ _ _ wr => ∃ (i : Nat) (S : List Nat), i ≤ ws.length ∧ t8 = .int .i64 (i : Nat) ∧ C = rowRun ns s.length S (ws.drop i) ∧ S.length ≤ i + 1 ∧ (∀ k ∈ S, k ≤ 2) ∧ Its wr W1.heap.size t7 S.reverse ∧ Kept (fun _ => True) W1 wr) (fun _ t8 _ _ _ _ _ => ws.length - (intOf t8).toNat)
    case atStart => exact ⟨0, [1], Nat.zero_le _, rfl, HR.out, Nat.le_refl _, by simp, HI0.out, (Kept.refl _ _).alloc _⟩
    case round =>
      obtain ⟨i, S, hi, rfl, hC, hSl, hS2, hI, hk⟩ := hrel
      have HCi : Hid (C = rowRun ns s.length S (ws.drop i)) := hC
      have HKi : Hid (Kept (fun _ => True) W1 wr) := hk
      have HS2 : Hid (∀ k ∈ S, k ≤ 2) := hS2
      obtain ⟨sao, scap, rfl⟩ := hI.shape
      rw [List.length_reverse] at hI ⊢
      have HI : Hid (Its wr W1.heap.size (.slice sao S.length scap) S.reverse) := hI
      clear hC hk hS2 hI
      have hwl10 : ws.length ≤ 10000 := HWL.out
      by_cases hlt : i < ws.length
      · obtain ⟨wb, woff, rfl, hwb, hwx⟩ := HWX.out (by omega)
        obtain ⟨q0, q1⟩ := hwx i hlt
        have q0 := (kept_cell HKi.out hwb trivial).trans q0
        have q1 := (kept_cell HKi.out hwb trivial).trans q1
        have HDR : Hid (ws.drop i = ws[i] :: ws.drop (i + 1)) := List.drop_eq_getElem_cons hlt
        have hxl := HXL.out i hlt
        have i1 : (i : Int) < (ws.length : Int) := by omega
        have i0 : (0 : Int) ≤ (i : Int) := by omega
        clear hwx
        generalize ws[i] = px at *
        obtain ⟨p, x⟩ := px
        simp only at q0 q1 hxl
        have cnum := fun W => number_any (w := W) x hxl
        have ctak := fun W => takes_any (w := W) x
        have cnam := fun W => rname_any (w := W) x hxl
        have cidx := rindex_any (HN.out.all (HK1.out.trans HKi.out)) x
        have HRF : Hid (rf ns x ≠ 0 → C = (rf ns x, p)) := by
          intro hr
          rw [HCi.out, HDR.out]
          simp only [rowRun, if_pos hr]
        rcases rf_cases ns x with ⟨hk1, hr⟩ | ⟨hk3, hx, hr⟩ | ⟨-, -, hr⟩
        · have e1 : Hid (C = (12, p)) := by show C = _; rw [HRF.out (by omega), hr]
          obtain ⟨n1, n2, n3⟩ := kind_one hk1
          rw [n1] at cnum
          rw [n2] at ctak
          rw [n3] at cnam
          clear cidx HRF hk1 hr n1 n2 n3
          go_wp2_with fail
          refine Calls.mono (cnum _) ?_
          rintro e wr ⟨rfl, rfl⟩
          go_wp2_with fail
          refine Calls.mono (ctak _) ?_
          rintro e wr ⟨rfl, rfl⟩
          go_wp2_with fail
          refine Calls.mono (cnam _) ?_
          rintro e wr ⟨rfl, rfl⟩
          go_wp2_with fail
          go_quiet (fail)
          go_wp2_with fail
          go_ret2
          exact ⟨by rw [e1.out]; rfl, (HK1.out.trans HKi.out).drewN _⟩
        · have e1 : Hid (C = (20, p)) := by show C = _; rw [HRF.out (by omega), hr]
          obtain ⟨n1, n2, n3⟩ := kind_name hk3
          have n4 : ix ns x = -1 := by rw [ix, if_neg hx]
          rw [n1] at cnum
          rw [n2] at ctak
          rw [n3] at cnam
          rw [n4] at cidx
          clear HRF hk3 hr n1 n2 n3 n4 hx
          go_wp2_with fail
          refine Calls.mono (cnum _) ?_
          rintro e wr ⟨rfl, rfl⟩
          go_wp2_with fail
          refine Calls.mono (ctak _) ?_
          rintro e wr ⟨rfl, rfl⟩
          go_wp2_with fail
          refine Calls.mono (cnam _) ?_
          rintro e wr ⟨rfl, rfl⟩
          go_wp2_with fail
          refine Calls.mono cidx ?_
          rintro e wr ⟨rfl, rfl⟩
          go_wp2_with fail
          go_quiet (fail)
          go_wp2_with fail
          go_ret2
          exact ⟨by rw [e1.out]; rfl, (HK1.out.trans HKi.out).drewN _⟩
        · have HF : Hid _ := kind_fine hr
          have HAR : Hid (ar (opOf x) = ar (kd x)) := ar_op x
          have HRF0 : Hid (rf ns x = 0) := hr
          have ha2 : ar (opOf x) ≤ 2 := by unfold ar; split <;> (try split) <;> omega
          clear HRF hr
          generalize isNum x = nb at *
          generalize ar (opOf x) = A at *
          generalize isName x = nmb at *
          generalize ix ns x = ixx at *
          generalize (if nb = true then num x else 0) = zz at *
          go_wp2_with fail
          refine Calls.mono (cnum _) ?_
          rintro e wr ⟨rfl, rfl⟩
          go_wp2_with fail
          refine Calls.mono (ctak _) ?_
          rintro e wr ⟨rfl, rfl⟩
          clear cnum ctak
          go_upto_region 11 with fail
          go_cut [48] from 38 to 47 (fun t48 wx => t48 = .bool false ∧ wr = wx)
          case first =>
            rcases HF.out with h1 | ⟨h1, h2⟩ | ⟨h1, h2, h3, h4⟩
            · subst h1
              go_wp2_with fail
              go_meet
              exact ⟨rfl, rfl⟩
            · subst h1
              have h2' : ((A : Int) == 0) = false := by simp; omega
              go_wp2_with fail
              go_meet
              exact ⟨rfl, rfl⟩
            · subst h1 h2 h3
              go_wp2_with fail
              refine Calls.mono (cnam _) ?_
              rintro e wr ⟨rfl, rfl⟩
              go_wp2_with fail
              go_meet
              exact ⟨rfl, rfl⟩
          case rest =>
          obtain ⟨rfl, rfl⟩ := hcut
          go_upto_region 13 with fail
          go_cut [65] from 54 to 64 (fun t65 wx => t65 = .bool false ∧ wr = wx)
          case first =>
            rcases HF.out with h1 | ⟨h1, h2⟩ | ⟨h1, h2, h3, h4⟩
            · subst h1
              go_wp2_with fail
              go_meet
              exact ⟨rfl, rfl⟩
            · subst h1
              have h2' : ((A : Int) == 0) = false := by simp; omega
              go_wp2_with fail
              go_meet
              exact ⟨rfl, rfl⟩
            · subst h1 h2 h3
              have h4' : decide (ixx < 0) = false := by simp; omega
              go_wp2_with fail
              refine Calls.mono cidx ?_
              rintro e wr ⟨rfl, rfl⟩
              go_wp2_with fail
              go_meet
              exact ⟨rfl, rfl⟩
          case rest =>
          obtain ⟨rfl, rfl⟩ := hcut
          clear cnam cidx HF
          have HST : Hid (∀ S', S.dropWhile (fun n => n == 0) = S' → C = if 17 < S'.length then (22, p) else match S' with
              | [] => (11, p)
              | n :: t => if 0 < A then rowRun ns s.length (A :: (n - 1) :: t) (ws.drop (i + 1)) else rowRun ns s.length ((n - 1) :: t) (ws.drop (i + 1))) := by
            intro S' hS'
            rw [HCi.out, HDR.out, row_step HRF0.out hS', HAR.out] <;> cases S' <;> rfl
          have hSl2 : S.length ≤ 10001 := by have := HWL.out; omega
          go_wp2_with fail
          go_loop [7] (fun t7 => ∃ S' : List Nat, S'.dropWhile (fun n => n == 0) = S.dropWhile (fun n => n == 0) ∧ S'.length ≤ S.length ∧ (∀ k ∈ S', k ≤ 2) ∧ Its wr W1.heap.size t7 S'.reverse) (fun t7 => lenOf t7)
          case atStart => exact ⟨S, rfl, Nat.le_refl _, HS2.out, HI.out⟩
          case round =>
            obtain ⟨S', hd, hl2, h22, hI'⟩ := hrel
            have HD' : Hid (S'.dropWhile (fun n => n == 0) = S.dropWhile (fun n => n == 0)) := hd
            have H22 : Hid (∀ k ∈ S', k ≤ 2) := h22
            obtain ⟨sao', scap', rfl⟩ := hI'.shape
            rw [List.length_reverse] at hI' ⊢
            have HI' : Hid (Its wr W1.heap.size (.slice sao' S'.length scap') S'.reverse) := hI'
            clear hd h22 hI' HI HCi HDR HRF0 HAR
            cases S' with
            | nil =>
              have e1 : Hid (C = (11, p)) := by
                show C = _
                rw [HST.out [] (by rw [← HD'.out]; rfl)]
                rfl
              go_wp2_with fail
              go_quiet (fail)
              go_wp2_with fail
              go_ret2
              exact ⟨by rw [e1.out]; rfl, (HK1.out.trans HKi.out).drewN _⟩
            | cons k t =>
              obtain ⟨d1, d2, d3⟩ := drop_last (S := k :: t) rfl
              obtain ⟨g, rfl, hbg, -, hcap, hfz⟩ := HI'.out.spot (by simp)
              have HIt : Hid (Its wr W1.heap.size (.slice (some ⟨g, 0, none⟩) (t.length + 1) scap') (k :: t).reverse) := HI'.out
              obtain ⟨g', e2, q2⟩ := HI'.out.at t.length (by rw [d2]; omega)
              rw [d3] at q2
              cases e2
              rw [d2] at hcap
              have hf := hfz t.length
              have ht1 : (0 : Int) < (t.length : Int) + 1 := by omega
              simp only [List.length_cons] at hl2 ⊢
              clear hfz HI' d2 d3
              by_cases hk0 : k = 0
              · subst hk0
                have hrc := run_cut (g := g) (n := t.length + 1) (cap := scap') t.length (by omega)
                have HIc : Hid (Its wr W1.heap.size (.slice (some ⟨g, 0, none⟩) t.length scap') t.reverse) := by
                  have h9 := Its.cut (ks := (0 :: t).reverse) (by simpa using HIt.out)
                  rw [d1] at h9
                  show Its _ _ _ _
                  simpa using h9
                clear d1 HIt
                go_wp2_with fail
                go_round
                case rel => exact ⟨t, by rw [← HD'.out]; rfl, by omega, fun k hk => H22.out k (List.mem_cons_of_mem _ hk), HIc.out⟩
                case measure => simp [lenOf]
              · have hk0' : ((k : Int) == 0) = false := by simp; omega
                have hk2 : k ≤ 2 := H22.out k (by simp)
                have HST2 : Hid (C = if 17 < (k :: t).length then (22, p) else if 0 < A then rowRun ns s.length (A :: (k - 1) :: t) (ws.drop (i + 1)) else rowRun ns s.length ((k - 1) :: t) (ws.drop (i + 1))) := by
                  show C = _
                  rw [HST.out (k :: t) (by rw [← HD'.out]; simp [hk0])]
                clear HST HD'
                by_cases h17 : 16 < t.length
                · have h17' : (16 : Int) < (t.length : Int) := by omega
                  have e1 : Hid (C = (22, p)) := by show C = _; rw [HST2.out, if_pos (by simp; omega)]
                  go_wp2_with fail
                  go_quiet (fail)
                  go_wp2_with fail
                  go_ret2
                  exact ⟨by rw [e1.out]; rfl, (HK1.out.trans HKi.out).drewN _⟩
                · have h17' : ¬ (16 : Int) < (t.length : Int) := by omega
                  have HSet : Hid (Its (wr.setCell ⟨g, t.length, none⟩ (.int .i64 ((k : Int) - 1))) W1.heap.size (.slice (some ⟨g, 0, none⟩) (t.length + 1) scap') ((k - 1) :: t).reverse) := by
                    have h9 := Its.set (ks := (k :: t).reverse) (by simpa using HIt.out) t.length (k - 1)
                    have e3 : (k :: t).reverse.set t.length (k - 1) = ((k - 1) :: t).reverse := by
                      rw [List.reverse_cons, List.reverse_cons, List.set_append_right _ _ (by simp)]
                      simp
                    have e4 : ((k - 1 : Nat) : Int) = (k : Int) - 1 := by omega
                    rw [e3, e4] at h9
                    show Its _ _ _ _
                    simpa using h9
                  have HKs : Hid (Kept (fun _ => True) W1 (wr.setCell ⟨g, t.length, none⟩ (.int .i64 ((k : Int) - 1)))) := HKi.out.fresh ((Kept.refl (· ≠ g) _).setCell (by simp) _) hbg
                  have hne : ¬ ((t.length : Int) + 1 = 0) := by omega
                  rw [if_neg (by simp; omega)] at HST2
                  clear d1 HIt
                  by_cases hA : 0 < A
                  · have hA' : (0 : Int) < (A : Int) := by omega
                    rw [if_pos hA] at HST2
                    have HG9 : Hid (((wr.setCell ⟨g, t.length, none⟩ (.int .i64 ((k : Int) - 1))).alloc (.cells #[.int .i64 (A : Nat)] 3)).heap[wr.heap.size]? = some (.cells #[.int .i64 (A : Nat)] 3 (0, 0))) := by
                      have h9 := heap_alloc_new (wr.setCell ⟨g, t.length, none⟩ (.int .i64 ((k : Int) - 1))) (.cells #[.int .i64 (A : Nat)] 3)
                      have e5 : (wr.setCell ⟨g, t.length, none⟩ (.int .i64 ((k : Int) - 1))).heap.size = wr.heap.size := by simp [World.setCell]
                      rw [e5] at h9
                      exact h9
                    have HLR : Hid (((k - 1) :: t).reverse.length = t.length + 1) := by show _ = _; simp
                    go_wp2_with (at_builtin; refine wpList_append_int rfl (.tmp 115) (.tmp 117) rfl W1.heap.size (.slice (some ⟨g, 0, none⟩) (t.length + 1) scap') ((k - 1) :: t).reverse rfl (HSet.out.fresh _) (Nat.le_trans HKs.out.size (by simp)) wr.heap.size rfl A (0, 0) HG9.out (by rw [HLR.out]; omega) ?_; intro ao9 cap9 w9 t9 g9)
                    go_roundw
                    case rel => exact ⟨i + 1, A :: (k - 1) :: t, by omega, by go_num, HST2.out, by simp at hSl hl2 ⊢; omega, by intro z hz; simp at hz; rcases hz with rfl | rfl | hz; exact ha2; omega; exact H22.out z (List.mem_cons_of_mem _ hz), by simpa using t9, HSet.out.grown HKs.out g9⟩
                    case measure => simp [intOf]; omega
                  · have hA' : ¬ (0 : Int) < (A : Int) := by omega
                    rw [if_neg hA] at HST2
                    go_wp2_with fail
                    go_roundw
                    case rel => exact ⟨i + 1, (k - 1) :: t, by omega, by go_num, HST2.out, by simp at hSl hl2 ⊢; omega, by intro z hz; simp at hz; rcases hz with rfl | hz; omega; exact H22.out z (List.mem_cons_of_mem _ hz), HSet.out, HKs.out⟩
                    case measure => simp [intOf]; omega
      · have i1 : ¬ (i : Int) < (ws.length : Int) := by omega
        have HEN : Hid (C = if S.any (fun n => decide (0 < n)) = true then (10, s.length) else (0, 0)) := by
          show C = _
          rw [HCi.out, List.drop_eq_nil_of_le (by omega)]
          rfl
        go_wp2_with fail
        go_loop [13] (fun t13 => ∃ j : Nat, j ≤ S.length ∧ t13 = .int .i64 (j : Nat) ∧ ∀ k ∈ S.reverse.take j, k = 0) (fun t13 => S.length - (intOf t13).toNat)
        case atStart => exact ⟨0, Nat.zero_le _, rfl, by simp⟩
        case round =>
          obtain ⟨j, hj, rfl, h0⟩ := hrel
          have H0 : Hid (∀ k ∈ S.reverse.take j, k = 0) := h0
          clear h0
          by_cases hlt2 : j < S.length
          · obtain ⟨g, rfl, q2⟩ := HI.out.at j (by rw [List.length_reverse]; exact hlt2)
            have HTK : Hid (S.reverse.take (j + 1) = S.reverse.take j ++ [S.reverse[j]'(by simpa using hlt2)]) := List.take_succ_eq_append_getElem (by simpa using hlt2)
            have HME : Hid (S.reverse[j]'(by simpa using hlt2) ∈ S) := List.mem_reverse.1 (List.getElem_mem _)
            have j1 : (j : Int) < (S.length : Int) := by omega
            have j0 : (0 : Int) ≤ (j : Int) := by omega
            generalize S.reverse[j]'(by simpa using hlt2) = z at *
            by_cases hz : 0 < z
            · have hz' : (0 : Int) < (z : Int) := by omega
              have e1 : Hid (C = (10, s.length)) := by
                show C = _
                rw [HEN.out, if_pos]
                exact List.any_eq_true.2 ⟨z, HME.out, by simpa using hz⟩
              go_wp2_with fail
              go_ret2
              exact ⟨by rw [e1.out]; rfl, HK1.out.trans HKi.out⟩
            · have hz' : ¬ (0 : Int) < (z : Int) := by omega
              have HZ : Hid (z = 0) := by show z = 0; omega
              clear hz
              go_wp2_with fail
              go_round
              case rel =>
                refine ⟨j + 1, by omega, by go_num, fun k hk => ?_⟩
                rw [HTK.out] at hk
                rcases List.mem_append.1 hk with hk | hk
                · exact H0.out k hk
                · rw [List.mem_singleton.1 hk]; exact HZ.out
              case measure => simp [intOf]; omega
          · have j1 : ¬ (j : Int) < (S.length : Int) := by omega
            have e1 : Hid (C = (0, 0)) := by
              show C = _
              rw [HEN.out, if_neg]
              intro h
              obtain ⟨z, hz1, hz2⟩ := List.any_eq_true.1 h
              have := H0.out z (by rw [List.take_of_length_le (by simp; omega)]; exact List.mem_reverse.2 hz1)
              simp at hz2
              omega
            go_wp2_with fail
            go_ret2
            exact ⟨by rw [e1.out]; rfl, HK1.out.trans HKi.out⟩

end Go.Proofs.YtnddpalngjmhnaaDoor

namespace Go.Proofs.YtnddpalngjmhnaaDoor
open Go.RowKit

theorem size_rw (w0 : World) : (sizeOf (Tryd.prog.elem 95)).run Tryd.prog w0 = .ok 2 w0 := by
  obtain ⟨i, hi, hz0, hz1, hz2⟩ := info_parts Tryd.infoRW
  have e : Tryd.prog.elem 95 = 102 := by kernel_rfl
  rw [e]
  simp [sizeOf, typeInfo, hi, hz1]
set_option maxRecDepth 100000 in
/-- All but the first m words. -/
theorem words_cut {b off n cap : Nat} (m : Nat) (h1 : m < n) (h2 : n ≤ cap) (w0 : World) : (Instr.slice 95 (.slice (some ⟨b, off, none⟩) n cap) (some (.int .i64 (m : Int))) none none).run Tryd.prog w0 = .ok (.slice (some ⟨b, off + m * 2, none⟩) (n - m) (cap - m)) w0 := by
  have := run_slice_l (P := Tryd.prog) w0 95 (some ⟨b, off, none⟩) n cap Tryd.underlying95 .i64 m (by omega) (by omega)
  rw [this, size_rw]
  have e1 : ¬ (cap = m) := by omega
  simp [Result.andThen, sliced, Addr.add, e1]
theorem Wv.drop {w : World} {b off n cap : Nat} {ws : List (Nat × List UInt8)} (h : Wv w (.slice (some ⟨b, off, none⟩) n cap) ws) (m : Nat) (hm : m < ws.length) : Wv w (.slice (some ⟨b, off + m * 2, none⟩) (n - m) (cap - m)) (ws.drop m) := by
  obtain ⟨ao, cap', e, hc, hx⟩ := h
  injection e with e1 e2 e3
  subst e1 e2 e3
  obtain ⟨b', off', e, hb, hx⟩ := hx (by omega)
  cases e
  refine ⟨_, _, by rw [List.length_drop], by rw [List.length_drop]; omega, fun _ => ⟨b, off + m * 2, rfl, hb, fun i hi => ?_⟩⟩
  have := hx (m + i) (by rw [List.length_drop] at hi; omega)
  rw [List.getElem_drop]
  rw [show off + m * 2 + i * 2 = off + (m + i) * 2 by omega]
  exact this
theorem op_word {x : List UInt8} (h : 4 ≤ kd x) : x ∈ opWords := by
  have h1 := kd_op x h
  unfold opOf at h1
  by_cases a1 : x = [110, 111, 116]
  · subst a1; decide
  · by_cases a2 : x = [97, 110, 100]
    · subst a2; decide
    · by_cases a3 : x = [111, 114]
      · subst a3; decide
      · by_cases a4 : x = [108, 116]
        · subst a4; decide
        · by_cases a5 : x = [101, 113]
          · subst a5; decide
          · by_cases a6 : x = [97, 100, 100]
            · subst a6; decide
            · by_cases a7 : x = [115, 117, 98]
              · subst a7; decide
              · simp [a1, a2, a3, a4, a5, a6, a7] at h1
                omega
/-- How many words a guard has. -/
theorem gd_drop (ns : List (List UInt8)) (f : Nat) (xs r : List (List UInt8)) (h : gd ns f xs = .inr r) : ∃ k, 1 ≤ k ∧ k ≤ xs.length ∧ r = xs.drop k := by
  induction f generalizing xs r with
  | zero => cases h
  | succ f ih =>
    obtain ⟨f', x, ys, hf, rfl, h1, h3, ht⟩ := gd_cons h
    obtain rfl : f = f' := by omega
    have hk := kd_cases x
    have ha : ar (kd x) = 0 ∨ ar (kd x) = 1 ∨ ar (kd x) = 2 := by unfold ar; split <;> (try split) <;> omega
    rcases ha with ha | ha | ha
    · rw [ha] at ht
      simp only [times, Sum.inr.injEq] at ht
      exact ⟨1, Nat.le_refl _, by simp, by rw [← ht]; rfl⟩
    · rw [ha] at ht
      obtain ⟨k, k1, k2, rfl⟩ := ih ys r (times_one ht)
      exact ⟨k + 1, by omega, by simp; omega, rfl⟩
    · rw [ha] at ht
      obtain ⟨r1, t1, t2⟩ := times_two ht
      obtain ⟨k, k1, k2, rfl⟩ := ih ys r1 t1
      obtain ⟨m, m1, m2, rfl⟩ := ih _ r t2
      rw [List.length_drop] at m2
      exact ⟨k + m + 1, by omega, by simp; omega, by rw [List.drop_drop]; simp⟩

set_option maxRecDepth 100000 in
set_option maxHeartbeats 4000000 in
theorem reval_word {u v : Value} {ns : List (List UInt8)} {vs : List Int} (hl : ns.length ≤ vs.length) (f : Nat) : ∀ {w : World} {lv : Value} {ws : List (Nat × List UInt8)} (_ : Ns w v ns) (_ : Vi w u vs) (_ : Wv w lv ws) (_ : ∀ x ∈ ws, x.2.length ≤ 281474976710656) (_ : ws.length ≤ 10000) (r : List (List UInt8)) (_ : gd ns f (ws.map Prod.snd) = .inr r),
    Calls Tryd.prog 65 #[lv, v, u] w fun e w' => (∃ kk : Nat, e = .returned (.tuple #[.int .i64 (vl (env ns vs) f (ws.map Prod.snd)).1, .int .i64 (kk : Nat)]) ∧ 1 ≤ kk ∧ kk ≤ ws.length ∧ r = (ws.map Prod.snd).drop kk) ∧ w' = w := by
  induction f with
  | zero => intro w lv ws _ _ _ _ _ r h; cases h
  | succ f ih =>
    intro w lv ws hn hv hw hxl hwl r hg
    have HI : Hid (∀ {w : World} {lv : Value} {ws : List (Nat × List UInt8)} (_ : Ns w v ns) (_ : Vi w u vs) (_ : Wv w lv ws) (_ : ∀ x ∈ ws, x.2.length ≤ 281474976710656) (_ : ws.length ≤ 10000) (r : List (List UInt8)) (_ : gd ns f (ws.map Prod.snd) = .inr r),
      Calls Tryd.prog 65 #[lv, v, u] w fun e w' => (∃ kk : Nat, e = .returned (.tuple #[.int .i64 (vl (env ns vs) f (ws.map Prod.snd)).1, .int .i64 (kk : Nat)]) ∧ 1 ≤ kk ∧ kk ≤ ws.length ∧ r = (ws.map Prod.snd).drop kk) ∧ w' = w) := ih
    clear ih
    cases ws with
    | nil => cases hg
    | cons px ws =>
      obtain ⟨p, x⟩ := px
      obtain ⟨f', x', ys, hf', hxs, hk1, hk3, hT⟩ := gd_cons hg
      obtain rfl : f = f' := by omega
      simp only [List.map_cons, List.cons.injEq] at hxs
      obtain ⟨rfl, rfl⟩ := hxs
      have HT : Hid (times (gd ns f) (ar (kd x)) (ws.map Prod.snd) = .inr r) := hT
      have HN : Hid (Ns w v ns) := hn
      have HV : Hid (Vi w u vs) := hv
      have HW : Hid (Wv w lv ((p, x) :: ws)) := hw
      have HXL : Hid (∀ x ∈ ws, x.2.length ≤ 281474976710656) := fun z hz => hxl z (List.mem_cons_of_mem _ hz)
      have HWL : Hid (ws.length ≤ 10000) := by show _ ≤ _; simp at hwl; omega
      have hx1 : x.length ≤ 281474976710656 := hxl (p, x) (by simp)
      obtain ⟨V, hV⟩ : ∃ V, V = (vl (env ns vs) (f + 1) (((p, x) :: ws).map Prod.snd)).1 := ⟨_, rfl⟩
      rw [← hV]
      have HVV : Hid (V = (vl (env ns vs) (f + 1) (x :: ws.map Prod.snd)).1) := hV
      obtain ⟨ao, cap, rfl, -⟩ := hn
      obtain ⟨bo, bcap, rfl, hvc⟩ := hv
      obtain ⟨wao, wcap, rfl, hwc, hwx⟩ := hw
      obtain ⟨b, off, rfl, hb, hwx⟩ := hwx (by simp)
      obtain ⟨q0, q1⟩ := hwx 0 (by simp)
      simp only [Nat.zero_mul, Nat.add_zero, List.getElem_cons_zero] at q0 q1
      have HVC : Hid (0 < vs.length → ∃ b off, bo = some ⟨b, off, none⟩ ∧ b < w.heap.size ∧ ∀ i (h : i < vs.length), w.cell? ⟨b, off + i, none⟩ = some (.int .i64 (vs[i]))) := hvc
      have HL : Hid (ns.length ≤ vs.length) := hl
      have hkc := kd_cases x
      have cnum := fun W => number_any (w := W) x hx1
      have ctak := fun W => takes_any (w := W) x
      have hl0 : (0 : Int) < (ws.length : Int) + 1 := by omega
      simp only [List.length_cons] at hwc hwl ⊢
      clear hwx hvc hg hT hf' hV hxl hl
      have HWD : Hid (∀ m, m < ws.length + 1 → Wv w (.slice (some ⟨b, off + m * 2, none⟩) (ws.length + 1 - m) (wcap - m)) (((p, x) :: ws).drop m)) := fun m hm => HW.out.drop m (by simpa using hm)
      by_cases h2 : kd x = 2
      · have hn2 : isNum x = true := (kd_num x).1 h2
        have e1 : Hid (V = num x) := by show V = _; rw [HVV.out]; simp [vl, h2]
        have hr : Hid (ws.map Prod.snd = r) := by
          have := HT.out
          rw [h2] at this
          show _ = r
          simpa [ar, times] using this
        rw [hn2] at cnum
        simp only [if_true] at cnum
        clear ctak
        go_enter Tryd.func65, Tryd.ntmps65
        go_wp2_with fail
        refine Calls.mono (cnum _) ?_
        rintro e w ⟨rfl, rfl⟩
        go_wp2_with fail
        go_ret2
        exact ⟨⟨1, by rw [e1.out]; rfl, Nat.le_refl _, by omega, by rw [← hr.out]; rfl⟩, rfl⟩
      · have hn2 : isNum x = false := by
          cases hx : isNum x with
          | false => rfl
          | true => exact absurd ((kd_num x).2 hx) h2
        rw [hn2] at cnum
        simp only [Bool.false_eq_true, if_false] at cnum
        by_cases h3 : kd x = 3
        · have hx : x ∈ ns := hk3 h3
          obtain ⟨-, ha0, -⟩ := kind_name h3
          rw [ha0] at ctak
          have hr : Hid (ws.map Prod.snd = r) := by
            have := HT.out
            rw [h3] at this
            show _ = r
            simpa [ar, times] using this
          have hlt : ns.idxOf x < vs.length := Nat.lt_of_lt_of_le (List.idxOf_lt_length_of_mem hx) HL.out
          have hix : ix ns x = (ns.idxOf x : Int) := if_pos hx
          have e1 : Hid (V = vs[ns.idxOf x]) := by
            show V = _
            rw [HVV.out]
            simp only [vl]
            rw [if_neg h2, if_pos h3]
            simp [env, hlt]
          obtain ⟨vb, voff, rfl, hvb, hvc⟩ := HVC.out (by omega)
          have cidx := rindex_any HN.out x
          rw [hix] at cidx
          have q2 := hvc _ hlt
          clear hvc hix hx hk3 ha0
          generalize vs[ns.idxOf x] = z at *
          generalize ns.idxOf x = j at *
          have j1 : (j : Int) < (vs.length : Int) := by omega
          have j0 : (0 : Int) ≤ (j : Int) := by omega
          go_enter Tryd.func65, Tryd.ntmps65
          go_wp2_with fail
          refine Calls.mono (cnum _) ?_
          rintro e w ⟨rfl, rfl⟩
          go_wp2_with fail
          refine Calls.mono (ctak _) ?_
          rintro e w ⟨rfl, rfl⟩
          go_wp2_with fail
          refine Calls.mono cidx ?_
          rintro e w ⟨rfl, rfl⟩
          go_wp2_with fail
          go_ret2
          exact ⟨⟨1, by rw [e1.out]; rfl, Nat.le_refl _, by omega, by rw [← hr.out]; rfl⟩, rfl⟩
        · have hk4 : 4 ≤ kd x := by omega
          have hop := op_word hk4
          have ct := fun W b => rtruth_any (w := W) b
          simp only [opWords, List.mem_cons, List.not_mem_nil, or_false] at hop
          clear hk3 hkc hx1 h2 h3 hn2 hk1
          have HGD : Hid (∀ {r1}, gd ns f (ws.map Prod.snd) = .inr r1 → ∃ k, 1 ≤ k ∧ k ≤ ws.length ∧ r1 = (ws.map Prod.snd).drop k) := fun h => by
            obtain ⟨k, a1, a2, a3⟩ := gd_drop ns f _ _ h
            exact ⟨k, a1, by simpa using a2, a3⟩
          rcases hop with rfl | rfl | rfl | rfl | rfl | rfl | rfl
          · have hT1 : gd ns f (ws.map Prod.snd) = .inr r := times_one (by have := HT.out; rw [show kd [110, 111, 116] = 4 by decide +kernel] at this; exact this)
            have hpos : 0 < ws.length := by obtain ⟨k, a1, a2, -⟩ := HGD.out hT1; omega
            have e1 : Hid (V = tr (decide ((vl (env ns vs) f (ws.map Prod.snd)).1 = 0))) := by
              show V = _
              rw [HVV.out]
              simp only [vl]
              rw [if_neg (by decide +kernel), if_neg (by decide +kernel), if_pos (by decide +kernel)]
            have hc1 : ∀ w0, (Instr.slice 95 (.slice (some ⟨b, off, none⟩) (ws.length + 1) wcap) (some (.int .i64 1)) none none).run Tryd.prog w0 = .ok (.slice (some ⟨b, off + 2, none⟩) ws.length (wcap - 1)) w0 := words_cut 1 (by omega) hwc
            have ck := HI.out HN.out HV.out (HWD.out 1 (by omega)) HXL.out HWL.out r hT1
            simp only [Nat.one_mul, Nat.add_sub_cancel, List.drop_succ_cons, List.drop_zero] at ck
            clear hT1 hk4
            generalize (vl (env ns vs) f (ws.map Prod.snd)).1 = A at *
            go_enter Tryd.func65, Tryd.ntmps65
            go_wp2_with fail
            refine Calls.mono (cnum _) ?_
            rintro e w ⟨rfl, rfl⟩
            go_wp2_with fail
            refine Calls.mono (ctak _) ?_
            rintro e w ⟨rfl, rfl⟩
            go_wp2_with fail
            refine Calls.mono ck ?_
            rintro e w ⟨⟨kk, rfl, b1, b2, b3⟩, rfl⟩
            have HB3 : Hid (r = (ws.map Prod.snd).drop kk) := b3
            clear b3 ck
            by_cases ha : A = 0
            · subst ha
              go_wp2_with fail
              refine Calls.mono (ct _ _) ?_
              rintro e w ⟨rfl, rfl⟩
              go_wp2_with fail
              go_ret2
              exact ⟨⟨1 + kk, by rw [e1.out]; go_num, by omega, by omega, by rw [HB3.out, Nat.add_comm]; rfl⟩, rfl⟩
            · have ha' : (A == 0) = false := by simpa using ha
              have e2 : Hid (V = 0) := by show V = 0; rw [e1.out, decide_eq_false ha]; rfl
              clear ha
              go_wp2_with fail
              refine Calls.mono (ct _ _) ?_
              rintro e w ⟨rfl, rfl⟩
              go_wp2_with fail
              go_ret2
              exact ⟨⟨1 + kk, by rw [e2.out]; go_num, by omega, by omega, by rw [HB3.out, Nat.add_comm]; rfl⟩, rfl⟩
          · obtain ⟨r1, hT1, hT2⟩ := times_two (by have := HT.out; rw [show kd [97, 110, 100] = 5 by decide +kernel] at this; exact this)
            have hg1 := gd_vl ns (env ns vs) f _ r1 hT1
            have hpos : 0 < ws.length := by obtain ⟨k, a1, a2, -⟩ := HGD.out hT1; omega
            have HR1 : Hid (0 < r1.length) := by obtain ⟨k, a1, a2, -⟩ := gd_drop ns f _ _ hT2; show _ < _; omega
            have e1 : Hid (V = jn 5 (vl (env ns vs) f (ws.map Prod.snd)).1 (vl (env ns vs) f r1).1) := by
              show V = _
              rw [HVV.out]
              simp only [vl]
              rw [if_neg (by decide +kernel), if_neg (by decide +kernel), if_neg (by decide +kernel), hg1, show kd [97, 110, 100] = 5 by decide +kernel]
            have hc1 : ∀ w0, (Instr.slice 95 (.slice (some ⟨b, off, none⟩) (ws.length + 1) wcap) (some (.int .i64 1)) none none).run Tryd.prog w0 = .ok (.slice (some ⟨b, off + 2, none⟩) ws.length (wcap - 1)) w0 := words_cut 1 (by omega) hwc
            have ck := HI.out HN.out HV.out (HWD.out 1 (by omega)) HXL.out HWL.out r1 hT1
            simp only [Nat.one_mul, Nat.add_sub_cancel, List.drop_succ_cons, List.drop_zero] at ck
            have HT2 : Hid (gd ns f r1 = .inr r) := hT2
            clear hT1 hT2 hk4 hg1
            generalize (vl (env ns vs) f (ws.map Prod.snd)).1 = A at *
            go_enter Tryd.func65, Tryd.ntmps65
            go_wp2_with fail
            refine Calls.mono (cnum _) ?_
            rintro e w ⟨rfl, rfl⟩
            go_wp2_with fail
            refine Calls.mono (ctak _) ?_
            rintro e w ⟨rfl, rfl⟩
            go_wp2_with fail
            refine Calls.mono ck ?_
            rintro e w ⟨⟨kk, rfl, b1, b2, b3⟩, rfl⟩
            have HB3 : Hid (r1 = (ws.map Prod.snd).drop kk) := b3
            have hkl : kk < ws.length := by have := HR1.out; rw [b3, List.length_drop, List.length_map] at this; omega
            have hc2 := words_cut (b := b) (off := off) (n := ws.length + 1) (cap := wcap) (1 + kk) (by omega) hwc
            have hci : ((1 + kk : Nat) : Int) = 1 + (kk : Int) := by omega
            rw [hci] at hc2
            have ck2 := HI.out HN.out HV.out (HWD.out (1 + kk) (by omega)) (fun z hz => HXL.out z (List.mem_of_mem_drop (by rw [Nat.add_comm] at hz; exact hz))) (by have := HWL.out; rw [List.length_drop]; simp; omega) r (by
              have e9 : (((p, [97, 110, 100]) :: ws).drop (1 + kk)).map Prod.snd = r1 := by
                rw [Nat.add_comm, List.drop_succ_cons, b3, List.map_drop]
              rw [e9]
              exact HT2.out)
            have e9 : (((p, [97, 110, 100]) :: ws).drop (1 + kk)).map Prod.snd = r1 := by
              rw [Nat.add_comm, List.drop_succ_cons, b3, List.map_drop]
            have e10 : (((p, [97, 110, 100]) :: ws).drop (1 + kk)).length = ws.length - kk := by rw [Nat.add_comm, List.drop_succ_cons, List.length_drop]
            rw [e9, e10] at ck2
            have hw1 : ws.length + 1 - (1 + kk) = ws.length - kk := by omega
            rw [hw1] at hc2 ck2
            clear b3 ck hci e9 e10 hw1
            generalize (vl (env ns vs) f r1).1 = B at *
            generalize off + (1 + kk) * 2 = off2 at *
            generalize hnl : ws.length - kk = nl2 at *
            have HNL : Hid (ws.length - kk = nl2) := hnl
            have hnl2 : nl2 ≤ 10000 := by omega
            clear hnl
            generalize wcap - (1 + kk) = wc2 at *
            go_wp2_with fail
            refine Calls.mono ck2 ?_
            rintro e w ⟨⟨mm, rfl, b4, b5, b6⟩, rfl⟩
            have HB4 : Hid (r = r1.drop mm) := b6
            clear b6 ck2
            by_cases ha : A = 0
            · have e2 : Hid (V = 0) := by show V = 0; rw [e1.out, ha]; rfl
              subst ha
              go_wp2_with fail
              refine Calls.mono (ct _ _) ?_
              rintro e w ⟨rfl, rfl⟩
              go_wp2_with fail
              go_ret2
              exact ⟨⟨1 + kk + mm, by rw [e2.out]; go_num, by omega, by have := HNL.out; omega, by rw [HB4.out, HB3.out, List.drop_drop, show 1 + kk + mm = (kk + mm) + 1 by omega]; rfl⟩, rfl⟩
            · have ha' : (A == 0) = false := by simpa using ha
              have ha2 : (A != 0) = true := by simp [ha]
              by_cases hb0 : B = 0
              · have e2 : Hid (V = 0) := by show V = 0; rw [e1.out, hb0]; simp [jn, tr]
                subst hb0
                clear ha
                go_wp2_with fail
                refine Calls.mono (ct _ _) ?_
                rintro e w ⟨rfl, rfl⟩
                go_wp2_with fail
                go_ret2
                exact ⟨⟨1 + kk + mm, by rw [e2.out]; go_num, by omega, by have := HNL.out; omega, by rw [HB4.out, HB3.out, List.drop_drop, show 1 + kk + mm = (kk + mm) + 1 by omega]; rfl⟩, rfl⟩
              · have hb' : (B != 0) = true := by simp [hb0]
                have e2 : Hid (V = 1) := by show V = 1; rw [e1.out]; simp [jn, tr, ha, hb0]
                clear ha hb0
                go_wp2_with fail
                refine Calls.mono (ct _ _) ?_
                rintro e w ⟨rfl, rfl⟩
                go_wp2_with fail
                go_ret2
                exact ⟨⟨1 + kk + mm, by rw [e2.out]; go_num, by omega, by have := HNL.out; omega, by rw [HB4.out, HB3.out, List.drop_drop, show 1 + kk + mm = (kk + mm) + 1 by omega]; rfl⟩, rfl⟩
          · obtain ⟨r1, hT1, hT2⟩ := times_two (by have := HT.out; rw [show kd [111, 114] = 6 by decide +kernel] at this; exact this)
            have hg1 := gd_vl ns (env ns vs) f _ r1 hT1
            have hpos : 0 < ws.length := by obtain ⟨k, a1, a2, -⟩ := HGD.out hT1; omega
            have HR1 : Hid (0 < r1.length) := by obtain ⟨k, a1, a2, -⟩ := gd_drop ns f _ _ hT2; show _ < _; omega
            have e1 : Hid (V = jn 6 (vl (env ns vs) f (ws.map Prod.snd)).1 (vl (env ns vs) f r1).1) := by
              show V = _
              rw [HVV.out]
              simp only [vl]
              rw [if_neg (by decide +kernel), if_neg (by decide +kernel), if_neg (by decide +kernel), hg1, show kd [111, 114] = 6 by decide +kernel]
            have hc1 : ∀ w0, (Instr.slice 95 (.slice (some ⟨b, off, none⟩) (ws.length + 1) wcap) (some (.int .i64 1)) none none).run Tryd.prog w0 = .ok (.slice (some ⟨b, off + 2, none⟩) ws.length (wcap - 1)) w0 := words_cut 1 (by omega) hwc
            have ck := HI.out HN.out HV.out (HWD.out 1 (by omega)) HXL.out HWL.out r1 hT1
            simp only [Nat.one_mul, Nat.add_sub_cancel, List.drop_succ_cons, List.drop_zero] at ck
            have HT2 : Hid (gd ns f r1 = .inr r) := hT2
            clear hT1 hT2 hk4 hg1
            generalize (vl (env ns vs) f (ws.map Prod.snd)).1 = A at *
            go_enter Tryd.func65, Tryd.ntmps65
            go_wp2_with fail
            refine Calls.mono (cnum _) ?_
            rintro e w ⟨rfl, rfl⟩
            go_wp2_with fail
            refine Calls.mono (ctak _) ?_
            rintro e w ⟨rfl, rfl⟩
            go_wp2_with fail
            refine Calls.mono ck ?_
            rintro e w ⟨⟨kk, rfl, b1, b2, b3⟩, rfl⟩
            have HB3 : Hid (r1 = (ws.map Prod.snd).drop kk) := b3
            have hkl : kk < ws.length := by have := HR1.out; rw [b3, List.length_drop, List.length_map] at this; omega
            have hc2 := words_cut (b := b) (off := off) (n := ws.length + 1) (cap := wcap) (1 + kk) (by omega) hwc
            have hci : ((1 + kk : Nat) : Int) = 1 + (kk : Int) := by omega
            rw [hci] at hc2
            have ck2 := HI.out HN.out HV.out (HWD.out (1 + kk) (by omega)) (fun z hz => HXL.out z (List.mem_of_mem_drop (by rw [Nat.add_comm] at hz; exact hz))) (by have := HWL.out; rw [List.length_drop]; simp; omega) r (by
              have e9 : (((p, [111, 114]) :: ws).drop (1 + kk)).map Prod.snd = r1 := by
                rw [Nat.add_comm, List.drop_succ_cons, b3, List.map_drop]
              rw [e9]
              exact HT2.out)
            have e9 : (((p, [111, 114]) :: ws).drop (1 + kk)).map Prod.snd = r1 := by
              rw [Nat.add_comm, List.drop_succ_cons, b3, List.map_drop]
            have e10 : (((p, [111, 114]) :: ws).drop (1 + kk)).length = ws.length - kk := by rw [Nat.add_comm, List.drop_succ_cons, List.length_drop]
            rw [e9, e10] at ck2
            have hw1 : ws.length + 1 - (1 + kk) = ws.length - kk := by omega
            rw [hw1] at hc2 ck2
            clear b3 ck hci e9 e10 hw1
            generalize (vl (env ns vs) f r1).1 = B at *
            generalize off + (1 + kk) * 2 = off2 at *
            generalize hnl : ws.length - kk = nl2 at *
            have HNL : Hid (ws.length - kk = nl2) := hnl
            have hnl2 : nl2 ≤ 10000 := by omega
            clear hnl
            generalize wcap - (1 + kk) = wc2 at *
            go_wp2_with fail
            refine Calls.mono ck2 ?_
            rintro e w ⟨⟨mm, rfl, b4, b5, b6⟩, rfl⟩
            have HB4 : Hid (r = r1.drop mm) := b6
            clear b6 ck2
            by_cases ha : A = 0
            · by_cases hb0 : B = 0
              · have e2 : Hid (V = 0) := by show V = 0; rw [e1.out, ha, hb0]; rfl
                subst ha hb0
                go_wp2_with fail
                refine Calls.mono (ct _ _) ?_
                rintro e w ⟨rfl, rfl⟩
                go_wp2_with fail
                go_ret2
                exact ⟨⟨1 + kk + mm, by rw [e2.out]; go_num, by omega, by have := HNL.out; omega, by rw [HB4.out, HB3.out, List.drop_drop, show 1 + kk + mm = (kk + mm) + 1 by omega]; rfl⟩, rfl⟩
              · have hb' : (B != 0) = true := by simp [hb0]
                have e2 : Hid (V = 1) := by show V = 1; rw [e1.out]; simp [jn, tr, ha, hb0]
                subst ha
                clear hb0
                go_wp2_with fail
                refine Calls.mono (ct _ _) ?_
                rintro e w ⟨rfl, rfl⟩
                go_wp2_with fail
                go_ret2
                exact ⟨⟨1 + kk + mm, by rw [e2.out]; go_num, by omega, by have := HNL.out; omega, by rw [HB4.out, HB3.out, List.drop_drop, show 1 + kk + mm = (kk + mm) + 1 by omega]; rfl⟩, rfl⟩
            · have ha2 : (A != 0) = true := by simp [ha]
              have e2 : Hid (V = 1) := by show V = 1; rw [e1.out]; simp [jn, tr, ha]
              clear ha
              go_wp2_with fail
              refine Calls.mono (ct _ _) ?_
              rintro e w ⟨rfl, rfl⟩
              go_wp2_with fail
              go_ret2
              exact ⟨⟨1 + kk + mm, by rw [e2.out]; go_num, by omega, by have := HNL.out; omega, by rw [HB4.out, HB3.out, List.drop_drop, show 1 + kk + mm = (kk + mm) + 1 by omega]; rfl⟩, rfl⟩
          · obtain ⟨r1, hT1, hT2⟩ := times_two (by have := HT.out; rw [show kd [108, 116] = 7 by decide +kernel] at this; exact this)
            have hg1 := gd_vl ns (env ns vs) f _ r1 hT1
            have hpos : 0 < ws.length := by obtain ⟨k, a1, a2, -⟩ := HGD.out hT1; omega
            have HR1 : Hid (0 < r1.length) := by obtain ⟨k, a1, a2, -⟩ := gd_drop ns f _ _ hT2; show _ < _; omega
            have e1 : Hid (V = jn 7 (vl (env ns vs) f (ws.map Prod.snd)).1 (vl (env ns vs) f r1).1) := by
              show V = _
              rw [HVV.out]
              simp only [vl]
              rw [if_neg (by decide +kernel), if_neg (by decide +kernel), if_neg (by decide +kernel), hg1, show kd [108, 116] = 7 by decide +kernel]
            have hc1 : ∀ w0, (Instr.slice 95 (.slice (some ⟨b, off, none⟩) (ws.length + 1) wcap) (some (.int .i64 1)) none none).run Tryd.prog w0 = .ok (.slice (some ⟨b, off + 2, none⟩) ws.length (wcap - 1)) w0 := words_cut 1 (by omega) hwc
            have ck := HI.out HN.out HV.out (HWD.out 1 (by omega)) HXL.out HWL.out r1 hT1
            simp only [Nat.one_mul, Nat.add_sub_cancel, List.drop_succ_cons, List.drop_zero] at ck
            have HT2 : Hid (gd ns f r1 = .inr r) := hT2
            clear hT1 hT2 hk4 hg1
            generalize (vl (env ns vs) f (ws.map Prod.snd)).1 = A at *
            go_enter Tryd.func65, Tryd.ntmps65
            go_wp2_with fail
            refine Calls.mono (cnum _) ?_
            rintro e w ⟨rfl, rfl⟩
            go_wp2_with fail
            refine Calls.mono (ctak _) ?_
            rintro e w ⟨rfl, rfl⟩
            go_wp2_with fail
            refine Calls.mono ck ?_
            rintro e w ⟨⟨kk, rfl, b1, b2, b3⟩, rfl⟩
            have HB3 : Hid (r1 = (ws.map Prod.snd).drop kk) := b3
            have hkl : kk < ws.length := by have := HR1.out; rw [b3, List.length_drop, List.length_map] at this; omega
            have hc2 := words_cut (b := b) (off := off) (n := ws.length + 1) (cap := wcap) (1 + kk) (by omega) hwc
            have hci : ((1 + kk : Nat) : Int) = 1 + (kk : Int) := by omega
            rw [hci] at hc2
            have ck2 := HI.out HN.out HV.out (HWD.out (1 + kk) (by omega)) (fun z hz => HXL.out z (List.mem_of_mem_drop (by rw [Nat.add_comm] at hz; exact hz))) (by have := HWL.out; rw [List.length_drop]; simp; omega) r (by
              have e9 : (((p, [108, 116]) :: ws).drop (1 + kk)).map Prod.snd = r1 := by
                rw [Nat.add_comm, List.drop_succ_cons, b3, List.map_drop]
              rw [e9]
              exact HT2.out)
            have e9 : (((p, [108, 116]) :: ws).drop (1 + kk)).map Prod.snd = r1 := by
              rw [Nat.add_comm, List.drop_succ_cons, b3, List.map_drop]
            have e10 : (((p, [108, 116]) :: ws).drop (1 + kk)).length = ws.length - kk := by rw [Nat.add_comm, List.drop_succ_cons, List.length_drop]
            rw [e9, e10] at ck2
            have hw1 : ws.length + 1 - (1 + kk) = ws.length - kk := by omega
            rw [hw1] at hc2 ck2
            clear b3 ck hci e9 e10 hw1
            generalize (vl (env ns vs) f r1).1 = B at *
            generalize off + (1 + kk) * 2 = off2 at *
            generalize hnl : ws.length - kk = nl2 at *
            have HNL : Hid (ws.length - kk = nl2) := hnl
            have hnl2 : nl2 ≤ 10000 := by omega
            clear hnl
            generalize wcap - (1 + kk) = wc2 at *
            go_wp2_with fail
            refine Calls.mono ck2 ?_
            rintro e w ⟨⟨mm, rfl, b4, b5, b6⟩, rfl⟩
            have HB4 : Hid (r = r1.drop mm) := b6
            clear b6 ck2
            by_cases ha : A < B
            · have e2 : Hid (V = 1) := by show V = 1; rw [e1.out]; simp [jn, tr, ha]
              go_wp2_with fail
              refine Calls.mono (ct _ _) ?_
              rintro e w ⟨rfl, rfl⟩
              go_wp2_with fail
              go_ret2
              exact ⟨⟨1 + kk + mm, by rw [e2.out]; go_num, by omega, by have := HNL.out; omega, by rw [HB4.out, HB3.out, List.drop_drop, show 1 + kk + mm = (kk + mm) + 1 by omega]; rfl⟩, rfl⟩
            · have ha2 : decide (A < B) = false := decide_eq_false ha
              have e2 : Hid (V = 0) := by show V = 0; rw [e1.out]; simp [jn, tr, ha2]
              clear ha
              go_wp2_with fail
              refine Calls.mono (ct _ _) ?_
              rintro e w ⟨rfl, rfl⟩
              go_wp2_with fail
              go_ret2
              exact ⟨⟨1 + kk + mm, by rw [e2.out]; go_num, by omega, by have := HNL.out; omega, by rw [HB4.out, HB3.out, List.drop_drop, show 1 + kk + mm = (kk + mm) + 1 by omega]; rfl⟩, rfl⟩
          · obtain ⟨r1, hT1, hT2⟩ := times_two (by have := HT.out; rw [show kd [101, 113] = 8 by decide +kernel] at this; exact this)
            have hg1 := gd_vl ns (env ns vs) f _ r1 hT1
            have hpos : 0 < ws.length := by obtain ⟨k, a1, a2, -⟩ := HGD.out hT1; omega
            have HR1 : Hid (0 < r1.length) := by obtain ⟨k, a1, a2, -⟩ := gd_drop ns f _ _ hT2; show _ < _; omega
            have e1 : Hid (V = jn 8 (vl (env ns vs) f (ws.map Prod.snd)).1 (vl (env ns vs) f r1).1) := by
              show V = _
              rw [HVV.out]
              simp only [vl]
              rw [if_neg (by decide +kernel), if_neg (by decide +kernel), if_neg (by decide +kernel), hg1, show kd [101, 113] = 8 by decide +kernel]
            have hc1 : ∀ w0, (Instr.slice 95 (.slice (some ⟨b, off, none⟩) (ws.length + 1) wcap) (some (.int .i64 1)) none none).run Tryd.prog w0 = .ok (.slice (some ⟨b, off + 2, none⟩) ws.length (wcap - 1)) w0 := words_cut 1 (by omega) hwc
            have ck := HI.out HN.out HV.out (HWD.out 1 (by omega)) HXL.out HWL.out r1 hT1
            simp only [Nat.one_mul, Nat.add_sub_cancel, List.drop_succ_cons, List.drop_zero] at ck
            have HT2 : Hid (gd ns f r1 = .inr r) := hT2
            clear hT1 hT2 hk4 hg1
            generalize (vl (env ns vs) f (ws.map Prod.snd)).1 = A at *
            go_enter Tryd.func65, Tryd.ntmps65
            go_wp2_with fail
            refine Calls.mono (cnum _) ?_
            rintro e w ⟨rfl, rfl⟩
            go_wp2_with fail
            refine Calls.mono (ctak _) ?_
            rintro e w ⟨rfl, rfl⟩
            go_wp2_with fail
            refine Calls.mono ck ?_
            rintro e w ⟨⟨kk, rfl, b1, b2, b3⟩, rfl⟩
            have HB3 : Hid (r1 = (ws.map Prod.snd).drop kk) := b3
            have hkl : kk < ws.length := by have := HR1.out; rw [b3, List.length_drop, List.length_map] at this; omega
            have hc2 := words_cut (b := b) (off := off) (n := ws.length + 1) (cap := wcap) (1 + kk) (by omega) hwc
            have hci : ((1 + kk : Nat) : Int) = 1 + (kk : Int) := by omega
            rw [hci] at hc2
            have ck2 := HI.out HN.out HV.out (HWD.out (1 + kk) (by omega)) (fun z hz => HXL.out z (List.mem_of_mem_drop (by rw [Nat.add_comm] at hz; exact hz))) (by have := HWL.out; rw [List.length_drop]; simp; omega) r (by
              have e9 : (((p, [101, 113]) :: ws).drop (1 + kk)).map Prod.snd = r1 := by
                rw [Nat.add_comm, List.drop_succ_cons, b3, List.map_drop]
              rw [e9]
              exact HT2.out)
            have e9 : (((p, [101, 113]) :: ws).drop (1 + kk)).map Prod.snd = r1 := by
              rw [Nat.add_comm, List.drop_succ_cons, b3, List.map_drop]
            have e10 : (((p, [101, 113]) :: ws).drop (1 + kk)).length = ws.length - kk := by rw [Nat.add_comm, List.drop_succ_cons, List.length_drop]
            rw [e9, e10] at ck2
            have hw1 : ws.length + 1 - (1 + kk) = ws.length - kk := by omega
            rw [hw1] at hc2 ck2
            clear b3 ck hci e9 e10 hw1
            generalize (vl (env ns vs) f r1).1 = B at *
            generalize off + (1 + kk) * 2 = off2 at *
            generalize hnl : ws.length - kk = nl2 at *
            have HNL : Hid (ws.length - kk = nl2) := hnl
            have hnl2 : nl2 ≤ 10000 := by omega
            clear hnl
            generalize wcap - (1 + kk) = wc2 at *
            go_wp2_with fail
            refine Calls.mono ck2 ?_
            rintro e w ⟨⟨mm, rfl, b4, b5, b6⟩, rfl⟩
            have HB4 : Hid (r = r1.drop mm) := b6
            clear b6 ck2
            by_cases ha : A = B
            · have e2 : Hid (V = 1) := by show V = 1; rw [e1.out]; simp [jn, tr, ha]
              subst ha
              go_wp2_with fail
              refine Calls.mono (ct _ _) ?_
              rintro e w ⟨rfl, rfl⟩
              go_wp2_with fail
              go_ret2
              exact ⟨⟨1 + kk + mm, by rw [e2.out]; go_num, by omega, by have := HNL.out; omega, by rw [HB4.out, HB3.out, List.drop_drop, show 1 + kk + mm = (kk + mm) + 1 by omega]; rfl⟩, rfl⟩
            · have ha2 : (A == B) = false := by simpa using ha
              have e2 : Hid (V = 0) := by show V = 0; rw [e1.out]; simp [jn, tr, ha]
              clear ha
              go_wp2_with fail
              refine Calls.mono (ct _ _) ?_
              rintro e w ⟨rfl, rfl⟩
              go_wp2_with fail
              go_ret2
              exact ⟨⟨1 + kk + mm, by rw [e2.out]; go_num, by omega, by have := HNL.out; omega, by rw [HB4.out, HB3.out, List.drop_drop, show 1 + kk + mm = (kk + mm) + 1 by omega]; rfl⟩, rfl⟩
          · obtain ⟨r1, hT1, hT2⟩ := times_two (by have := HT.out; rw [show kd [97, 100, 100] = 9 by decide +kernel] at this; exact this)
            have hg1 := gd_vl ns (env ns vs) f _ r1 hT1
            have hpos : 0 < ws.length := by obtain ⟨k, a1, a2, -⟩ := HGD.out hT1; omega
            have HR1 : Hid (0 < r1.length) := by obtain ⟨k, a1, a2, -⟩ := gd_drop ns f _ _ hT2; show _ < _; omega
            have e1 : Hid (V = jn 9 (vl (env ns vs) f (ws.map Prod.snd)).1 (vl (env ns vs) f r1).1) := by
              show V = _
              rw [HVV.out]
              simp only [vl]
              rw [if_neg (by decide +kernel), if_neg (by decide +kernel), if_neg (by decide +kernel), hg1, show kd [97, 100, 100] = 9 by decide +kernel]
            have hc1 : ∀ w0, (Instr.slice 95 (.slice (some ⟨b, off, none⟩) (ws.length + 1) wcap) (some (.int .i64 1)) none none).run Tryd.prog w0 = .ok (.slice (some ⟨b, off + 2, none⟩) ws.length (wcap - 1)) w0 := words_cut 1 (by omega) hwc
            have ck := HI.out HN.out HV.out (HWD.out 1 (by omega)) HXL.out HWL.out r1 hT1
            simp only [Nat.one_mul, Nat.add_sub_cancel, List.drop_succ_cons, List.drop_zero] at ck
            have HT2 : Hid (gd ns f r1 = .inr r) := hT2
            clear hT1 hT2 hk4 hg1
            generalize (vl (env ns vs) f (ws.map Prod.snd)).1 = A at *
            go_enter Tryd.func65, Tryd.ntmps65
            go_wp2_with fail
            refine Calls.mono (cnum _) ?_
            rintro e w ⟨rfl, rfl⟩
            go_wp2_with fail
            refine Calls.mono (ctak _) ?_
            rintro e w ⟨rfl, rfl⟩
            go_wp2_with fail
            refine Calls.mono ck ?_
            rintro e w ⟨⟨kk, rfl, b1, b2, b3⟩, rfl⟩
            have HB3 : Hid (r1 = (ws.map Prod.snd).drop kk) := b3
            have hkl : kk < ws.length := by have := HR1.out; rw [b3, List.length_drop, List.length_map] at this; omega
            have hc2 := words_cut (b := b) (off := off) (n := ws.length + 1) (cap := wcap) (1 + kk) (by omega) hwc
            have hci : ((1 + kk : Nat) : Int) = 1 + (kk : Int) := by omega
            rw [hci] at hc2
            have ck2 := HI.out HN.out HV.out (HWD.out (1 + kk) (by omega)) (fun z hz => HXL.out z (List.mem_of_mem_drop (by rw [Nat.add_comm] at hz; exact hz))) (by have := HWL.out; rw [List.length_drop]; simp; omega) r (by
              have e9 : (((p, [97, 100, 100]) :: ws).drop (1 + kk)).map Prod.snd = r1 := by
                rw [Nat.add_comm, List.drop_succ_cons, b3, List.map_drop]
              rw [e9]
              exact HT2.out)
            have e9 : (((p, [97, 100, 100]) :: ws).drop (1 + kk)).map Prod.snd = r1 := by
              rw [Nat.add_comm, List.drop_succ_cons, b3, List.map_drop]
            have e10 : (((p, [97, 100, 100]) :: ws).drop (1 + kk)).length = ws.length - kk := by rw [Nat.add_comm, List.drop_succ_cons, List.length_drop]
            rw [e9, e10] at ck2
            have hw1 : ws.length + 1 - (1 + kk) = ws.length - kk := by omega
            rw [hw1] at hc2 ck2
            clear b3 ck hci e9 e10 hw1
            generalize (vl (env ns vs) f r1).1 = B at *
            generalize off + (1 + kk) * 2 = off2 at *
            generalize hnl : ws.length - kk = nl2 at *
            have HNL : Hid (ws.length - kk = nl2) := hnl
            have hnl2 : nl2 ≤ 10000 := by omega
            clear hnl
            generalize wcap - (1 + kk) = wc2 at *
            go_wp2_with fail
            refine Calls.mono ck2 ?_
            rintro e w ⟨⟨mm, rfl, b4, b5, b6⟩, rfl⟩
            have HB4 : Hid (r = r1.drop mm) := b6
            clear b6 ck2
            go_wp2_with fail
            go_ret2
            exact ⟨⟨1 + kk + mm, by rw [e1.out]; go_num, by omega, by have := HNL.out; omega, by rw [HB4.out, HB3.out, List.drop_drop, show 1 + kk + mm = (kk + mm) + 1 by omega]; rfl⟩, rfl⟩
          · obtain ⟨r1, hT1, hT2⟩ := times_two (by have := HT.out; rw [show kd [115, 117, 98] = 10 by decide +kernel] at this; exact this)
            have hg1 := gd_vl ns (env ns vs) f _ r1 hT1
            have hpos : 0 < ws.length := by obtain ⟨k, a1, a2, -⟩ := HGD.out hT1; omega
            have HR1 : Hid (0 < r1.length) := by obtain ⟨k, a1, a2, -⟩ := gd_drop ns f _ _ hT2; show _ < _; omega
            have e1 : Hid (V = jn 10 (vl (env ns vs) f (ws.map Prod.snd)).1 (vl (env ns vs) f r1).1) := by
              show V = _
              rw [HVV.out]
              simp only [vl]
              rw [if_neg (by decide +kernel), if_neg (by decide +kernel), if_neg (by decide +kernel), hg1, show kd [115, 117, 98] = 10 by decide +kernel]
            have hc1 : ∀ w0, (Instr.slice 95 (.slice (some ⟨b, off, none⟩) (ws.length + 1) wcap) (some (.int .i64 1)) none none).run Tryd.prog w0 = .ok (.slice (some ⟨b, off + 2, none⟩) ws.length (wcap - 1)) w0 := words_cut 1 (by omega) hwc
            have ck := HI.out HN.out HV.out (HWD.out 1 (by omega)) HXL.out HWL.out r1 hT1
            simp only [Nat.one_mul, Nat.add_sub_cancel, List.drop_succ_cons, List.drop_zero] at ck
            have HT2 : Hid (gd ns f r1 = .inr r) := hT2
            clear hT1 hT2 hk4 hg1
            generalize (vl (env ns vs) f (ws.map Prod.snd)).1 = A at *
            go_enter Tryd.func65, Tryd.ntmps65
            go_wp2_with fail
            refine Calls.mono (cnum _) ?_
            rintro e w ⟨rfl, rfl⟩
            go_wp2_with fail
            refine Calls.mono (ctak _) ?_
            rintro e w ⟨rfl, rfl⟩
            go_wp2_with fail
            refine Calls.mono ck ?_
            rintro e w ⟨⟨kk, rfl, b1, b2, b3⟩, rfl⟩
            have HB3 : Hid (r1 = (ws.map Prod.snd).drop kk) := b3
            have hkl : kk < ws.length := by have := HR1.out; rw [b3, List.length_drop, List.length_map] at this; omega
            have hc2 := words_cut (b := b) (off := off) (n := ws.length + 1) (cap := wcap) (1 + kk) (by omega) hwc
            have hci : ((1 + kk : Nat) : Int) = 1 + (kk : Int) := by omega
            rw [hci] at hc2
            have ck2 := HI.out HN.out HV.out (HWD.out (1 + kk) (by omega)) (fun z hz => HXL.out z (List.mem_of_mem_drop (by rw [Nat.add_comm] at hz; exact hz))) (by have := HWL.out; rw [List.length_drop]; simp; omega) r (by
              have e9 : (((p, [115, 117, 98]) :: ws).drop (1 + kk)).map Prod.snd = r1 := by
                rw [Nat.add_comm, List.drop_succ_cons, b3, List.map_drop]
              rw [e9]
              exact HT2.out)
            have e9 : (((p, [115, 117, 98]) :: ws).drop (1 + kk)).map Prod.snd = r1 := by
              rw [Nat.add_comm, List.drop_succ_cons, b3, List.map_drop]
            have e10 : (((p, [115, 117, 98]) :: ws).drop (1 + kk)).length = ws.length - kk := by rw [Nat.add_comm, List.drop_succ_cons, List.length_drop]
            rw [e9, e10] at ck2
            have hw1 : ws.length + 1 - (1 + kk) = ws.length - kk := by omega
            rw [hw1] at hc2 ck2
            clear b3 ck hci e9 e10 hw1
            generalize (vl (env ns vs) f r1).1 = B at *
            generalize off + (1 + kk) * 2 = off2 at *
            generalize hnl : ws.length - kk = nl2 at *
            have HNL : Hid (ws.length - kk = nl2) := hnl
            have hnl2 : nl2 ≤ 10000 := by omega
            clear hnl
            generalize wcap - (1 + kk) = wc2 at *
            go_wp2_with fail
            refine Calls.mono ck2 ?_
            rintro e w ⟨⟨mm, rfl, b4, b5, b6⟩, rfl⟩
            have HB4 : Hid (r = r1.drop mm) := b6
            clear b6 ck2
            go_wp2_with fail
            go_ret2
            exact ⟨⟨1 + kk + mm, by rw [e1.out]; go_num, by omega, by have := HNL.out; omega, by rw [HB4.out, HB3.out, List.drop_drop, show 1 + kk + mm = (kk + mm) + 1 by omega]; rfl⟩, rfl⟩

set_option maxRecDepth 100000 in
set_option maxHeartbeats 4000000 in
theorem reval_any {w : World} {v u : Value} {ns : List (List UInt8)} {vs : List Int} (h : Ns w v ns) (hv : Vi w u vs) (s : List UInt8) (hs : s.length ≤ 10000) :
    Calls Tryd.prog 55 #[.string ⟨s.toArray⟩, v, u] w fun e w' => e = .returned (.tuple #[.int .i64 (evl ns vs s).1, .int .i64 ((evl ns vs s).2 : Nat)]) ∧ Kept (fun _ => True) w w' := by
  have HN : Hid (Ns w v ns) := h
  have HV : Hid (Vi w u vs) := hv
  have cc := rcheck_any h s (by omega)
  have HS : Hid (s.length ≤ 10000) := hs
  obtain ⟨ao, cap, rfl, -⟩ := h
  obtain ⟨bo, bcap, rfl, -⟩ := hv
  obtain ⟨C, hC⟩ : ∃ C, C = evl ns vs s := ⟨_, rfl⟩
  have HC : Hid (C = evl ns vs s) := hC
  rw [← hC]
  clear hC
  by_cases h0 : (chk ns s).1 = 0
  · have hg := chk_gd.1 h0
    rw [h0] at cc
    by_cases hl : vs.length < ns.length
    · have e1 : Hid (C = (0, 1)) := by
        show C = (0, 1)
        rw [HC.out, evl, if_neg (by omega), if_pos hl]
      have hl' : (vs.length : Int) < (ns.length : Int) := by omega
      clear h0 hg
      generalize (chk ns s).2 = q at *
      go_enter Tryd.func55, Tryd.ntmps55
      go_wp2_with fail
      refine Calls.mono cc ?_
      rintro e w1 ⟨rfl, k1⟩
      clear cc
      go_wp2_with fail
      go_ret2
      exact ⟨by rw [e1.out]; rfl, k1⟩
    · have e1 : Hid (C = ((vl (env ns vs) 17 (tx s)).1, 0)) := by
        show C = _
        rw [HC.out, evl, if_neg (by omega), if_neg hl]
      have hl' : ¬ (vs.length : Int) < (ns.length : Int) := by omega
      have cw := fun W => words_any (w := W) s hs
      have ck := fun W lv (hk : Kept (fun _ => True) w W) (hw : Wv W lv (Wo s 0)) => reval_word (by omega) 17 (HN.out.all hk) (HV.out.all hk) hw (fun x hx => texts_short s HS.out x hx) (by have := words_few s; have := HS.out; omega) [] (by rw [Wo_tx]; exact hg.2)
      rw [Wo_tx] at ck
      have HCK : Hid _ := ck
      clear h0 hg ck
      generalize (chk ns s).2 = q at *
      generalize (vl (env ns vs) 17 (tx s)).1 = V at *
      go_enter Tryd.func55, Tryd.ntmps55
      go_wp2_with fail
      refine Calls.mono cc ?_
      rintro e w1 ⟨rfl, k1⟩
      clear cc
      go_wp2_with fail
      refine Calls.mono (cw _) ?_
      rintro e w2 ⟨⟨wv, rfl, hW⟩, k2⟩
      have c2 := HCK.out w2 wv (k1.trans k2) hW.view
      obtain ⟨wao, wcap, rfl, -⟩ := hW.view
      clear cw
      go_wp2_with fail
      refine Calls.mono c2 ?_
      rintro e w2 ⟨⟨q2, rfl, -⟩, rfl⟩
      go_wp2_with fail
      go_ret2
      exact ⟨by rw [e1.out]; rfl, k1.trans k2⟩
  · have e1 : Hid (C = (0, (chk ns s).1)) := by
      show C = _
      rw [HC.out, evl, if_pos h0]
    generalize (chk ns s).2 = q at *
    generalize (chk ns s).1 = c at *
    have hc : ((c : Int) == 0) = false := by simp; omega
    clear h0
    go_enter Tryd.func55, Tryd.ntmps55
    go_wp2_with fail
    refine Calls.mono cc ?_
    rintro e w1 ⟨rfl, k1⟩
    clear cc
    go_wp2_with fail
    go_ret2
    exact ⟨by rw [e1.out]; rfl, k1⟩

end Go.Proofs.YtnddpalngjmhnaaDoor
