/-
  Texts: strings.Cut at one byte, TrimLeft, Trim, Clone; word, trim, number of package schema.
-/
import Derived.Test.YtahbfffhkpojmaaDoorTPlain
import Derived.Test.YtahbfffhkpojmaaDoorTLay
import Derived.Test.YtahbfffhkpojmaaDoorQ9
import Derived.Test.YtahbfffhkpojmaaDoorWBook
namespace Go.Proofs.YtahbfffhkpojmaaDoor
open Go.RowKit

theorem index_byte (s : List UInt8) (c : UInt8) : Lib.indexByte s c = if s.any (fun x => x == c) = true then ((s.takeWhile (fun x => x != c)).length : Int) else -1 := by
  induction s with
  | nil => rfl
  | cons x r ih =>
    unfold Lib.indexByte
    by_cases hx : x = c
    · subst hx
      simp
    · have h1 : (x == c) = false := by simpa using hx
      have h2 : (x != c) = true := by simpa using hx
      rw [h1, ih]
      simp only [List.any_cons, h1, Bool.false_or, List.takeWhile_cons, h2, if_true, List.length_cons]
      by_cases h3 : r.any (fun x => x == c) = true
      · rw [if_pos h3, if_pos h3]
        have : ((((r.takeWhile (fun x => x != c)).length : Int)) == -1) = false := by rw [beq_eq_false_iff_ne]; omega
        rw [this]
        simp
      · rw [if_neg h3, if_neg h3]
        simp
theorem cut_hit {s : List UInt8} {c : UInt8} (h : s.any (fun x => x == c) = true) : (s.takeWhile (fun x => x != c)).length + 1 ≤ s.length ∧ s.take (s.takeWhile (fun x => x != c)).length = s.takeWhile (fun x => x != c) ∧ s.drop ((s.takeWhile (fun x => x != c)).length + 1) = (s.dropWhile (fun x => x != c)).drop 1 := by
  have h3 := (cut_len c s).2.2 h
  simp only [cutAt] at h3
  have h0 := List.takeWhile_append_dropWhile (p := fun x => x != c) (l := s)
  refine ⟨by omega, ?_, ?_⟩
  · have h4 : (s.takeWhile (fun x => x != c) ++ s.dropWhile (fun x => x != c)).take (s.takeWhile (fun x => x != c)).length = s.takeWhile (fun x => x != c) := List.take_left ..
    rwa [h0] at h4
  · have h4 : (s.takeWhile (fun x => x != c) ++ s.dropWhile (fun x => x != c)).drop (s.takeWhile (fun x => x != c)).length = s.dropWhile (fun x => x != c) := List.drop_left ..
    rw [h0] at h4
    rw [← List.drop_drop, h4]
theorem cut_miss {s : List UInt8} {c : UInt8} (h : s.any (fun x => x == c) = false) : cutAt c s = (s, [], false) := by
  have h1 : ∀ x ∈ s, (x != c) = true := by
    intro x hx
    have := List.any_eq_false.1 h x hx
    simpa using this
  obtain ⟨e1, e2⟩ : s.takeWhile (fun x => x != c) = s ∧ s.dropWhile (fun x => x != c) = [] := by
    clear h
    induction s with
    | nil => exact ⟨rfl, rfl⟩
    | cons y r ih =>
      obtain ⟨i1, i2⟩ := ih (fun x hx => h1 x (List.mem_cons_of_mem _ hx))
      have hy := h1 y (List.mem_cons_self ..)
      rw [List.takeWhile_cons, List.dropWhile_cons, if_pos hy, if_pos hy, i1, i2]
      exact ⟨rfl, rfl⟩
  simp [cutAt, e1, e2, h]

theorem index_any {w : World} (s : List UInt8) (c : UInt8) :
    Calls Tryd.prog 63 #[.string ⟨s.toArray⟩, .string ⟨#[c]⟩] w fun e w' => e = .returned (.int .i64 (Lib.indexByte s c)) ∧ w' = w :=
  Any.stringslite_Index_one indexQ ⟨s.toArray⟩ c w

theorem from_text (s : List UInt8) (k : Nat) (hk : k ≤ s.length) (w0 : World) : (Instr.slice 9 (.string ⟨s.toArray⟩) (some (.int .i64 (k : Int))) none none).run Tryd.prog w0 = .ok (.string ⟨(s.drop k).toArray⟩) w0 := by
  rw [run_slice_string_from_if (P := Tryd.prog) w0 9 ⟨s.toArray⟩ .i64 k Tryd.underlying9, if_pos ⟨by omega, by simp [ByteArray.size]; omega⟩]
  congr 2
  apply ByteArray.ext
  have hz : (⟨s.toArray⟩ : ByteArray).size = s.length := by simp [ByteArray.size]
  simp [hz, List.take_of_length_le]

set_option maxRecDepth 100000 in
set_option maxHeartbeats 1000000 in
theorem cutlite_any {w : World} (s : List UInt8) (c : UInt8) (hs : s.length ≤ 281474976710656) :
    Calls Tryd.prog 52 #[.string ⟨s.toArray⟩, .string ⟨#[c]⟩] w fun e w' => e = .returned (.tuple #[.string ⟨(cutAt c s).1.toArray⟩, .string ⟨(cutAt c s).2.1.toArray⟩, .bool (cutAt c s).2.2]) ∧ ∃ n, w' = w.drewN n := by
  have ci := index_any (w := w) s c
  rw [index_byte] at ci
  by_cases h : s.any (fun x => x == c) = true
  · rw [if_pos h] at ci
    obtain ⟨h1, h2, h3⟩ := cut_hit h
    have e1 : cutAt c s = (s.takeWhile (fun x => x != c), (s.dropWhile (fun x => x != c)).drop 1, true) := by simp only [cutAt, h]
    rw [e1]
    have q1 := tcut s (s.takeWhile (fun x => x != c)).length (by omega)
    have q2 := from_text s ((s.takeWhile (fun x => x != c)).length + 1) h1
    rw [h2] at q1
    rw [h3] at q2
    clear e1 h2 h3
    generalize (s.takeWhile (fun x => x != c)).length = i at *
    generalize s.takeWhile (fun x => x != c) = a at *
    generalize (s.dropWhile (fun x => x != c)).drop 1 = b at *
    have i0 : (0 : Int) ≤ (i : Int) := by omega
    have i1 : ((i + 1 : Nat) : Int) = (i : Int) + 1 := by omega
    rw [i1] at q2
    clear h i1
    go_enter Tryd.func52, Tryd.ntmps52
    go_wp2_with fail
    refine Calls.mono ci ?_
    rintro e w1 ⟨rfl, rfl⟩
    clear ci
    go_wp2_with fail
    go_quiet (fail)
    go_wp2_with fail
    go_ret3
    exact ⟨rfl, _, rfl⟩
  · have h' : s.any (fun x => x == c) = false := Bool.eq_false_iff.2 h
    rw [if_neg h] at ci
    rw [cut_miss h']
    clear h h'
    go_enter Tryd.func52, Tryd.ntmps52
    go_wp2_with fail
    refine Calls.mono ci ?_
    rintro e w1 ⟨rfl, rfl⟩
    clear ci
    go_wp2_with fail
    go_ret3
    exact ⟨rfl, 0, rfl⟩
set_option maxRecDepth 100000 in
set_option maxHeartbeats 400000 in
theorem cut_any {w : World} (s : List UInt8) (c : UInt8) (hs : s.length ≤ 281474976710656) :
    Calls Tryd.prog 33 #[.string ⟨s.toArray⟩, .string ⟨#[c]⟩] w fun e w' => e = .returned (.tuple #[.string ⟨(cutAt c s).1.toArray⟩, .string ⟨(cutAt c s).2.1.toArray⟩, .bool (cutAt c s).2.2]) ∧ ∃ n, w' = w.drewN n := by
  have ci := cutlite_any (w := w) s c hs
  generalize (cutAt c s).1 = a at *
  generalize (cutAt c s).2.1 = b at *
  generalize (cutAt c s).2.2 = d at *
  go_enter Tryd.func33, Tryd.ntmps33
  go_wp2_with fail
  refine Calls.mono ci ?_
  rintro e w1 ⟨rfl, n, rfl⟩
  go_wp2_with fail
  go_ret3
  exact ⟨rfl, n, rfl⟩
theorem trimLeft_any {w : World} (s : List UInt8) :
    Calls Tryd.prog 53 #[.string ⟨s.toArray⟩, .string ⟨#[32]⟩] w fun e w' => e = .returned (.string ⟨(Lib.trimLeftB s 32).toArray⟩) ∧ w' = w :=
  Any.strings_TrimLeft_one trimLeftQ ⟨s.toArray⟩ 32 (by decide) w
theorem trims_any {w : World} (s : List UInt8) (hs : s.length ≤ 281474976710656) :
    Calls Tryd.prog 54 #[.string ⟨s.toArray⟩, .string ⟨#[32]⟩] w fun e w' => e = .returned (.string ⟨(Lib.trimB s 32).toArray⟩) ∧ (w' = w ∨ w' = w.drew) :=
  Any.strings_Trim_one trimQ ⟨s.toArray⟩ 32 (by decide) w (by simp [ByteArray.size]; omega)
set_option maxHeartbeats 400000 in
theorem clones_any {w : World} (s : List UInt8) (hs : s.length ≤ 281474976710656) : Calls Tryd.prog 36 #[.string ⟨s.toArray⟩] w fun e w' => e = .returned (.string ⟨s.toArray⟩) ∧ Kept (fun _ => True) w w' := by
  have c : Calls Tryd.prog 55 #[.string ⟨s.toArray⟩] w fun e w' => e = .returned (.string ⟨s.toArray⟩) ∧ Below w.heap.size w w' := Any.stringslite_Clone cloneQ ⟨s.toArray⟩ w (by simp [ByteArray.size]; omega)
  go_enter Tryd.func36, Tryd.ntmps36
  go_wp2_with fail
  refine Calls.mono c ?_
  rintro e w1 ⟨rfl, k1⟩
  go_wp2_with fail
  go_ret
  exact ⟨rfl, Kept.ofBelow _ k1⟩

set_option maxHeartbeats 400000 in
theorem word_any {w : World} (s : List UInt8) (hs : s.length ≤ 281474976710656) :
    Calls Tryd.prog 34 #[.string ⟨s.toArray⟩] w fun e w' => e = .returned (.tuple #[.string ⟨(wrd s).1.toArray⟩, .string ⟨(wrd s).2.toArray⟩]) ∧ Kept (fun _ => True) w w' := by
  have c1 := cut_any (w := w) s 32 hs
  have c2 := fun W => trimLeft_any (w := W) (cutAt 32 s).2.1
  unfold wrd
  generalize (cutAt 32 s).1 = a at *
  generalize (cutAt 32 s).2.1 = b at *
  generalize (cutAt 32 s).2.2 = d at *
  generalize Lib.trimLeftB b 32 = r at *
  go_enter Tryd.func34, Tryd.ntmps34
  go_wp2_with fail
  refine Calls.mono c1 ?_
  rintro e w1 ⟨rfl, n, rfl⟩
  go_wp2_with fail
  refine Calls.mono (c2 _) ?_
  rintro e w2 ⟨rfl, rfl⟩
  go_wp2_with fail
  go_ret2
  exact ⟨rfl, (Kept.refl _ _).drewN n⟩
set_option maxHeartbeats 400000 in
theorem trim_any {w : World} (s : List UInt8) (hs : s.length ≤ 281474976710656) :
    Calls Tryd.prog 35 #[.string ⟨s.toArray⟩] w fun e w' => e = .returned (.string ⟨(Lib.trimB s 32).toArray⟩) ∧ Kept (fun _ => True) w w' := by
  have c1 := trims_any (w := w) s hs
  generalize Lib.trimB s 32 = r at *
  go_enter Tryd.func35, Tryd.ntmps35
  go_wp2_with fail
  refine Calls.mono c1 ?_
  rintro e w1 ⟨rfl, h⟩
  have k1 : Kept (fun _ => True) w w1 := by
    rcases h with rfl | rfl
    · exact Kept.refl _ _
    · exact (Kept.refl _ _).drew
  clear h c1
  go_wp2_with fail
  go_ret
  exact ⟨rfl, k1⟩

/-- A guard of one word without a name. -/
theorem evl_word (x : List UInt8) (h : ∀ c ∈ x, c ≠ 32) : (isNum x = true → evl [] [] x = (num x, 0)) ∧ (isNum x = false → (evl [] [] x).1 = 0 ∧ (evl [] [] x).2 ≠ 0) := by
  have hlen : isNum x = true → x.length ≤ 5 := by
    intro hn
    simp only [isNum, Bool.and_eq_true, decide_eq_true_eq] at hn
    have := hn.2
    unfold mag at this
    split at this
    · rw [List.length_tail] at this; omega
    · omega
  by_cases h0 : x = []
  · subst h0
    refine ⟨fun h => by simp [isNum, mag] at h, fun _ => ?_⟩
    decide +kernel
  · have hW : Wo x 0 = [(0, x)] := by
      have := Wo_word (s := x) (q := 0) (e := x.length) (List.length_pos_iff.2 h0) (Nat.le_refl _) (by rw [tex_all]; exact h) (fun h => absurd h (Nat.lt_irrefl _))
      rw [tex_all, Wo_end (Nat.le_refl _)] at this
      exact this
    have hT : tx x = [x] := tx_one x h h0
    refine ⟨fun hn => ?_, fun hn => ?_⟩
    · have hk := (kd_num x).2 hn
      have hr : rf [] x = 0 := by simp [rf, rfk, hk]
      have hc : chk [] x = (0, 0) := by
        have := hlen hn
        rw [chk, if_neg (by omega), chkW, hW]
        simp [lk, hr, hk, ar, times, tailOf]
      rw [evl, hc, hT]
      simp [vl, hk]
    · have hc : (chk [] x).1 ≠ 0 := by
        by_cases hl : 120 < x.length
        · rw [chk, if_pos hl]; simp
        · rw [chk, if_neg hl, chkW, hW]
          have hk := kd_cases x
          have hk2 : kd x ≠ 2 := fun h => by rw [(kd_num x).1 h] at hn; cases hn
          by_cases hr : rf [] x = 0
          · have har : ar (kd x) = 1 ∨ ar (kd x) = 2 := by
              have h1 : kd x ≠ 1 ∧ kd x ≠ 3 := by
                rcases rf_cases [] x with ⟨_, h1⟩ | ⟨_, _, h1⟩ | ⟨h1, h2, _⟩
                · omega
                · omega
                · exact ⟨h1, fun h => by simpa using h2 h⟩
              unfold ar
              split
              · exact .inl rfl
              · rw [if_pos (by omega)]; exact .inr rfl
            rcases har with har | har
            · simp [lk, hr, har, times]
            · simp [lk, hr, har, times]
          · simp [lk, hr]
      rw [evl, if_pos hc]
      exact ⟨rfl, hc⟩
/-- What number answers of a word. -/
def nm (x : List UInt8) : Int := if isNum x = true then num x else 0
set_option maxHeartbeats 1000000 in
theorem numbers_any {w : World} (s : List UInt8) (hs : s.length ≤ 281474976710656) :
    Calls Tryd.prog 56 #[.string ⟨s.toArray⟩] w fun e w' => e = .returned (.tuple #[.int .i64 (nm (wrd s).1), .string ⟨(wrd s).2.toArray⟩, .bool (isNum (wrd s).1)]) ∧ Kept (fun _ => True) w w' := by
  have c1 := word_any (w := w) s hs
  have hl := (wrd_len s).1
  have hv := evl_word (wrd s).1 (wrd_word s)
  generalize (wrd s).2 = r at *
  generalize (wrd s).1 = x at *
  have c2 := fun W => eval_any (Ns.nil W) (u := .slice none 0 0) (vs := []) ⟨none, 0, rfl, fun h => by simp at h⟩ (s := x) (by omega)
  have hm : nm x = (evl [] [] x).1 ∧ (isNum x = true → (evl [] [] x).2 = 0) ∧ (isNum x = false → (evl [] [] x).2 ≠ 0) := by
    unfold nm
    by_cases h : isNum x = true
    · rw [if_pos h, hv.1 h]
      exact ⟨rfl, fun _ => rfl, fun h' => by rw [h] at h'; cases h'⟩
    · have h' : isNum x = false := by simpa using h
      rw [if_neg h]
      exact ⟨(hv.2 h').1.symm, (fun h9 => by rw [h'] at h9; cases h9), fun _ => (hv.2 h').2⟩
  obtain ⟨m1, m2, m3⟩ := hm
  rw [m1]
  clear m1 hv
  generalize (evl [] [] x).1 = n at *
  generalize (evl [] [] x).2 = k at *
  cases hb : isNum x with
  | true =>
    have hk := m2 hb
    subst hk
    clear m2 m3 hb
    go_enter Tryd.func56, Tryd.ntmps56
    go_wp2_with fail
    refine Calls.mono c1 ?_
    rintro e w1 ⟨rfl, k1⟩
    go_wp2_with fail
    refine Calls.mono (c2 _) ?_
    rintro e w2 ⟨rfl, k2⟩
    go_wp2_with fail
    go_ret3
    exact ⟨rfl, k1.trans k2⟩
  | false =>
    have hk := m3 hb
    have hk' : ((k : Int) == 0) = false := by simp; omega
    clear m2 m3 hb hk
    go_enter Tryd.func56, Tryd.ntmps56
    go_wp2_with fail
    refine Calls.mono c1 ?_
    rintro e w1 ⟨rfl, k1⟩
    go_wp2_with fail
    refine Calls.mono (c2 _) ?_
    rintro e w2 ⟨rfl, k2⟩
    go_wp2_with fail
    go_ret3
    exact ⟨rfl, k1.trans k2⟩

end Go.Proofs.YtahbfffhkpojmaaDoor
