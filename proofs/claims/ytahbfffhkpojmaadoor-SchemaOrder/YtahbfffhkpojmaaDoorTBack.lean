/-
  What is written is read: plainly.
-/
import Derived.Test.YtahbfffhkpojmaaDoorTPlain
import Derived.Test.YtahbfffhkpojmaaDoorQFew
namespace Go.Proofs.YtahbfffhkpojmaaDoor
open Go.RowKit

/-- Small numbers, written and read. -/
theorem small_num : ∀ n : Fin 2001, isNum (Lib.itoa ((n.val : Int) - 1000)) = true ∧ num (Lib.itoa ((n.val : Int) - 1000)) = (n.val : Int) - 1000 ∧ (Lib.itoa ((n.val : Int) - 1000)).all (fun c => c != 32 && c != 59) = true ∧ (Lib.itoa ((n.val : Int) - 1000)).length ≤ 5 := by decide +kernel
theorem small_of {n : Int} (h1 : -1000 ≤ n) (h2 : n ≤ 1000) : isNum (Lib.itoa n) = true ∧ num (Lib.itoa n) = n ∧ (∀ c ∈ Lib.itoa n, c ≠ 32 ∧ c ≠ 59) ∧ (Lib.itoa n).length ≤ 5 ∧ Lib.itoa n ≠ [] := by
  have h := small_num ⟨(n + 1000).toNat, by omega⟩
  have e : (((n + 1000).toNat : Nat) : Int) - 1000 = n := by omega
  simp only [e] at h
  obtain ⟨a, b, c, d⟩ := h
  refine ⟨a, b, fun x hx => ?_, d, ?_⟩
  · have := List.all_eq_true.1 c x hx
    simpa using this
  · intro h0
    rw [h0] at a
    simp [isNum, mag] at a

/-- A word and what stands behind it. -/
theorem wrd_cons (x y : List UInt8) (hx : ∀ c ∈ x, c ≠ 32) (hy : y.head? ≠ some 32) : wrd (x ++ 32 :: y) = (x, y) := by
  have h1 : (x ++ 32 :: y).takeWhile (fun c => c != 32) = x := by
    rw [List.takeWhile_append_of_pos (fun c hc => by simpa using hx c hc)]
    simp
  have h2 : (x ++ 32 :: y).dropWhile (fun c => c != 32) = 32 :: y := by
    rw [List.dropWhile_append_of_pos (fun c hc => by simpa using hx c hc)]
    simp
  unfold wrd cutAt
  simp only [h1, h2, List.drop_one, List.tail_cons]
  cases y with
  | nil => rfl
  | cons c y =>
    have hc : c ≠ 32 := fun h => hy (by simp [h])
    simp [Lib.trimLeftB, hc]
theorem wrd_last (x : List UInt8) (hx : ∀ c ∈ x, c ≠ 32) : wrd x = (x, []) := by
  have h1 : x.takeWhile (fun c => c != 32) = x := by
    have := List.takeWhile_append_of_pos (l₂ := []) (fun c hc => by simpa using hx c hc : ∀ c ∈ x, (c != 32) = true)
    simpa using this
  have h2 : x.dropWhile (fun c => c != 32) = [] := by
    have := List.dropWhile_append_of_pos (l₂ := []) (fun c hc => by simpa using hx c hc : ∀ c ∈ x, (c != 32) = true)
    simpa using this
  unfold wrd cutAt
  rw [h1, h2]
  rfl
/-- Blanks at both ends. -/
theorem trim_blanks (a : Nat) (x : List UInt8) (b : Nat) (h1 : x.head? ≠ some 32) (h2 : x.getLast? ≠ some 32) (h0 : x ≠ []) : Lib.trimB (List.replicate a 32 ++ x ++ List.replicate b 32) 32 = x := by
  have hr : Lib.trimRightB (List.replicate a 32 ++ x ++ List.replicate b 32) 32 = List.replicate a 32 ++ x := by
    unfold Lib.trimRightB
    rw [List.reverse_append, List.reverse_replicate, List.dropWhile_append_of_pos (fun c hc => by simp [List.eq_of_mem_replicate hc])]
    have : ((List.replicate a 32 ++ x).reverse).dropWhile (fun c => c == 32) = (List.replicate a 32 ++ x).reverse := by
      cases hx : (List.replicate a 32 ++ x).reverse with
      | nil => rfl
      | cons c r =>
        have hc : c ≠ 32 := by
          have h3 : (List.replicate a (32 : UInt8) ++ x).getLast? = some c := by
            rw [List.getLast?_eq_head?_reverse, hx]
            rfl
          rw [List.getLast?_append] at h3
          cases hl : x.getLast? with
          | none => exact absurd (List.getLast?_eq_none_iff.1 hl) h0
          | some d =>
            rw [hl] at h3
            simp at h3
            intro e
            rw [h3, e] at hl
            exact h2 hl
        simp [hc]
    rw [this, List.reverse_reverse]
  unfold Lib.trimB
  rw [hr]
  unfold Lib.trimLeftB
  rw [List.dropWhile_append_of_pos (fun c hc => by simp [List.eq_of_mem_replicate hc])]
  cases x with
  | nil => rfl
  | cons c r =>
    have hc : c ≠ 32 := fun h => h1 (by simp [h])
    simp [hc]

theorem name_chars {x : List UInt8} (h : isName x = true) : (∀ c ∈ x, c ≠ 32 ∧ c ≠ 59) ∧ x ≠ [] ∧ x.length ≤ 12 := by
  obtain ⟨h1, h2, h3, _⟩ := isName_all h
  refine ⟨fun c hc => ?_, (fun h => by subst h; simp at h2), h3⟩
  have := List.all_eq_true.1 h1 c hc
  simp only [isL, Bool.and_eq_true, decide_eq_true_eq] at this
  refine ⟨?_, ?_⟩
  · rintro rfl; revert this; decide
  · rintro rfl; revert this; decide
/-- What is not a letter, a digit or a minus is in no word of a guard. -/
theorem word_chars {ns : List (List UInt8)} {x : List UInt8} (h : rf ns x = 0) : ∀ c ∈ x, c ≠ 59 := by
  have hk : kd x ≠ 1 := by
    rcases rf_cases ns x with ⟨_, h1⟩ | ⟨_, _, h1⟩ | ⟨h1, _⟩
    · omega
    · omega
    · exact h1
  have let_ : x.all isL = true → ∀ c ∈ x, c ≠ 59 := by
    intro h1 c hc
    have := List.all_eq_true.1 h1 c hc
    simp only [isL, Bool.and_eq_true, decide_eq_true_eq] at this
    rintro rfl
    revert this
    decide
  by_cases h2 : isNum x = true
  · simp only [isNum, Bool.and_eq_true, decide_eq_true_eq] at h2
    have hd : ∀ c ∈ mag x, c ≠ 59 := by
      intro c hc
      have := List.all_eq_true.1 h2.1.1 c hc
      simp only [isD, Bool.and_eq_true, decide_eq_true_eq] at this
      rintro rfl
      revert this
      decide
    intro c hc
    unfold mag at hd
    split at hd
    · rename_i h0
      cases x with
      | nil => simp at hc
      | cons y r =>
        rcases List.mem_cons.1 hc with rfl | hc
        · have e : c = 45 := by simpa using h0
          rw [e]
          decide
        · exact hd c hc
    · exact hd c hc
  · by_cases h3 : opOf x = 0
    · have hn : isName x = true := by
        have hk2 := kd_cases x
        unfold kd at hk
        rw [if_neg h2] at hk
        simp only [h3, ne_eq, not_true, if_false] at hk
        split at hk
        · assumption
        · exact absurd rfl hk
      exact let_ (isName_all hn).1
    · rcases opOf_cases x with h4 | h4
      · exact absurd h4 h3
      · exact let_ h4.2.2.1
theorem row_words {ns : List (List UInt8)} {L : Nat} : ∀ (ws : List (Nat × List UInt8)) (left : List Nat), (rowRun ns L left ws).1 = 0 → ∀ a ∈ ws, rf ns a.2 = 0
  | [], _, _ => fun a ha => by simp at ha
  | (p, x) :: r, left, h => by
    unfold rowRun at h
    by_cases h1 : rf ns x ≠ 0
    · rw [if_pos h1] at h
      exact absurd h h1
    · rw [if_neg h1] at h
      have key : ∃ left', (rowRun ns L left' r).1 = 0 := by
        split at h
        · cases h
        · split at h
          · cases h
          · split at h
            · exact ⟨_, h⟩
            · exact ⟨_, h⟩
      obtain ⟨left', h2⟩ := key
      intro a ha
      rcases List.mem_cons.1 ha with rfl | ha
      · show rf ns x = 0
        omega
      · exact row_words r left' h2 a ha
theorem wd_mem (s : List UInt8) : ∀ c ∈ s, c = 32 ∨ c ∈ (wd s).1 ∨ ∃ x ∈ (wd s).2, c ∈ x := by
  induction s with
  | nil => intro c hc; simp at hc
  | cons d r ih =>
    intro c hc
    unfold wd
    rcases List.mem_cons.1 hc with rfl | hc
    · split
      · exact .inl (by assumption)
      · exact .inr (.inl (by simp))
    · rcases ih c hc with h | h | ⟨x, h, hx⟩
      · exact .inl h
      · split
        · right; right
          simp only [fl]
          split
          · rename_i h0; rw [h0] at h; simp at h
          · exact ⟨_, List.mem_cons_self .., h⟩
        · exact .inr (.inl (List.mem_cons_of_mem _ h))
      · split
        · right; right
          simp only [fl]
          split
          · exact ⟨x, h, hx⟩
          · exact ⟨x, List.mem_cons_of_mem _ h, hx⟩
        · exact .inr (.inr ⟨x, h, hx⟩)
theorem tx_mem (s : List UInt8) : ∀ c ∈ s, c = 32 ∨ ∃ x ∈ tx s, c ∈ x := by
  intro c hc
  rcases wd_mem s c hc with h | h | ⟨x, h, hx⟩
  · exact .inl h
  · right
    unfold tx fl
    split
    · rename_i h0; rw [h0] at h; simp at h
    · exact ⟨_, List.mem_cons_self .., h⟩
  · right
    unfold tx fl
    split
    · exact ⟨x, h, hx⟩
    · exact ⟨x, List.mem_cons_of_mem _ h, hx⟩
theorem guard_chars {ns : List (List UInt8)} {g : List UInt8} (h : (chk ns g).1 = 0) : (∀ c ∈ g, c ≠ 59) ∧ g.length ≤ 120 := by
  unfold chk at h
  by_cases hl : 120 < g.length
  · rw [if_pos hl] at h; cases h
  · rw [if_neg hl, ← row_chk] at h
    have hw := row_words _ _ h
    refine ⟨fun c hc => ?_, by omega⟩
    rcases tx_mem g c hc with rfl | ⟨x, hx, hcx⟩
    · decide
    · rw [← Wo_tx] at hx
      obtain ⟨a, ha, rfl⟩ := List.mem_map.1 hx
      exact word_chars (hw a ha) c hcx
theorem rgs_all {ns : List (List UInt8)} : ∀ {rs : List Ru}, rgs ns rs = 0 → ∀ r ∈ rs, (chk ns r.guard).1 = 0
  | [], _ => fun r hr => by simp at hr
  | x :: rs, h => by
    unfold rgs at h
    split at h
    · rename_i h1; exact absurd h h1
    · rename_i h1
      intro r hr
      rcases List.mem_cons.1 hr with rfl | hr
      · simpa using h1
      · exact rgs_all h r hr
theorem rns_all : ∀ {ns : List (List UInt8)} {ats : List At} {had : List (List UInt8)}, rns ats had ns = 0 → (∀ n ∈ ns, isName n = true) ∧ (ats.length ≤ ns.length → ∀ a ∈ ats, ranged a = true)
  | [], ats, _, _ => ⟨fun n hn => by simp at hn, fun h a ha => by
      have : ats = [] := List.eq_nil_of_length_eq_zero (by simpa using h)
      subst this
      simp at ha⟩
  | n :: ns, ats, had, h => by
    unfold rns at h
    by_cases h1 : isName n = false
    · rw [if_pos h1] at h; cases h
    rw [if_neg h1] at h
    by_cases h2 : n ∈ had
    · rw [if_pos h2] at h; cases h
    rw [if_neg h2] at h
    by_cases h3 : ats.head?.any (fun a => !ranged a) = true
    · rw [if_pos h3] at h; cases h
    rw [if_neg h3] at h
    obtain ⟨i1, i2⟩ := rns_all h
    refine ⟨fun x hx => ?_, fun hl a ha => ?_⟩
    · rcases List.mem_cons.1 hx with rfl | hx
      · simpa using h1
      · exact i1 x hx
    · cases ats with
      | nil => simp at ha
      | cons y ys =>
        rcases List.mem_cons.1 ha with rfl | ha
        · simpa using h3
        · exact i2 (by simpa using hl) a ha
/-- All that a right type is. -/
structure Gd (t : Ty) : Prop where
  name : isName t.name = true
  attrs : ∀ a ∈ t.attrs, isName a.name = true ∧ ranged a = true
  stages : ∀ r ∈ t.stages, isName r.name = true ∧ (∀ c ∈ r.guard, c ≠ 59) ∧ r.guard.length ≤ 120
  marks : ∀ r ∈ t.marks, isName r.name = true ∧ (∀ c ∈ r.guard, c ≠ 59) ∧ r.guard.length ≤ 120
theorem right_good {t : Ty} (h : right t = 0) : Gd t := by
  obtain ⟨h1, _, _, _, h2, h3⟩ := right_few h
  obtain ⟨n1, n2⟩ := rns_all h2
  have g := rgs_all h3
  refine ⟨h1, fun a ha => ⟨n1 _ (by simp only [nms, List.mem_append, List.mem_map]; exact .inl (.inl ⟨a, ha, rfl⟩)), n2 (by simp [nms]) a ha⟩, fun r hr => ⟨n1 _ (by simp only [nms, List.mem_append, List.mem_map]; exact .inl (.inr ⟨r, hr, rfl⟩)), guard_chars (g r (List.mem_append_left _ hr))⟩, fun r hr => ⟨n1 _ (by simp only [nms, List.mem_append, List.mem_map]; exact .inr ⟨r, hr, rfl⟩), guard_chars (g r (List.mem_append_right _ hr))⟩⟩

end Go.Proofs.YtahbfffhkpojmaaDoor
