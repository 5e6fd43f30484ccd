/-
  Readers of one case, plainly.
-/
import Derived.Test.YtkinpgkckbocpaaKNum
import Derived.Laws.Runes
import Derived.Laws.Concat
namespace Go.Proofs.Ytkinpgkckbocpaa
open Go.RowKit

/-- string(rune('a' + i)), and 't' ahead of it. -/
def ru (i : Nat) : List UInt8 := [UInt8.ofNat (97 + i)]
def ty (i : Nat) : List UInt8 := 116 :: ru i
/-- What is wanted of the names. -/
structure Tys (ru ty : Nat → List UInt8) : Prop where
  conv : ∀ i : Nat, i < 11 → ∀ W, (convert 21 9 (.int .i32 (97 + (i : Int)))).run Try.prog W = .ok (.string ⟨(ru i).toArray⟩) W
  plus : ∀ i : Nat, i < 11 → ∀ W, (Op.stringOp .add ⟨#[116]⟩ ⟨(ru i).toArray⟩).run Try.prog W = .ok (.string ⟨(ty i).toArray⟩) W
  inj : ∀ i j : Nat, i < 11 → j < 11 → ty i = ty j → i = j
  some : ∀ i : Nat, i < 11 → ty i ≠ []
  notW : ∀ i : Nat, i < 11 → ty i ≠ [119]
  short : ∀ i : Nat, i < 11 → (ty i).length ≤ 281474976710656
set_option maxRecDepth 10000 in
theorem tys_some : ∃ ru ty, Tys ru ty := by
  refine ⟨ru, ty, ⟨fun i hi W => ?_, fun i hi W => ?_, ?_, ?_, ?_, ?_⟩⟩
  · have e : Utf8.encode (97 + (i : Int)) = ⟨(ru i).toArray⟩ := by
      have : ∀ k : Nat, k < 11 → Utf8.encode (97 + ((k : Nat) : Int)) = ⟨(ru k).toArray⟩ := by decide +kernel
      exact this i hi
    rw [← e]
    exact run_convert_int_string W _ _ _ _ rfl Try.underlying9
  · have := run_string_add_lists (P := Try.prog) W [116] (ru i) (by simp) (by simp [ru])
    exact this
  · have : ∀ i : Nat, i < 11 → ∀ j : Nat, j < 11 → ty i = ty j → i = j := by decide +kernel
    exact fun i j hi hj e => this i hi j hj e
  · intro i _ e
    cases e
  · intro i _ e
    simp [ty, ru] at e
  · intro i _
    simp [ty, ru]

variable {ru ty : Nat → List UInt8}
/-- The names from a up to b. -/
def txr (ty : Nat → List UInt8) (a b : Nat) : List (List UInt8) := (List.range' a (b - a)).map ty
theorem txr_mem {a b : Nat} {y : List UInt8} : y ∈ txr ty a b ↔ ∃ j, a ≤ j ∧ j < b ∧ y = ty j := by
  unfold txr
  rw [List.mem_map]
  constructor
  · rintro ⟨j, hj, rfl⟩
    rw [List.mem_range'_1] at hj
    exact ⟨j, hj.1, by omega, rfl⟩
  · rintro ⟨j, h1, h2, rfl⟩
    exact ⟨j, by rw [List.mem_range'_1]; omega, rfl⟩
/-- Those hold the case x to read. -/
def rdH (ty : Nat → List UInt8) (a b : Nat) : Lk := fun c y => if c = [120] ∧ y ∈ txr ty a b then some false else none
theorem rd_none {a b : Nat} {y : List UInt8} : rdH ty a b [120] y ≠ none ↔ y ∈ txr ty a b := by
  unfold rdH
  by_cases h : y ∈ txr ty a b <;> simp [h]
theorem rd_true {a b : Nat} {c y : List UInt8} : rdH ty a b c y ≠ some true := by
  unfold rdH
  split <;> simp
theorem rd_zero : rdH ty 0 0 = fun _ _ => none := by
  funext c y
  unfold rdH txr
  simp
theorem rd_over {a b : Nat} (h : b ≤ a) : rdH ty a b = fun _ _ => none := by
  funext c y
  unfold rdH
  rw [if_neg]
  rintro ⟨_, h1⟩
  obtain ⟨j, h2, h3, _⟩ := txr_mem.1 h1
  omega
theorem rd_give (i : Nat) : gives (rdH ty 0 i) (ty i) [([120], false)] = rdH ty 0 (i + 1) := by
  funext c y
  show give _ _ _ _ c y = _
  unfold give
  by_cases h : c = [120] ∧ y = ty i
  · obtain ⟨rfl, rfl⟩ := h
    have : ty i ∈ txr ty 0 (i + 1) := txr_mem.2 ⟨i, Nat.zero_le _, by omega, rfl⟩
    have e1 : rdH ty 0 (i + 1) [120] (ty i) = some false := by
      unfold rdH
      rw [if_pos ⟨rfl, this⟩]
    rw [if_pos ⟨rfl, rfl⟩, e1]
    unfold rdH
    by_cases h2 : ty i ∈ txr ty 0 i <;> simp [h2]
  · rw [if_neg h]
    unfold rdH
    by_cases h3 : c = [120]
    · have hy : y ≠ ty i := fun e => h ⟨h3, e⟩
      have : y ∈ txr ty 0 i ↔ y ∈ txr ty 0 (i + 1) := by
        rw [txr_mem, txr_mem]
        constructor
        · rintro ⟨j, h1, h2, e⟩
          exact ⟨j, h1, by omega, e⟩
        · rintro ⟨j, h1, h2, e⟩
          refine ⟨j, h1, ?_, e⟩
          have : j ≠ i := fun q => hy (by rw [e, q])
          omega
      simp [h3, this]
    · simp [h3]
theorem rd_freed (T : Tys ru ty) {i n : Nat} (hi : i < n) (hn : n ≤ 10) : freed (rdH ty i n) (ty i) = rdH ty (i + 1) n := by
  funext c y
  unfold freed
  by_cases hy : y = ty i
  · rw [if_pos hy]
    unfold rdH
    rw [if_neg]
    rintro ⟨_, h1⟩
    obtain ⟨j, h2, h3, e⟩ := txr_mem.1 h1
    have := T.inj i j (by omega) (by omega) (hy.symm.trans e)
    omega
  · rw [if_neg hy]
    unfold rdH
    have : y ∈ txr ty i n ↔ y ∈ txr ty (i + 1) n := by
      rw [txr_mem, txr_mem]
      constructor
      · rintro ⟨j, h1, h2, e⟩
        refine ⟨j, ?_, h2, e⟩
        have : j ≠ i := fun q => hy (by rw [e, q])
        omega
      · rintro ⟨j, h1, h2, e⟩
        exact ⟨j, by omega, h2, e⟩
    simp [this]
theorem rd_some {i n : Nat} (hi : i < n) : Some1 (rdH ty i n) (ty i) := ⟨[120], rd_none.2 (txr_mem.2 ⟨i, Nat.le_refl _, hi, rfl⟩)⟩
theorem rd_len (T : Tys ru ty) {g n : Nat} (hn : n ≤ 10) {us : List (List UInt8)} (h : Hol (rdH ty g n) [120] us) : us.length = n - g := by
  have hd : (txr ty g n).Nodup := by
    unfold txr
    refine List.pairwise_map.2 ?_
    have hr : (List.range' g (n - g)).Nodup := List.nodup_range' ..
    refine List.Pairwise.imp_of_mem (fun {a b} ha hb hne e => hne ?_) hr
    rw [List.mem_range'_1] at ha hb
    exact T.inj a b (by omega) (by omega) e
  have hp := (List.perm_ext_iff_of_nodup h.1.nodup hd).2 (fun y => by rw [h.2 y, rd_none])
  rw [hp.length_eq]
  simp [txr]
theorem rd_ill {g n : Nat} (T : Tys ru ty) (hg : g < n) (hn : n ≤ 10) : ∃ z ∈ [(([120] : List UInt8), true)], Ill (rdH ty g n) [119] z.1 z.2 :=
  ⟨_, List.mem_cons_self .., ty g, false, T.notW g (by omega), by unfold rdH; rw [if_pos ⟨rfl, txr_mem.2 ⟨g, Nat.le_refl _, hg, rfl⟩⟩], .inr rfl⟩
theorem rd_read (x : List UInt8) (a b : Nat) : ∀ z ∈ [(([120] : List UInt8), false)], ¬ Ill (rdH ty a b) x z.1 z.2 := by
  intro z hz
  simp at hz
  subst hz
  exact not_ill_read (fun y _ => rd_true)
theorem rd_two {g n : Nat} (T : Tys ru ty) (hg : g + 1 < n) (hn : n ≤ 10) : ∃ z ∈ [(([120] : List UInt8), true)], Ill (rdH ty g n) (ty (n - 1)) z.1 z.2 :=
  ⟨_, List.mem_cons_self .., ty g, false, fun e => by have := T.inj g (n - 1) (by omega) (by omega) e; omega, by unfold rdH; rw [if_pos ⟨rfl, txr_mem.2 ⟨g, Nat.le_refl _, by omega, rfl⟩⟩], .inr rfl⟩
theorem rd_last {g n : Nat} (hg : g + 1 = n) : ∀ z ∈ [(([120] : List UInt8), true)], ¬ Ill (rdH ty g n) (ty (n - 1)) z.1 z.2 := by
  intro z hz
  simp at hz
  subst hz
  refine not_ill_free (fun y hy => ?_) _
  refine Classical.byContradiction fun h => ?_
  obtain ⟨j, h1, h2, e⟩ := txr_mem.1 (rd_none.1 h)
  exact hy (by rw [e]; congr 1; omega)
theorem rd_w (x : List UInt8) (hx : x ≠ [119]) : ∃ z ∈ [(([120] : List UInt8), false)], Ill (gives (fun _ _ => none) [119] [([120], true)]) x z.1 z.2 :=
  ⟨_, List.mem_cons_self .., [119], true, Ne.symm hx, by simp [gives, give], .inl rfl⟩

end Go.Proofs.Ytkinpgkckbocpaa
