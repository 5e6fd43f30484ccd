/-
  TxnTexts, plainly: the votes in a turned order.
-/
import Derived.Test.YtebpkhemkdgbjaaYN
import Derived.Laws.Runes
import Derived.Laws.Concat
namespace Go.Proofs.Ytebpkhemkdgbjaa
open Go.RowKit

def tru (i : Nat) : List UInt8 := [UInt8.ofNat (48 + i)]
def ttx (i : Nat) : List UInt8 := 116 :: 101 :: 120 :: 116 :: 32 :: tru i
structure Tts (tru ttx : Nat → List UInt8) : Prop where
  conv : ∀ i : Nat, i < 4 → ∀ W, (convert 21 9 (.int .i32 (48 + (i : Int)))).run Try.prog W = .ok (.string ⟨(tru i).toArray⟩) W
  plus : ∀ i : Nat, i < 4 → ∀ W, (Op.stringOp .add ⟨#[116, 101, 120, 116, 32]⟩ ⟨(tru i).toArray⟩).run Try.prog W = .ok (.string ⟨(ttx i).toArray⟩) W
set_option maxRecDepth 10000 in
theorem tts_some : ∃ tru ttx, Tts tru ttx := by
  refine ⟨tru, ttx, ⟨fun i hi W => ?_, fun i hi W => ?_⟩⟩
  · have e : Utf8.encode (48 + (i : Int)) = ⟨(tru i).toArray⟩ := by
      have : ∀ k : Nat, k < 4 → Utf8.encode (48 + ((k : Nat) : Int)) = ⟨(tru k).toArray⟩ := by decide +kernel
      exact this i hi
    rw [← e]
    exact run_convert_int_string W _ _ _ _ rfl Try.underlying9
  · exact run_string_add_lists (P := Try.prog) W [116, 101, 120, 116, 32] (tru i) (by simp) (by simp [tru])
theorem wrap48 (s : Nat) (h : s ≤ 1000) : IntKind.i32.wrap (48 + (s : Int)) = 48 + (s : Int) := by
  simp [IntKind.wrap, IntKind.bits, IntKind.signed]
  omega

/-- Behind i votes, from the k-th group on. -/
structure InvT (L gs : List Nat) (tt : Nat → List UInt8) (k i : Nat) (z : Tn) : Prop where
  ow : z.ow = L
  ln : z.tx.length = L.length
  oc : z.oc = if i = gs.length then 1 else 0
  dn : z.dn = B3.none
  ar : z.ar = 0
  wy : z.wy = 0
  vo : ∀ g, g < 3 → (z.vo.at g = true ↔ ∃ j, j < i ∧ gs[(j + k) % gs.length]? = some g)
  tx : ∀ q g, L[q]? = some g → z.vo.at g = true → z.tx[q]? = some (tt q)
theorem InvT.start (L gs : List Nat) (tt : Nat → List UInt8) (k : Nat) (h0 : 0 < gs.length) : InvT L gs tt k 0 (rawT L) := by
  refine ⟨rfl, by simp [rawT], ?_, rfl, rfl, rfl, fun g _ => ?_, fun q g _ hv => ?_⟩
  · rw [if_neg (by omega)]; rfl
  · rw [show (rawT L).vo.at g = false from B3.at_none g]
    simp
  · rw [show (rawT L).vo.at g = false from B3.at_none g] at hv
    cases hv
theorem turn_new {m k i j : Nat} (hm : m ≤ 3) (h0 : 0 < m) (hk : k < m) (hi : i < m) (hj : j < i) : (j + k) % m ≠ (i + k) % m := by
  have : m = 1 ∨ m = 2 ∨ m = 3 := by omega
  rcases this with rfl | rfl | rfl <;> omega
theorem turn_all {m k p : Nat} (hm : m ≤ 3) (hk : k < m) (hp : p < m) : ∃ j, j < m ∧ (j + k) % m = p := by
  refine ⟨(p + m - k) % m, Nat.mod_lt _ (by omega), ?_⟩
  have : m = 1 ∨ m = 2 ∨ m = 3 := by omega
  rcases this with rfl | rfl | rfl <;> omega
theorem nodup_inj {l : List Nat} (h : l.Nodup) {i j : Nat} (hi : i < l.length) (hj : j < l.length) (e : l[i] = l[j]) : i = j := by
  have q := List.pairwise_iff_getElem.1 h
  rcases Nat.lt_trichotomy i j with h1 | h1 | h1
  · exact absurd e (q i j hi hj h1)
  · exact h1
  · exact absurd e.symm (q j i hj hi h1)
/-- The groups: each once, those that own an operation. -/
structure Gss (L gs : List Nat) : Prop where
  nd : gs.Nodup
  mem : ∀ g, g ∈ gs ↔ g < 3 ∧ g ∈ L
  most : gs.length ≤ 3
theorem gss_of (L : List Nat) : Gss L (butG (memO L) B3.none 3) := by
  refine ⟨List.Pairwise.filter _ List.nodup_range, fun g => ?_, butG_most _ _ _⟩
  unfold butG
  rw [List.mem_filter, List.mem_range]
  constructor
  · rintro ⟨h1, h2⟩
    rw [memO_at _ _ h1, B3.at_none] at h2
    exact ⟨h1, by simpa using h2⟩
  · rintro ⟨h1, h2⟩
    refine ⟨h1, ?_⟩
    rw [memO_at _ _ h1, B3.at_none]
    simpa using h2
theorem InvT.step {L gs : List Nat} {tt : Nat → List UInt8} {k i : Nat} {z : Tn} (hG : Gss L gs) (h : InvT L gs tt k i z) (hk : k < gs.length) (hi : i < gs.length) {g : Nat} (hg : gs[(i + k) % gs.length]? = some g) :
    InvT L gs tt k (i + 1) (z.vote (g : Nat) true ((idx (oh L) L.length g).map tt) 0 0) := by
  have hgm : g ∈ gs := List.mem_of_getElem? hg
  obtain ⟨hg3, hgL⟩ := (hG.mem g).1 hgm
  have h0 : z.oc = 0 := by rw [h.oc, if_neg (by omega)]
  have h1 : hasG (memO z.ow) (g : Nat) = true := by rw [hasG_nat _ _ hg3, memO_at _ _ hg3, h.ow]; simpa using hgL
  have hnew : z.vo.at g = false := by
    cases e : z.vo.at g
    · rfl
    · obtain ⟨j, hj, hj2⟩ := (h.vo g hg3).1 e
      have l1 : (j + k) % gs.length < gs.length := Nat.mod_lt _ (by omega)
      have l2 : (i + k) % gs.length < gs.length := Nat.mod_lt _ (by omega)
      have := nodup_inj hG.nd l1 l2 (by
        rw [List.getElem?_eq_getElem l1] at hj2
        rw [List.getElem?_eq_getElem l2] at hg
        simp only [Option.some.injEq] at hj2 hg
        rw [hj2, hg])
      exact absurd this (turn_new hG.most (by omega) hk hi hj)
  have h2 : hasG z.vo (g : Nat) = false := by rw [hasG_nat _ _ hg3]; exact hnew
  have hl : ((idx (oh L) L.length g).map tt).length = (idx (oh z.ow) z.ow.length g).length := by rw [List.length_map, h.ow]
  have hvo : ∀ g', g' < 3 → ((z.vo.set g).at g' = true ↔ ∃ j, j < i + 1 ∧ gs[(j + k) % gs.length]? = some g') := fun g' hg' => by
    rw [B3.at_set _ _ _ hg3]
    constructor
    · intro e
      by_cases e2 : g' = g
      · exact ⟨i, by omega, by rw [e2]; exact hg⟩
      · rw [if_neg e2] at e
        obtain ⟨j, hj, hj2⟩ := (h.vo g' hg').1 e
        exact ⟨j, by omega, hj2⟩
    · rintro ⟨j, hj, hj2⟩
      by_cases e2 : g' = g
      · rw [if_pos e2]
      · rw [if_neg e2]
        refine (h.vo g' hg').2 ⟨j, ?_, hj2⟩
        have : j ≠ i := fun e => e2 (by rw [e, hg] at hj2; simpa using hj2.symm)
        omega
  have heq : B3.eqv (z.vo.set g) (memO z.ow) = decide (i + 1 = gs.length) := by
    by_cases e : i + 1 = gs.length
    · rw [decide_eq_true e]
      refine B3.eqv_iff.2 (B3.ext fun g' hg' => ?_)
      rw [memO_at _ _ hg', h.ow]
      cases e2 : decide (g' ∈ L)
      · cases e3 : (z.vo.set g).at g'
        · rfl
        · obtain ⟨j, _, hj2⟩ := (hvo g' hg').1 e3
          have := ((hG.mem g').1 (List.mem_of_getElem? hj2)).2
          simp [this] at e2
      · have hm : g' ∈ gs := (hG.mem g').2 ⟨hg', by simpa using e2⟩
        obtain ⟨p, hp, hp2⟩ := List.getElem_of_mem hm
        obtain ⟨j, hj, hj2⟩ := turn_all hG.most hk hp
        exact (hvo g' hg').2 ⟨j, by omega, by rw [hj2, List.getElem?_eq_getElem hp, hp2]⟩
    · rw [decide_eq_false e]
      cases e2 : B3.eqv (z.vo.set g) (memO z.ow)
      · rfl
      · have e3 := B3.eqv_iff.1 e2
        have l2 : (i + 1 + k) % gs.length < gs.length := Nat.mod_lt _ (by omega)
        have hm := (hG.mem _).1 (List.getElem_mem l2)
        have : (z.vo.set g).at gs[(i + 1 + k) % gs.length] = true := by
          rw [e3, memO_at _ _ hm.1, h.ow]
          simpa using hm.2
        obtain ⟨j, hj, hj2⟩ := (hvo _ hm.1).1 this
        have l1 : (j + k) % gs.length < gs.length := Nat.mod_lt _ (by omega)
        rw [List.getElem?_eq_getElem l1] at hj2
        have := nodup_inj hG.nd l1 l2 (by simpa using hj2)
        exact absurd this (turn_new hG.most (by omega) hk (by omega) hj)
  have hkeep : ∀ q g', L[q]? = some g' → (z.vo.set g).at g' = true → (puts (idx (oh z.ow) z.ow.length g) ((idx (oh L) L.length g).map tt) z.tx)[q]? = some (tt q) := fun q g' hq hv => by
    rw [h.ow]
    by_cases e : g' = g
    · subst e
      have hm : q ∈ idx (oh L) L.length g' := (idx_oh L L.length g' q (Nat.le_refl _)).2 ⟨by
        have := List.getElem?_eq_some_iff.1 hq
        exact this.1, hq⟩
      obtain ⟨j, hj, rfl⟩ := List.getElem_of_mem hm
      rw [puts_get _ _ _ j hj (by rw [List.length_map]; exact Nat.le_refl _) (List.Pairwise.filter _ List.nodup_range) (fun x hx => by
        rw [h.ln]
        exact (idx_mem hx).1)]
      simp
    · rw [puts_get_no]
      · have hg' : g' < 3 := by
          by_cases q3 : g' < 3
          · exact q3
          · exfalso
            rw [B3.at_set _ _ _ hg3, if_neg e] at hv
            have : ∀ n, ¬ n < 3 → z.vo.at n = false := fun n hn => by
              match n, hn with
              | 0, hn => omega
              | 1, hn => omega
              | 2, hn => omega
              | n + 3, _ => rfl
            rw [this g' q3] at hv
            cases hv
        refine h.tx q g' hq ?_
        rw [B3.at_set _ _ _ hg3, if_neg e] at hv
        exact hv
      · intro hm
        have := ((idx_oh L L.length g q (Nat.le_refl _)).1 hm).2
        rw [hq] at this
        exact e (by simpa using this)
  by_cases e : i + 1 = gs.length
  · rw [decide_eq_true e] at heq
    rw [vote_all h0 h1 h2 hl heq]
    exact ⟨h.ow, by show (puts _ _ _).length = _; rw [puts_length]; exact h.ln, by show (1 : Int) = _; rw [if_pos e], h.dn, h.ar, h.wy, hvo, hkeep⟩
  · rw [decide_eq_false e] at heq
    rw [vote_kept h0 h1 h2 hl heq]
    exact ⟨h.ow, by show (puts _ _ _).length = _; rw [puts_length]; exact h.ln, by show z.oc = _; rw [h0, if_neg e], h.dn, h.ar, h.wy, hvo, hkeep⟩
theorem InvT.done {L gs : List Nat} {tt : Nat → List UInt8} {k : Nat} {z : Tn} (hG : Gss L gs) (hL : ∀ g ∈ L, g < 3) (h : InvT L gs tt k gs.length z) (hk : k < gs.length) : z.oc = 1 ∧ z.tx = (List.range L.length).map tt := by
  refine ⟨by rw [h.oc, if_pos rfl], ?_⟩
  apply List.ext_getElem?
  intro q
  by_cases hq : q < L.length
  · have hg := List.getElem?_eq_getElem hq
    have hg3 := hL _ (List.getElem_mem hq)
    obtain ⟨p, hp, hp2⟩ := List.getElem_of_mem ((hG.mem _).2 ⟨hg3, List.getElem_mem hq⟩)
    obtain ⟨j, hj, hj2⟩ := turn_all hG.most hk hp
    rw [h.tx q _ hg ((h.vo _ hg3).2 ⟨j, hj, by rw [hj2, List.getElem?_eq_getElem hp, hp2]⟩)]
    simp [hq]
  · rw [List.getElem?_eq_none (by rw [h.ln]; omega), List.getElem?_eq_none (by simp; omega)]

end Go.Proofs.Ytebpkhemkdgbjaa
