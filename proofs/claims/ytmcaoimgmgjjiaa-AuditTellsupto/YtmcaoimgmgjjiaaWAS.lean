/-
  Texts of the proofs, 45 of 52.
-/
import Derived.Test.YtmcaoimgmgjjiaaWAK
import Derived.Test.YtmcaoimgmgjjiaaWAR
namespace Go.Proofs.Ytmcaoimgmgjjiaa
open Go.RowKit Go.Maps Go.Sort

theorem pre_iff {xs ys : List Li} : pre xs ys ↔ ∀ k (_ : k < xs.length) (_ : k < ys.length), xs[k]? = ys[k]? := by
  unfold pre
  constructor
  · intro h k h1 h2
    have e := congrArg (fun l => l[k]?) h
    have hk : k < min xs.length ys.length := by omega
    simp only [List.getElem?_take, if_pos hk] at e
    exact e
  · intro h
    refine List.ext_getElem? fun k => ?_
    rw [List.getElem?_take, List.getElem?_take]
    by_cases hk : k < min xs.length ys.length
    · rw [if_pos hk, if_pos hk]
      exact h k (by omega) (by omega)
    · rw [if_neg hk, if_neg hk]
theorem pre_symm {xs ys : List Li} (h : pre xs ys) : pre ys xs := pre_iff.2 fun k h1 h2 => (pre_iff.1 h k h2 h1).symm
theorem pre_self (xs : List Li) : pre xs xs := rfl
theorem pre_both {a b l : List Li} (h1 : pre a l) (h2 : pre b l) (hl : b.length ≤ l.length) : pre a b := pre_iff.2 fun k q1 q2 => (pre_iff.1 h1 k q1 (by omega)).trans (pre_iff.1 h2 k q2 (by omega)).symm
theorem lg_max (g : Int) (ps : List Up) : (lg ps g = none → ∀ p ∈ ps, p.g ≠ g) ∧ ∀ o m, lg ps g = some (o, m) → ∀ p ∈ ps, p.g = g → p.ls.length ≤ m := by
  refine snoc_ind (P := fun ps => (lg ps g = none → ∀ p ∈ ps, p.g ≠ g) ∧ ∀ o m, lg ps g = some (o, m) → ∀ p ∈ ps, p.g = g → p.ls.length ≤ m) ?_ (fun l x ih => ?_) ps
  · exact ⟨(fun _ p h => by cases h), fun _ _ h => by cases h⟩
  · rw [lg_snoc]
    obtain ⟨i1, i2⟩ := ih
    by_cases hc : x.g = g ∧ (∀ m, (lg l g).map (·.2) = some m → m < x.ls.length)
    · rw [if_pos hc]
      refine ⟨(fun h => by cases h), fun o m h p hp hpg => ?_⟩
      cases h
      rcases List.mem_append.1 hp with q | q
      · cases hl : lg l g with
        | none => exact absurd hpg (i1 hl p q)
        | some om =>
          obtain ⟨o, m⟩ := om
          have h1 := i2 o m hl p q hpg
          have h2 := hc.2 m (by rw [hl]; rfl)
          omega
      · rw [List.mem_singleton.1 q]
        exact Nat.le_refl _
    · rw [if_neg hc]
      refine ⟨fun h p hp => ?_, fun o m h p hp hpg => ?_⟩
      · rcases List.mem_append.1 hp with q | q
        · exact i1 h p q
        · rw [List.mem_singleton.1 q]
          exact fun e => hc ⟨e, fun m hm => by rw [h] at hm; cases hm⟩
      · rcases List.mem_append.1 hp with q | q
        · exact i2 o m h p q hpg
        · rw [List.mem_singleton.1 q] at hpg ⊢
          refine Classical.byContradiction fun hlt => hc ⟨hpg, fun m' hm' => ?_⟩
          rw [h] at hm'
          simp only [Option.map_some, Option.some.injEq] at hm'
          omega
def LL (rs : List Ur) : List Li := mkC (tsR rs)
def Pair (gr : List (Int × List Ur)) : Prop := ∀ p ∈ gr, ∀ p' ∈ gr, p.1 = p'.1 → pre (LL p.2) (LL p'.2)
def Let (gr : List (Int × List Ur)) : Prop := Pair gr ∧ (∀ p ∈ gr, Alone p) ∧ Cross (flat gr)
end Go.Proofs.Ytmcaoimgmgjjiaa

namespace Go.Proofs.Ytmcaoimgmgjjiaa
open Go.RowKit Go.Maps Go.Sort

theorem pgs_low {cs : List Uc} {pq : List (Up × Ua)} (hp : Pgs cs (pq.map (·.1))) (i : Nat) (h1 : i < pq.length) : pq[i].1.lo = lgI ((pq.map (·.1)).take i) pq[i].1.g := by
  have := hp.lo i (by rw [List.length_map]; exact h1)
  rwa [List.getElem_map] at this
theorem pq_mem {pq : List (Up × Ua)} {j n : Nat} (hj : j < pq.length) (hn : j < n) : pq[j].1 ∈ (pq.map (·.1)).take n := by
  have := take_mem (xs := pq.map (·.1)) (i := j) (j := n) (by rw [List.length_map]; exact hj) hn
  rwa [List.getElem_map] at this
theorem lo_case {cs : List Uc} {pq : List (Up × Ua)} (hp : Pgs cs (pq.map (·.1))) (n : Nat) (hn : n < pq.length) :
    (pq[n].1.lo = -1 ∧ ∀ j (hj : j < pq.length), j < n → pq[j].1.g ≠ pq[n].1.g) ∨ ∃ (o : Nat) (ho : o < pq.length), o < n ∧ pq[n].1.lo = (o : Int) ∧ pq[o].1.g = pq[n].1.g ∧ ∀ j (hj : j < pq.length), j < n → pq[j].1.g = pq[n].1.g → pq[j].1.ls.length ≤ pq[o].1.ls.length := by
  have hm := lg_max pq[n].1.g ((pq.map (·.1)).take n)
  have hl := pgs_low hp n hn
  unfold lgI at hl
  cases hlg : lg ((pq.map (·.1)).take n) pq[n].1.g with
  | none =>
    rw [hlg] at hl
    exact .inl ⟨hl, fun j hj hjn => hm.1 hlg _ (pq_mem hj hjn)⟩
  | some om =>
    obtain ⟨o, m⟩ := om
    rw [hlg] at hl
    obtain ⟨hoo, e1, e2⟩ := lg_ok _ _ _ _ hlg
    rw [List.length_take, List.length_map] at hoo
    simp only [List.getElem_take, List.getElem_map] at e1 e2
    exact .inr ⟨o, by omega, by omega, hl, e2, fun j hj hjn hg => by rw [e1]; exact hm.2 o m hlg _ (pq_mem hj hjn) hg⟩
theorem ear_pre {cs : List Uc} {pq : List (Up × Ua)} (hp : Pgs cs (pq.map (·.1))) : ∀ n, n ≤ pq.length → (∀ i (hi : i < pq.length), i < n → IsU pq pq[i].1 (-1)) → ∀ i j (h1 : i < pq.length) (h2 : j < pq.length), i < n → j < n → pq[i].1.g = pq[j].1.g → pre pq[i].1.ls pq[j].1.ls
  | 0, _, _, _, _, _, _, h, _, _ => by omega
  | n + 1, hn, hu, i, j, h1, h2, hi, hj, hg => by
    have ih := ear_pre hp n (by omega) (fun i hi h => hu i hi (by omega))
    have hnew : ∀ j (h2 : j < pq.length) (h3 : n < pq.length), j < n → pq[n].1.g = pq[j].1.g → pre pq[n].1.ls pq[j].1.ls := fun j h2 h3 hjn hgj => by
      rcases lo_case hp n h3 with ⟨_, q⟩ | ⟨o, ho, hon, q1, q2, q3⟩
      · exact absurd hgj.symm (q j h2 hjn)
      · rcases hu n h3 (by omega) with ⟨r1, _⟩ | ⟨o', ho', r1, ⟨r2, _⟩ | ⟨_, k, _, _, r2, _⟩⟩
        · omega
        · obtain rfl : o' = o := by omega
          exact pre_both r2 (ih j o' h2 ho hjn hon (by rw [← hgj, q2])) (q3 j h2 hjn hgj.symm)
        · omega
    by_cases e1 : i = n
    · by_cases e2 : j = n
      · subst e1; subst e2; exact pre_self _
      · subst e1; exact hnew j h2 h1 (by omega) hg
    · by_cases e2 : j = n
      · subst e2; exact pre_symm (hnew i h1 h2 (by omega) hg.symm)
      · exact ih i j h1 h2 (by omega) (by omega) hg
theorem df_not {a b : List Li} {p : Nat} (h : ¬ Df a b p) (h1 : p < a.length) (h2 : p < b.length) : a[p]? = b[p]? := Classical.byContradiction fun e => h ⟨h1, h2, e⟩
theorem bst_isU {cs : List Uc} {pq : List (Up × Ua)} (hp : Pgs cs (pq.map (·.1))) (n : Nat) (hn : n < pq.length) (hu : ∀ i (hi : i < pq.length), i < n → IsU pq pq[i].1 (-1)) (lk : Nat → List Li) (same : Nat → Prop) (hlk : ∀ j (hj : j < pq.length), j < n → lk j = pq[j].1.ls) (hsm : ∀ j (hj : j < pq.length), j < n → (same j ↔ pq[j].1.g = pq[n].1.g)) {z : Int} (hb : Bst pq[n].1.ls lk same n z) : IsU pq pq[n].1 z := by
  have hpre := ear_pre hp n (by omega) hu
  rcases lo_case hp n hn with ⟨q1, q2⟩ | ⟨o, ho, hon, q1, q2, q3⟩
  · refine .inl ⟨q1, ?_⟩
    rcases hb with ⟨rfl, _⟩ | ⟨q, rfl, ⟨k, hk, hs, _⟩, _⟩
    · rfl
    · exact absurd ((hsm k (by omega) hk).1 hs) (q2 k (by omega) hk)
  · refine .inr ⟨o, ho, q1, ?_⟩
    have hso : same o := (hsm o ho hon).2 q2
    have hlo := hlk o ho hon
    have toO : ∀ k, k < n → same k → ∀ p, Df pq[n].1.ls (lk k) p → Df pq[n].1.ls pq[o].1.ls p := fun k hk hs p hd => by
      have hk2 : k < pq.length := by omega
      have hgk := (hsm k hk2 hk).1 hs
      rw [hlk k hk2 hk] at hd
      have hle := q3 k hk2 hk hgk
      have e := pre_iff.1 (hpre k o hk2 ho hk hon (by rw [hgk, q2])) p hd.2.1 (by have := hd.2.1; omega)
      exact ⟨hd.1, by have := hd.2.1; omega, by rw [← e]; exact hd.2.2⟩
    rcases hb with ⟨rfl, h⟩ | ⟨q, rfl, ⟨k, hk, hs, hd⟩, hmin⟩
    · refine .inl ⟨pre_iff.2 fun p h1 h2 => df_not (by have := h o hon hso p; rwa [hlo] at this) h1 h2, rfl⟩
    · have hdo := toO k hk hs q hd
      obtain ⟨d1, d2, d3⟩ := hdo
      refine .inr ⟨fun hpr => d3 (pre_iff.1 hpr q d1 d2), q, d1, d2, rfl, fun e => d3 (by rw [List.getElem?_eq_getElem d1, List.getElem?_eq_getElem d2, e]), ?_⟩
      refine List.ext_getElem? fun j => ?_
      by_cases hj : j < q
      · rw [List.getElem?_take, List.getElem?_take, if_pos hj, if_pos hj]
        have hm := hmin o hon hso j hj
        rw [hlo] at hm
        exact df_not hm (by omega) (by omega)
      · rw [List.getElem?_take, List.getElem?_take, if_neg hj, if_neg hj]

end Go.Proofs.Ytmcaoimgmgjjiaa

namespace Go.Proofs.Ytmcaoimgmgjjiaa
open Go.RowKit Go.Maps Go.Sort

theorem entM_at (us : List Ur) (q : Nat) (h : q < us.length) : (entM us)[q]? = some ⟨us[q], kin (entM (us.take q)) us[q].tx⟩ := by
  have e : entM us = entO (((us.drop q)).map some) (entM (us.take q)) := by
    unfold entM
    rw [← entO_append, ← List.map_append, List.take_append_drop]
  have hl : (entM (us.take q)).length = q := by
    have := congrArg List.length (entM_recs (us.take q))
    rw [List.length_map, List.length_take] at this
    omega
  rw [List.drop_eq_getElem_cons h, List.map_cons] at e
  have e2 : entM us = entO ((us.drop (q + 1)).map some) (entM (us.take q) ++ [⟨us[q], kin (entM (us.take q)) us[q].tx⟩]) := e
  obtain ⟨t, ht⟩ := entO_pre ((us.drop (q + 1)).map some) (entM (us.take q) ++ [⟨us[q], kin (entM (us.take q)) us[q].tx⟩])
  rw [e2, ht, List.append_assoc, List.getElem?_append_right (by omega), hl, Nat.sub_self]
  rfl
theorem entM_len (us : List Ur) : (entM us).length = us.length := by
  have := congrArg List.length (entM_recs us)
  rwa [List.length_map] at this
theorem any_recs (rs : List Ur) (f : Ur → Bool) : ((entM rs).any fun e => f e.r) = rs.any f := by
  have h : (entM rs).any (fun e => f e.r) = ((entM rs).map (·.r)).any f := by rw [List.any_map]; rfl
  rw [h, entM_recs]
theorem kin_c (rs : List Ur) (tx : List UInt8) : (kin (entM rs) tx).c = rs.any fun r => decide (r.tx = tx) && (r.k == 3) := any_recs rs fun r => decide (r.tx = tx) && (r.k == 3)
theorem kin_p (rs : List Ur) (tx : List UInt8) : (kin (entM rs) tx).p = rs.any fun r => decide (r.tx = tx) && (r.k == 2) := any_recs rs fun r => decide (r.tx = tx) && (r.k == 2)
theorem kin_a (rs : List Ur) (tx : List UInt8) : (kin (entM rs) tx).a = rs.any fun r => decide (r.tx = tx) && (r.k == 4) := any_recs rs fun r => decide (r.tx = tx) && (r.k == 4)
theorem idx_brk {f : Ue → Bool} {es : List Uz} {us : List Ut} (he : es.map (·.1) = entM (us.map (·.1))) {B : Nat → Prop} (hB : ∀ q (h : q < us.length), B q ↔ f ⟨us[q].1, kin (entM ((us.map (·.1)).take q)) us[q].1.tx⟩ = true) {z : Int} (h : BrkIs B us.length z) : IdxIs (fun x : Uz => f x.1) es z := by
  rw [idx_map, he]
  have hl : (entM (us.map (·.1))).length = us.length := by rw [entM_len, List.length_map]
  have hat : ∀ q (h1 : q < us.length) (h2 : q < (entM (us.map (·.1))).length), (entM (us.map (·.1)))[q] = ⟨us[q].1, kin (entM ((us.map (·.1)).take q)) us[q].1.tx⟩ := fun q h1 h2 => by
    have := entM_at (us.map (·.1)) q (by rw [List.length_map]; exact h1)
    rw [List.getElem?_eq_getElem h2] at this
    simpa using this
  have neg : ∀ q (h1 : q < us.length) (h2 : q < (entM (us.map (·.1))).length), ¬ B q → f (entM (us.map (·.1)))[q] = false := fun q h1 h2 hn => by
    rw [hat q h1 h2]
    exact Bool.eq_false_iff.2 fun e => hn ((hB q h1).2 e)
  rcases h with ⟨rfl, h⟩ | ⟨q, hq, rfl, hb, hmin⟩
  · refine .inl ⟨rfl, fun x hx => ?_⟩
    obtain ⟨q, hq, rfl⟩ := List.getElem_of_mem hx
    exact neg q (by omega) hq (h q (by omega))
  · refine .inr ⟨q, by omega, rfl, ?_, fun x hx => ?_⟩
    · rw [hat q hq (by omega)]
      exact (hB q hq).1 hb
    · obtain ⟨p, hp, rfl⟩ := List.getElem_of_mem hx
      rw [List.length_take] at hp
      rw [List.getElem_take]
      exact neg p (by omega) (by omega) (hmin p (by omega))
theorem any_take (us : List Ut) (q : Nat) (f : Ur → Bool) : (((us.map (·.1)).take q).any f) = (us.take q).any fun y => f y.1 := by
  rw [← List.map_take, List.any_map]
  rfl
def Oc (us : List Ut) (P : Nat → Prop) (q : Nat) : Prop := ∃ hq : q < us.length, ((us[q]).1.k = 3 ∨ (us[q]).1.k = 4) ∧ P q
def P4 (us : List Ut) (q : Nat) : Prop := ∃ hq : q < us.length, ((us.take q).any fun y => hit4 (us[q]).1 y.1) = true
def P6 (us : List Ut) (q : Nat) : Prop := ∃ hq : q < us.length, (!((us.take q).any fun y => hit6 (us[q]).1 y.1) && decide ((us[q]).1.k = 3)) = true
theorem idx4 {es : List Uz} {us : List Ut} (he : es.map (·.1) = entM (us.map (·.1))) {z : Int} (h : BrkIs (Oc us (P4 us)) us.length z) : IdxIs f4 es z := by
  refine idx_brk (f := g4) he (fun q hq => ?_) h
  have hP : P4 us q ↔ ((us.take q).any fun y => hit4 (us[q]).1 y.1) = true := ⟨fun ⟨_, h⟩ => h, fun h => ⟨hq, h⟩⟩
  unfold g4
  simp only [kin_c, kin_a, any_take]
  constructor
  · rintro ⟨_, hk, hp⟩
    obtain ⟨y, hy, e⟩ := List.any_eq_true.1 (hP.1 hp)
    unfold hit4 at e
    simp only [Bool.and_eq_true, Bool.or_eq_true, decide_eq_true_eq] at e
    simp only [Bool.or_eq_true, Bool.and_eq_true, decide_eq_true_eq, List.any_eq_true, beq_iff_eq]
    rcases hk with h3 | h4
    · rcases e with ⟨t, e3 | ⟨e4, _⟩⟩
      · exact .inl ⟨h3, .inl ⟨y, hy, t, e3⟩⟩
      · exact .inl ⟨h3, .inr ⟨y, hy, t, e4⟩⟩
    · rcases e with ⟨t, e3 | ⟨e4, e5⟩⟩
      · exact .inr ⟨h4, ⟨y, hy, t, e3⟩⟩
      · omega
  · intro h
    simp only [Bool.or_eq_true, Bool.and_eq_true, decide_eq_true_eq, List.any_eq_true, beq_iff_eq] at h
    rcases h with ⟨h3, ⟨y, hy, t, e⟩ | ⟨y, hy, t, e⟩⟩ | ⟨h4, ⟨y, hy, t, e⟩⟩
    · exact ⟨hq, .inl h3, hP.2 (List.any_eq_true.2 ⟨y, hy, by simp [hit4, t, e]⟩)⟩
    · exact ⟨hq, .inl h3, hP.2 (List.any_eq_true.2 ⟨y, hy, by simp [hit4, t, e, h3]⟩)⟩
    · exact ⟨hq, .inr h4, hP.2 (List.any_eq_true.2 ⟨y, hy, by simp [hit4, t, e]⟩)⟩
theorem idx6 {es : List Uz} {us : List Ut} (he : es.map (·.1) = entM (us.map (·.1))) {z : Int} (h : BrkIs (Oc us (P6 us)) us.length z) : IdxIs f6 es z := by
  refine idx_brk (f := g6) he (fun q hq => ?_) h
  have hP : P6 us q ↔ (!((us.take q).any fun y => hit6 (us[q]).1 y.1) && decide ((us[q]).1.k = 3)) = true := ⟨fun ⟨_, h⟩ => h, fun h => ⟨hq, h⟩⟩
  have e : ((us.take q).any fun y => decide (y.1.tx = us[q].1.tx) && (y.1.k == 2)) = (us.take q).any fun y => hit6 (us[q]).1 y.1 := by
    congr 1
    funext y
    unfold hit6
    rw [Bool.and_comm]
    congr 1
  unfold g6
  simp only [kin_p, any_take, e]
  constructor
  · rintro ⟨_, _, hp⟩
    rw [Bool.and_comm]
    exact hP.1 hp
  · intro h
    rw [Bool.and_comm] at h
    have h3 : (us[q]).1.k = 3 := by
      simp only [Bool.and_eq_true, decide_eq_true_eq] at h
      exact h.2
    exact ⟨hq, .inl h3, hP.2 h⟩

end Go.Proofs.Ytmcaoimgmgjjiaa

namespace Go.Proofs.Ytmcaoimgmgjjiaa
open Go.RowKit Go.Maps Go.Sort

theorem apart4 {us : List Ut} (h4 : ∀ q, q < us.length → ¬ Oc us (P4 us) q) {m q : Nat} (hm : m < us.length) (hq : q < us.length) (ht : us[m].1.tx = us[q].1.tx) (h3 : us[q].1.k = 3) (h34 : us[m].1.k = 3 ∨ us[m].1.k = 4) : m = q := by
  rcases Nat.lt_trichotomy m q with h | h | h
  · refine absurd ⟨hq, .inl h3, hq, List.any_eq_true.2 ⟨us[m], take_mem hm h, ?_⟩⟩ (h4 q hq)
    unfold hit4
    rcases h34 with e | e <;> simp [ht, e, h3]
  · exact h
  · refine absurd ⟨hm, h34, hm, List.any_eq_true.2 ⟨us[q], take_mem hq h, ?_⟩⟩ (h4 m hm)
    unfold hit4
    simp [ht, h3]
def P5 (xs : List Rk) (i q : Nat) : Prop := ∃ (hi : i < xs.length) (hq : q < xs[i].us.length), Beside (hit5 (xs[i].us[q]).1) xs i xs.length
def P7 (cl : List Uc) (xs : List Rk) (i q : Nat) : Prop := ∃ (hi : i < xs.length) (hq : q < xs[i].us.length) (hc : i < cl.length), ((xs[i].us[q]).1.k = 3 ∧ ((xs[i].us[q]).1.gs.any fun y => decide ((y : Int) = cl[i].g)) = false) ∨ Beside (hit7 (xs[i].us[q]).1) xs i xs.length
def AllOf (xs : List Rk) (rs : List Ur) : Prop := ∀ r, r ∈ rs ↔ ∃ j, ∃ hj : j < xs.length, ∃ p ∈ xs[j].us, p.1 = r
theorem idx5 {xs : List Rk} {i : Nat} (hi : i < xs.length) {rs : List Ur} (hm : AllOf xs rs) {es : List Uz} (he : es.map (·.1) = entM (xs[i].us.map (·.1))) (h4 : ∀ q, q < xs[i].us.length → ¬ Oc xs[i].us (P4 xs[i].us) q) {z : Int} (h : BrkIs (Oc xs[i].us (P5 xs i)) xs[i].us.length z) : IdxIs (f5 rs) es z := by
  refine idx_brk (f := g5 rs) he (fun q hq => ?_) h
  have T := tel_is (xs[i].us[q].1.tx) rs
  unfold g5
  simp only [Bool.or_eq_true, Bool.and_eq_true, decide_eq_true_eq]
  constructor
  · rintro ⟨_, hk, _, _, j, _, hj, _, p, hp, e⟩
    have hr : p.1 ∈ rs := (hm _).2 ⟨j, hj, p, hp, rfl⟩
    unfold hit5 at e
    simp only [Bool.and_eq_true, Bool.or_eq_true, decide_eq_true_eq] at e
    obtain ⟨t, e34, ne⟩ := e
    rcases hk with h3 | h4
    · exact .inl ⟨h3, T.a.2 ⟨p.1, hr, t, by omega⟩⟩
    · exact .inr ⟨h4, T.c.2 ⟨p.1, hr, t, by omega⟩⟩
  · intro h
    have key : ∀ r ∈ rs, r.tx = xs[i].us[q].1.tx → (r.k = 3 ∨ r.k = 4) → r.k ≠ xs[i].us[q].1.k → (xs[i].us[q].1.k = 3 ∨ xs[i].us[q].1.k = 4) → Oc xs[i].us (P5 xs i) q := fun r hr ht h34 hne hk => by
      obtain ⟨j, hj, p, hp, rfl⟩ := (hm r).1 hr
      refine ⟨hq, hk, hi, hq, j, hj, hj, fun e => ?_, p, hp, by unfold hit5; rcases h34 with e | e <;> simp [ht, e] <;> omega⟩
      subst e
      obtain ⟨m, hm2, rfl⟩ := List.getElem_of_mem hp
      rcases hk with h3 | h3
      · have := apart4 h4 hm2 hq ht h3 h34
        subst this
        exact hne rfl
      · have := apart4 h4 hq hm2 ht.symm (by omega) (.inr h3)
        subst this
        exact hne rfl
    rcases h with ⟨h3, ha⟩ | ⟨h4', hc⟩
    · obtain ⟨r, hr, t, k⟩ := T.a.1 ha
      exact key r hr t (.inr k) (by omega) (.inl h3)
    · obtain ⟨r, hr, t, k⟩ := T.c.1 hc
      exact key r hr t (.inl k) (by omega) (.inr h4')
theorem idx7 {xs : List Rk} {cl : List Uc} {i : Nat} (hi : i < xs.length) (hc : i < cl.length) {rs : List Ur} (hm : AllOf xs rs) {es : List Uz} (he : es.map (·.1) = entM (xs[i].us.map (·.1))) (h4 : ∀ q, q < xs[i].us.length → ¬ Oc xs[i].us (P4 xs[i].us) q) {z : Int} (h : BrkIs (Oc xs[i].us (P7 cl xs i)) xs[i].us.length z) : IdxIs (f7 rs cl[i].g) es z := by
  refine idx_brk (f := g7 rs cl[i].g) he (fun q hq => ?_) h
  have T := tel_apart rs (xs[i].us[q].1.tx)
  unfold g7
  simp only [Bool.or_eq_true, Bool.and_eq_true, decide_eq_true_eq, Bool.not_eq_true']
  constructor
  · rintro ⟨_, _, _, _, _, ⟨h3, hg⟩ | ⟨j, _, hj, _, p, hp, e⟩⟩
    · exact ⟨h3, .inr hg⟩
    · have hr : p.1 ∈ rs := (hm _).2 ⟨j, hj, p, hp, rfl⟩
      have hx : xs[i].us[q].1 ∈ rs := (hm _).2 ⟨i, hi, _, List.getElem_mem hq, rfl⟩
      unfold hit7 at e
      simp only [Bool.and_eq_true, decide_eq_true_eq] at e
      obtain ⟨t, k, k', ne⟩ := e
      exact ⟨k', .inl (T.2 ⟨_, hx, _, hr, rfl, t, k', k, ne⟩)⟩
  · rintro ⟨h3, ha | hg⟩
    · have key : ∀ r ∈ rs, r.tx = xs[i].us[q].1.tx → r.k = 3 → xs[i].us[q].1.gs ≠ r.gs → Oc xs[i].us (P7 cl xs i) q := fun r hr ht hk hne => by
        obtain ⟨j, hj, p, hp, rfl⟩ := (hm r).1 hr
        refine ⟨hq, .inl h3, hi, hq, hc, .inr ⟨j, hj, hj, fun e => ?_, p, hp, by unfold hit7; simp [ht, hk, h3, hne]⟩⟩
        subst e
        obtain ⟨m, hm2, rfl⟩ := List.getElem_of_mem hp
        have := apart4 h4 hm2 hq ht h3 (.inl hk)
        subst this
        exact hne rfl
      obtain ⟨r, hr, r', hr', t, t', k, k', ne⟩ := T.1 ha
      by_cases e : xs[i].us[q].1.gs = r.gs
      · exact key r' hr' t' k' (fun e2 => ne (e.symm.trans e2))
      · exact key r hr t k e
    · exact ⟨hq, .inl h3, hi, hq, hc, .inl ⟨h3, hg⟩⟩

end Go.Proofs.Ytmcaoimgmgjjiaa
