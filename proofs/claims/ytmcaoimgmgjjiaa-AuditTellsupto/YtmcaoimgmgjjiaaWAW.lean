/-
  Texts of the proofs, 49 of 52.
-/
import Derived.Test.YtmcaoimgmgjjiaaWAS
import Derived.Test.YtmcaoimgmgjjiaaWAV
namespace Go.Proofs.Ytmcaoimgmgjjiaa
open Go.RowKit Go.Maps Go.Sort

theorem IsDec.low {bs : List UInt8} {xs : List Li} {y z : Int} (h : IsDec bs xs y z) : 0 ≤ z := by
  by_cases e : ((rdAll bs).2.end_ bs).1 = 0
  · obtain ⟨n, i, h1, h2⟩ := h.yes e
    rcases Nat.lt_or_ge n (rdAll bs).1.length with hl | hl
    · rw [(h1 hl).2.2]; omega
    · rw [(h2 (Nat.le_antisymm i.le hl)).2.2]; omega
  · rw [(h.no e).2.2]
    unfold RS.end_
    split
    · exact Int.natCast_nonneg _
    · split
      · exact Int.natCast_nonneg _
      · exact Int.le_refl _
def RR (cl : List Uc) (xs : List Rk) (r i : Nat) (z : Int) : Prop := ∃ hi : i < xs.length, (r = 3 ∧ Bst xs[i].ls (lkO xs) (samO cl i) i z) ∨ (r = 4 ∧ BrkIs (Oc xs[i].us (P4 xs[i].us)) xs[i].us.length z) ∨ (r = 5 ∧ BrkIs (Oc xs[i].us (P5 xs i)) xs[i].us.length z) ∨ (r = 6 ∧ BrkIs (Oc xs[i].us (P6 xs[i].us)) xs[i].us.length z) ∨ (r = 7 ∧ BrkIs (Oc xs[i].us (P7 cl xs i)) xs[i].us.length z)
def faultV (r i z : Int) (ok : Bool) : Ending := .returned (.tuple #[.agg #[.int .i64 r, .int .i64 i, .int .i64 z], .bool ok])
structure Dcd (cl : List Uc) (xs : List Rk) : Prop where
  len : xs.length = cl.length
  dec : ∀ i (h1 : i < xs.length) (h2 : i < cl.length), ∃ z, IsDec cl[i].bs xs[i].ls 0 z
def Red (x : Rk) : Prop := (txs x.ls).map rec? = x.us.map (fun p => some p.1)
def RVer (cl : List Uc) (e : Ending) : Prop :=
  (∃ (k : Nat) (hk : k < cl.length) (ls : List Li) (y z : Int), IsDec cl[k].bs ls y z ∧ y ≠ 0 ∧ (∀ i (h : i < cl.length), i < k → ∃ ls z, IsDec cl[i].bs ls 0 z) ∧ e = faultV 1 k z false) ∨
  (∃ xs, Dcd cl xs ∧ ∃ (i q : Nat) (hi : i < xs.length) (hq : q < xs[i].ls.length), rec? xs[i].ls[q].t = none ∧ (∀ t ∈ (txs xs[i].ls).take q, ∃ r, rec? t = some r) ∧ (∀ i' (h : i' < xs.length), i' < i → ∀ t ∈ txs xs[i'].ls, ∃ r, rec? t = some r) ∧ e = faultV 2 i q false) ∨
  (∃ xs, Dcd cl xs ∧ (∀ x ∈ xs, Red x) ∧ ((∀ r i, 3 ≤ r → r ≤ 7 → i < xs.length → RR cl xs r i (-1)) ∧ e = faultV 0 0 0 true ∨ ∃ (r i : Nat) (z : Int), 3 ≤ r ∧ r ≤ 7 ∧ 0 ≤ z ∧ RR cl xs r i z ∧ (∀ r' i', 3 ≤ r' → r' < r → i' < xs.length → RR cl xs r' i' (-1)) ∧ (∀ i', i' < i → RR cl xs r i' (-1)) ∧ e = faultV r i z false))

theorem entG_red {ts : List (List UInt8)} {us : List Ur} (h : ts.map rec? = us.map some) : entG ts [] = entM us := by
  unfold entG entM
  rw [h]
theorem all_some : ∀ {ts : List (List UInt8)}, (∀ t ∈ ts, ∃ r, rec? t = some r) → ∃ us : List Ur, ts.map rec? = us.map some
  | [], _ => ⟨[], rfl⟩
  | t :: ts, h => by
    obtain ⟨r, hr⟩ := h t (by simp)
    obtain ⟨us, hu⟩ := all_some (ts := ts) (fun t ht => h t (List.mem_cons_of_mem _ ht))
    exact ⟨r :: us, by rw [List.map_cons, List.map_cons, hr, hu]⟩
theorem entG_stop {ts : List (List UInt8)} {q : Nat} (hq : q < ts.length) (hn : rec? ts[q] = none) (h : ∀ t ∈ ts.take q, ∃ r, rec? t = some r) : (entG ts []).length = q := by
  obtain ⟨us, hu⟩ := all_some h
  have e : ts.map rec? = us.map some ++ (none :: (ts.drop (q + 1)).map rec?) := by
    rw [← hu, ← hn, ← List.map_cons, ← List.drop_eq_getElem_cons hq, ← List.map_append, List.take_append_drop]
  have hl : us.length = q := by
    have := congrArg List.length hu
    rw [List.length_map, List.length_map, List.length_take] at this
    omega
  unfold entG
  rw [e, entO_append]
  show (entO (us.map some) []).length = q
  rw [← hl]
  exact entM_len us

section
variable {cs cl : List Uc} {pq : List (Up × Ua)}
theorem pg_dec (hp : Pgs cs (pq.map (·.1))) (hg : cl.map gb = cs.map gb) (i : Nat) (h1 : i < pq.length) (h2 : i < cl.length) : pq[i].1.g = cl[i].g ∧ IsDec cl[i].bs pq[i].1.ls pq[i].1.y pq[i].1.z := by
  have hl : cl.length = cs.length := by have := congrArg List.length hg; rwa [List.length_map, List.length_map] at this
  have e : gb cl[i] = gb (cs[i]'(by omega)) := by
    have := congrArg (fun l => l[i]?) hg
    simpa [List.getElem?_eq_getElem h2, List.getElem?_eq_getElem (show i < cs.length by omega)] using this
  have e1 : cl[i].g = (cs[i]'(by omega)).g := congrArg Prod.fst e
  have e2 : cl[i].bs = (cs[i]'(by omega)).bs := congrArg Prod.snd e
  have a := hp.grp i (by rw [List.length_map]; exact h1) (by omega)
  have b := hp.dec i (by rw [List.length_map]; exact h1) (by omega)
  rw [List.getElem_map] at a b
  rw [e1, e2]
  exact ⟨a, b⟩
theorem pg_len (hp : Pgs cs (pq.map (·.1))) (hg : cl.map gb = cs.map gb) : pq.length = cl.length := by
  have h1 := hp.len
  have := congrArg List.length hg
  rw [List.length_map] at h1
  rw [List.length_map, List.length_map] at this
  omega
theorem ru1_neg {p : Up} (h : p.y = 0) : ru1 p = -1 := by unfold ru1; rw [if_pos h]
end
theorem ver_same {cs cl : List Uc} {pq : List (Up × Ua)} {e : Ending} (hp : Pgs cs (pq.map (·.1))) (hg : cl.map gb = cs.map gb) (h : RVer cl e) : EVer pq e := by
  have hl := pg_len hp hg
  have hent : ∀ i (h1 : i < pq.length), pq[i].1.es.map (·.1) = entG (txs pq[i].1.ls) [] := fun i h1 => by
    have := hp.ent i (by rw [List.length_map]; exact h1)
    rwa [List.getElem_map] at this
  have hel : ∀ i (h1 : i < pq.length), pq[i].1.es.length = (entG (txs pq[i].1.ls) []).length := fun i h1 => by rw [← hent i h1, List.length_map]
  have r1 : ∀ i (h1 : i < pq.length) (h2 : i < cl.length), (∃ ls z, IsDec cl[i].bs ls 0 z) → RuleIs pq 0 i (-1) := fun i h1 h2 ⟨ls, z, hd⟩ => ⟨h1, .inl ⟨rfl, (ru1_neg ((pg_dec hp hg i h1 h2).2.one hd).2.1).symm⟩⟩
  have r2 : ∀ i (h1 : i < pq.length), (∀ t ∈ txs pq[i].1.ls, ∃ r, rec? t = some r) → RuleIs pq 1 i (-1) := fun i h1 ha => by
    obtain ⟨us, hu⟩ := all_some ha
    refine ⟨h1, .inr (.inl ⟨rfl, ?_⟩)⟩
    unfold ru2
    rw [hel i h1, entG_red hu, entM_len, if_neg]
    have := congrArg List.length hu
    rw [List.length_map, List.length_map, txs_length] at this
    omega
  rcases h with ⟨k, hk, ls, y, z, hd, hy, hear, rfl⟩ | ⟨xs, hD, i, q, hi, hq, hn, hpre, hear, rfl⟩ | ⟨xs, hD, hR, h⟩
  · have hkp : k < pq.length := by omega
    obtain ⟨e1, e2, e3⟩ := (pg_dec hp hg k hkp hk).2.one hd
    refine .inr ⟨0, k, z, by omega, hkp, by have := hd.low; omega, ⟨hkp, .inl ⟨rfl, ?_⟩⟩, fun _ _ h => by omega, fun i' hi' => r1 i' (by omega) (by omega) (hear i' (by omega) hi'), rfl⟩
    unfold ru1
    rw [if_neg (by rw [e2]; exact hy), e3]
  · have hls : ∀ i (h1 : i < pq.length) (h2 : i < xs.length), pq[i].1.ls = xs[i].ls := fun i h1 h2 => by
      obtain ⟨z, hz⟩ := hD.dec i h2 (by omega)
      exact ((pg_dec hp hg i h1 (by omega)).2.one hz).1
    have hxl := hD.len
    have hip : i < pq.length := by omega
    refine .inr ⟨1, i, q, by omega, hip, by omega, ⟨hip, .inr (.inl ⟨rfl, ?_⟩)⟩, fun j' i' hj' hi' => ?_, fun i' hi' => r2 i' (by omega) (by rw [hls i' (by omega) (by omega)]; exact hear i' (by omega) hi'), rfl⟩
    · unfold ru2
      have hst : (entG (txs xs[i].ls) []).length = q := entG_stop (by rw [txs_length]; exact hq) (by rw [txs_get _ q hq]; exact hn) hpre
      rw [hel i hip, hls i hip hi, hst, if_pos hq]
    · obtain rfl : j' = 0 := by omega
      obtain ⟨z, hz⟩ := hD.dec i' (by omega) (by omega)
      exact r1 i' hi' (by omega) ⟨_, z, hz⟩
  · have hls : ∀ i (h1 : i < pq.length) (h2 : i < xs.length), pq[i].1.ls = xs[i].ls := fun i h1 h2 => by
      obtain ⟨z, hz⟩ := hD.dec i h2 (by omega)
      exact ((pg_dec hp hg i h1 (by omega)).2.one hz).1
    have hxl := hD.len
    have hes : ∀ i (h1 : i < pq.length) (h2 : i < xs.length), pq[i].1.es.map (·.1) = entM (xs[i].us.map (·.1)) := fun i h1 h2 => by
      rw [hent i h1, hls i h1 h2]
      refine entG_red ?_
      rw [List.map_map]
      exact hR _ (List.getElem_mem h2)
    have hall : AllOf xs (allR (pq.map (·.1))) := fun r => by
      have hrec : ∀ i (h1 : i < pq.length) (h2 : i < xs.length), pq[i].1.es.map (·.1.r) = xs[i].us.map (·.1) := fun i h1 h2 => by
        have := congrArg (List.map (·.r)) (hes i h1 h2)
        rw [List.map_map, entM_recs] at this
        exact this
      unfold allR
      rw [List.mem_flatMap]
      constructor
      · rintro ⟨p, hp1, hr⟩
        obtain ⟨x, hx, rfl⟩ := List.mem_map.1 hp1
        obtain ⟨j, hj, rfl⟩ := List.getElem_of_mem hx
        rw [hrec j hj (by omega)] at hr
        obtain ⟨p, hp2, e⟩ := List.mem_map.1 hr
        exact ⟨j, by omega, p, hp2, e⟩
      · rintro ⟨j, hj, p, hp2, e⟩
        refine ⟨(pq[j]'(by omega)).1, List.mem_map.2 ⟨_, List.getElem_mem _, rfl⟩, ?_⟩
        rw [hrec j (by omega) hj]
        exact List.mem_map.2 ⟨p, hp2, e⟩
    have low : ∀ j i, j < 2 → i < pq.length → RuleIs pq j i (-1) := fun j i hj hi => by
      have hx : i < xs.length := by omega
      rcases (by omega : j = 0 ∨ j = 1) with rfl | rfl
      · obtain ⟨z, hz⟩ := hD.dec i hx (by omega)
        exact r1 i hi (by omega) ⟨_, z, hz⟩
      · refine r2 i hi fun t ht => ?_
        rw [hls i hi hx] at ht
        have h1 : rec? t ∈ (txs xs[i].ls).map rec? := List.mem_map_of_mem ht
        rw [hR _ (List.getElem_mem hx)] at h1
        obtain ⟨p, _, e⟩ := List.mem_map.1 h1
        exact ⟨p.1, e.symm⟩
    have key : ∀ r i z, 3 ≤ r → r ≤ 7 → RR cl xs r i z → (∀ r' i', 3 ≤ r' → r' < r → i' < xs.length → RR cl xs r' i' (-1)) → (∀ i', i' < i → RuleIs pq (r - 1) i' (-1)) → RuleIs pq (r - 1) i z := fun r i z h3 h7 ⟨hi, hrr⟩ hear hin => by
      have hip : i < pq.length := by omega
      have n4 : 4 < r → ∀ q, q < xs[i].us.length → ¬ Oc xs[i].us (P4 xs[i].us) q := fun h4 => by
        obtain ⟨_, hc⟩ := hear 4 i (by omega) h4 hi
        rcases hc with ⟨e, _⟩ | ⟨_, b⟩ | ⟨e, _⟩ | ⟨e, _⟩ | ⟨e, _⟩
        · omega
        · rcases b with ⟨_, b⟩ | ⟨q, _, e, _⟩
          · exact b
          · omega
        · omega
        · omega
        · omega
      refine ⟨hip, ?_⟩
      rcases hrr with ⟨rfl, b⟩ | ⟨rfl, b⟩ | ⟨rfl, b⟩ | ⟨rfl, b⟩ | ⟨rfl, b⟩
      · refine .inr (.inr (.inl ⟨rfl, bst_isU hp i hip (fun i' h1 h2 => ?_) (lkO xs) (samO cl i) (fun j hj hji => ?_) (fun j hj hji => ?_) (by rw [hls i hip hi]; exact b)⟩))
        · obtain ⟨_, hc⟩ := hin i' h2
          rcases hc with ⟨e, _⟩ | ⟨e, _⟩ | ⟨_, b⟩ | ⟨e, _⟩ | ⟨e, _⟩ | ⟨e, _⟩ | ⟨e, _⟩
          · omega
          · omega
          · exact b
          all_goals omega
        · unfold lkO
          rw [List.getElem?_eq_getElem (by omega : j < xs.length)]
          exact (hls j hj (by omega)).symm
        · unfold samO
          rw [List.getElem?_eq_getElem (by omega : j < cl.length), List.getElem?_eq_getElem (by omega : i < cl.length), (pg_dec hp hg j hj (by omega)).1, (pg_dec hp hg i hip (by omega)).1]
          simp
      · exact .inr (.inr (.inr (.inl ⟨rfl, idx4 (hes i hip hi) b⟩)))
      · exact .inr (.inr (.inr (.inr (.inl ⟨rfl, idx5 hi hall (hes i hip hi) (n4 (by omega)) b⟩))))
      · exact .inr (.inr (.inr (.inr (.inr (.inl ⟨rfl, idx6 (hes i hip hi) b⟩)))))
      · refine .inr (.inr (.inr (.inr (.inr (.inr ⟨rfl, ?_⟩)))))
        rw [(pg_dec hp hg i hip (by omega)).1]
        exact idx7 hi (by omega) hall (hes i hip hi) (n4 (by omega)) b
    -- a rule that lets all claims of a row by, one claim after another
    have row : ∀ r n, 3 ≤ r → r ≤ 7 → n ≤ xs.length → (∀ i', i' < n → RR cl xs r i' (-1)) → (∀ r' i', 3 ≤ r' → r' < r → i' < xs.length → RR cl xs r' i' (-1)) → ∀ i, i < n → RuleIs pq (r - 1) i (-1) := fun r n h3 h7 hn hrow hear i => by
      induction i using Nat.strongRecOn with
      | _ i ih =>
        intro hi
        exact key r i (-1) h3 h7 (hrow i hi) hear (fun i' hi' => ih i' hi' (by omega))
    rcases h with ⟨ha, rfl⟩ | ⟨r, i, z, h3, h7, hz, hrr, hear, hin, rfl⟩
    · refine .inl ⟨fun j i hj hi => ?_, rfl⟩
      by_cases h2 : j < 2
      · exact low j i h2 hi
      · have := row (j + 1) xs.length (by omega) (by omega) (Nat.le_refl _) (fun i' h => ha _ i' (by omega) (by omega) h) (fun r' i' q1 q2 q3 => ha r' i' q1 (by omega) q3) i (by omega)
        exact this
    · have hi : i < xs.length := hrr.1
      refine .inr ⟨r - 1, i, z, by omega, by omega, by omega, ?_, fun j' i' hj' hi' => ?_, ?_, ?_⟩
      · exact key r i z h3 h7 hrr hear (row r i h3 h7 (by omega) hin hear)
      · by_cases h2 : j' < 2
        · exact low j' i' h2 hi'
        · have := row (j' + 1) xs.length (by omega) (by omega) (Nat.le_refl _) (fun i' h => hear _ i' (by omega) (by omega) h) (fun r' i' q1 q2 q3 => hear r' i' q1 (by omega) q3) i' (by omega)
          exact this
      · exact row r i h3 h7 (by omega) hin hear
      · unfold faultV
        rw [show ((r - 1 : Nat) : Int) + 1 = (r : Int) by omega]

end Go.Proofs.Ytmcaoimgmgjjiaa
