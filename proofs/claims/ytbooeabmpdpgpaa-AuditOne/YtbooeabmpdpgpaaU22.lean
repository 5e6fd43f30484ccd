/-
  Rows of tamed records that a law makes; claims of them; what is let by with a beginning beside it.
-/
import Derived.Test.YtbooeabmpdpgpaaU21
import Derived.Test.YtbooeabmpdpgpaaLawAu1
namespace Go.Proofs.Ytbooeabmpdpgpaa
open Go.RowKit Go.Maps Go.Sort

/-- A tamed record, and where its groups lie. -/
abbrev Ut := Ur × (Option Addr × Nat)
def rrU (p : Ut) : Rr := (p.1.ui, p.2)
structure Rws (w : World) (b : Nat) (v : Value) (xs : List Ut) : Prop where
  ow : Ow recS 24 w b v (xs.map rrU)
  its : ∀ p ∈ xs, Its w b (.slice p.2.1 p.1.gs.length p.2.2) p.1.gs
  tm : ∀ p ∈ xs, Tme p.1
theorem Rws.nil (w : World) (b : Nat) : Rws w b (.slice none 0 0) [] := ⟨Ow.nil _ _ _, (fun _ h => by cases h), fun _ h => by cases h⟩
section
variable {w w' : World} {b : Nat} {v : Value} {xs : List Ut}
theorem Rws.all (h : Rws w b v xs) (k : Kept (fun _ => True) w w') : Rws w' b v xs := ⟨h.ow.all k, fun p hp => (h.its p hp).kept k (fun _ _ => trivial), h.tm⟩
theorem Rws.shape (h : Rws w b v xs) : ∃ a c, v = .slice a xs.length c ∧ xs.length ≤ c ∧ (a = none → c = 0) := by
  obtain ⟨a, c, e, h1, _, h2⟩ := h.ow.shape
  rw [List.length_map] at e h1
  exact ⟨a, c, e, h1, h2⟩
theorem rr_view {ao : Option Addr} {n c : Nat} (h : Rws w b (.slice ao n c) xs) : Rrv w ao (xs.map rrU) := ⟨h.ow.view, fun r hr => by
  obtain ⟨p, hp, rfl⟩ := List.mem_map.1 hr
  exact (h.its p hp).gv.gi⟩
theorem Rws.step {n c M : Nat} {ao a' : Option Addr} {c' : Nat} {o : Obj} (h : Rws w b (.slice ao n c) xs) (p : Ut) (hp : Tme p.1) (hi : Its w b (.slice p.2.1 p.1.gs.length p.2.2) p.1.gs) (ho : Ow recS 24 w' b (.slice a' M c') (xs.map rrU ++ [rrU p])) (hg : (w.alloc o).grownBy w' (Value.slice ao n c).ownBlock) : Rws w' b (.slice a' M c') (xs ++ [p]) := by
  have k : Kept (fun x => (Value.slice ao n c).ownBlock ≠ some x) w w' := ((Kept.refl _ _).alloc _).grown hg (fun x _ e h => h e)
  have far : ∀ q : Ut, Its w b (.slice q.2.1 q.1.gs.length q.2.2) q.1.gs → Its w' b (.slice q.2.1 q.1.gs.length q.2.2) q.1.gs := fun q hq => hq.kept k (fun x hx => by
    rcases hq.2 with ⟨e, _⟩ | ⟨g, cap, cur, e, _, hgb, _⟩
    · rw [e] at hx; cases hx
    · rw [e] at hx
      cases hx
      exact h.ow.ne hgb (by decide))
  refine ⟨by rw [List.map_append]; exact ho, fun q hq => ?_, fun q hq => ?_⟩
  · rcases List.mem_append.1 hq with q1 | q1
    · exact far q (h.its q q1)
    · rw [List.mem_singleton.1 q1]; exact far p hi
  · rcases List.mem_append.1 hq with q1 | q1
    · exact h.tm q q1
    · rw [List.mem_singleton.1 q1]; exact hp
end
theorem Rrv.take {w : World} {a : Option Addr} {rs : List Rr} (h : Rrv w a rs) (k : Nat) : Rrv w a (rs.take k) := by
  refine ⟨⟨fun h0 => ?_⟩, fun r hr => h.gi r (List.mem_of_mem_take hr)⟩
  rw [List.length_take] at h0
  obtain ⟨b, off, e, hb, hc⟩ := h.vw.row (by omega)
  refine ⟨b, off, e, hb, fun i hi => ?_⟩
  rw [List.length_take] at hi
  rw [List.getElem_take]
  exact hc i (by omega)
/-- A claim of the first k records of a row. -/
theorem claimT_any {w : World} (g : Int) {ao : Option Addr} {n c cap k : Nat} {b : Nat} {xs : List Ut} (h : Rws w b (.slice ao n c) xs) (hk : k ≤ xs.length) (hx : xs.length ≤ 800) :
    Calls Try.prog 9 #[.int .i64 g, .slice ao k cap] w fun e w' => ∃ a' c', e = .returned (.agg #[.int .i64 g, .slice a' (encL (mkC (tsR ((xs.map (·.1)).take k)))).length c']) ∧ Ob w' w.heap.size (.slice a' (encL (mkC (tsR ((xs.map (·.1)).take k)))).length c') (encL (mkC (tsR ((xs.map (·.1)).take k)))) ∧ Kept (fun _ => True) w w' :=
  claimR_any g ((rr_view h).take k) (by rw [List.map_take, List.map_take]; congr 1; simp [rrU]) (fun u hu => by
    obtain ⟨p, hp, rfl⟩ := List.mem_map.1 (List.mem_of_mem_take hu)
    exact (h.tm p hp).ok) (by rw [List.length_take, List.length_map]; omega) (by omega)

theorem entO_append (ys : List (Option Ur)) : ∀ (xs : List Ur) (es : List Ue), entO (xs.map some ++ ys) es = entO ys (entO (xs.map some) es)
  | [], es => rfl
  | x :: xs, es => by
    show entO (xs.map some ++ ys) _ = entO ys (entO (xs.map some) _)
    rw [entO_append ys xs]
theorem entO_pre : ∀ (os : List (Option Ur)) (es : List Ue), ∃ t, entO os es = es ++ t
  | [], es => ⟨[], by simp [entO]⟩
  | none :: _, es => ⟨[], by simp [entO]⟩
  | some r :: os, es => by
    obtain ⟨t, ht⟩ := entO_pre os (es ++ [⟨r, kin es r.tx⟩])
    exact ⟨[⟨r, kin es r.tx⟩] ++ t, by show entO os _ = _; rw [ht, List.append_assoc]⟩
theorem entM_take {rs : List Ur} {i : Nat} {x : Ue} (h : x ∈ entM (rs.take i)) : x ∈ entM rs := by
  have e : entM rs = entO ((rs.drop i).map some) (entM (rs.take i)) := by
    unfold entM
    rw [← entO_append, ← List.map_append, List.take_append_drop]
  obtain ⟨t, ht⟩ := entO_pre ((rs.drop i).map some) (entM (rs.take i))
  rw [e, ht]
  exact List.mem_append_left _ h
theorem pre_take (T : List (List UInt8)) (k : Nat) : pre (mkC T) (mkC (T.take k)) := by
  unfold pre
  rw [mkC_length, mkC_length, List.length_take, mkC_take, mkC_take]
  congr 1
  rw [List.take_take]
  congr 1
  omega
theorem Alone.take {g : Int} {rs : List Ur} (h : Alone (g, rs)) (i : Nat) : Alone (g, rs.take i) :=
  ⟨fun x hx => h.1 x (entM_take hx), fun r hr => h.2 r (List.mem_of_mem_take hr)⟩
theorem Cross.sub {rs ss : List Ur} (h : Cross rs) (hs : ∀ r ∈ ss, r ∈ rs) : Cross ss := fun r hr r' hr' => h r (hs r hr) r' (hs r' hr')
/-- What Verify answers, told apart. -/
theorem ever_cases {pq : List (Up × Ua)} {e : Ending} (h : EVer pq e) : (AllNeg pq ∧ e = .returned (.tuple #[.agg #[.int .i64 0, .int .i64 0, .int .i64 0], .bool true])) ∨ ∃ (j i : Nat) (z : Int), j < 7 ∧ i < pq.length ∧ z ≠ -1 ∧ RuleIs pq j i z ∧ e = .returned (.tuple #[.agg #[.int .i64 ((j : Int) + 1), .int .i64 (i : Nat), .int .i64 z], .bool false]) := by
  rcases h with ⟨h, rfl⟩ | ⟨j, i, z, h1, h2, h3, h4, _, _, rfl⟩
  · exact .inl ⟨h, rfl⟩
  · exact .inr ⟨j, i, z, h1, h2, h3, h4, rfl⟩

theorem rdL_made {rs : List Ur} (ok : ∀ r ∈ rs, Okt r) : rdL (mkC (tsR rs)) = rs := by
  unfold rdL tsR
  rw [txs_mkC]
  induction rs with
  | nil => rfl
  | cons r rs ih =>
    rw [List.map_cons, List.filterMap_cons, (ok r (by simp)).back, ih (fun x hx => ok x (List.mem_cons_of_mem _ hx))]
/-- These claims are made of these records. -/
structure Mds (cs : List Uc) (gr : List (Int × List Ur)) : Prop where
  len : cs.length = gr.length
  g : ∀ i (h1 : i < cs.length) (h2 : i < gr.length), cs[i].g = gr[i].1
  b : ∀ i (h1 : i < cs.length) (h2 : i < gr.length), cs[i].bs = encL (mkC (tsR gr[i].2))
  ok : ∀ p ∈ gr, ∀ r ∈ p.2, Okt r
  sh : ∀ p ∈ gr, ∀ r ∈ p.2, r.tx.length + r.bd.length ≤ 3000
  few : ∀ p ∈ gr, p.2.length ≤ 4096
theorem Mds.pq {cs : List Uc} {gr : List (Int × List Ur)} {pq : List (Up × Ua)} (h : Mds cs gr) (hp : Pgs cs (pq.map (·.1))) : Pq gr pq := by
  have hl := hp.len
  rw [List.length_map] at hl
  refine ⟨by rw [hl, h.len], fun i h1 h2 => ?_⟩
  have h3 : i < cs.length := by rw [h.len]; exact h2
  have := md_page hp i (by rw [List.length_map]; exact h1) h3 (h.b i h3 h2) (h.ok _ (List.getElem_mem h2)) (h.sh _ (List.getElem_mem h2)) (h.few _ (List.getElem_mem h2))
  rw [List.getElem_map, h.g i h3 h2] at this
  exact this
theorem Mds.out {cs : List Uc} {gr : List (Int × List Ur)} {lss : List (List Li)} (h : Mds cs gr) (hd : Dcs cs lss) : outR lss = flat gr := by
  unfold outR flat
  rw [List.flatMap_def, List.flatMap_def]
  congr 1
  refine List.ext_getElem (by simp [hd.len, h.len]) fun i h1 h2 => ?_
  simp only [List.length_map] at h1 h2
  simp only [List.getElem_map]
  have h3 : i < cs.length := by rw [h.len]; exact h2
  obtain ⟨y, z, hdd⟩ := hd.dec i h1 h3
  rw [h.b i h3 h2] at hdd
  have := (dec_made hdd (by have := h.few _ (List.getElem_mem h2); simpa [tsR] using this) (tsR_short (h.ok _ (List.getElem_mem h2)) (h.sh _ (List.getElem_mem h2)))).1
  rw [this]
  exact rdL_made (h.ok _ (List.getElem_mem h2))
theorem verify_md {w : World} {al : Option Addr} {cap n : Nat} {cs : List Uc} {gr : List (Int × List Ur)} (h : Cv w al cs) (hn : cs.length = n) (hn2 : n ≤ 200) (hm : Mds cs gr) :
    Calls Try.prog 10 #[.slice al n cap] w fun e w' => (∃ pq, Pq gr pq ∧ Pgs cs (pq.map (·.1)) ∧ EVer pq e) ∧ Kept (fun _ => True) w w' := by
  subst hn
  refine (verify_any (cap := cap) h hn2).mono ?_
  rintro e w' ⟨pq, hp, he, k⟩
  exact ⟨⟨pq, hm.pq hp, hp, he⟩, k⟩
theorem outcomes_md {w : World} {al : Option Addr} {cap n : Nat} {cs : List Uc} {gr : List (Int × List Ur)} (h : Cv w al cs) (hn : cs.length = n) (hn2 : n ≤ 200) (hm : Mds cs gr) (tx : List UInt8) :
    Calls Try.prog 14 #[.slice al n cap, .string ⟨tx.toArray⟩] w fun e w' => (∃ a c, e = .returned (.slice a (outO (kol (flat gr) tx)).length c) ∧ Its w' w.heap.size (.slice a (outO (kol (flat gr) tx)).length c) (outO (kol (flat gr) tx))) ∧ Kept (fun _ => True) w w' := by
  subst hn
  refine (outcomes_any (cap := cap) h hn2 tx).mono ?_
  rintro e w' ⟨v, lss, rfl, hd, hi, k⟩
  rw [hm.out hd] at hi
  obtain ⟨a, c, rfl⟩ := hi.shape
  exact ⟨⟨a, c, rfl, hi⟩, k⟩
theorem out_few {gr : List (Int × List Ur)} (h : Cross (flat gr)) (tx : List UInt8) : (outO (kol (flat gr) tx)).length ≤ 1 := by
  rw [kol_tel]
  have t := tel_is tx (flat gr)
  unfold outO
  cases hc : (tel (flat gr) tx).ks.c with
  | false => cases ha : (tel (flat gr) tx).ks.a <;> simp
  | true =>
    cases ha : (tel (flat gr) tx).ks.a with
    | false => simp
    | true =>
      obtain ⟨r, hr, t1, k1⟩ := t.c.1 hc
      obtain ⟨r', hr', t2, k2⟩ := t.a.1 ha
      exact absurd k2 (h r hr r' hr' (t1.trans t2.symm) k1).1
theorem lg_zero (p : Up) (g : Int) (h : p.g ≠ g) : lg [p] g = none := by
  show (if p.g = g ∧ _ then _ else none) = _
  rw [if_neg (fun q => h q.1)]
/-- Two claims of groups 0 and 1: only rules of outcomes may fall. -/
theorem one_rule {cs : List Uc} {A B : List Ur} {pq : List (Up × Ua)} (h : Pq [(0, A), (1, B)] pq) (hp : Pgs cs (pq.map (·.1))) : (∀ i (hi : i < pq.length), IsU pq pq[i].1 (-1)) ∧ ∀ j i z, RuleIs pq j i z → z ≠ -1 → 3 ≤ j := by
  have hl := h.len
  match pq, h, hp, hl with
  | [(p, q), (p', q')], h, hp, _ =>
    have m : MdP 0 A p := h.md 0 (by simp) (by simp)
    have m' : MdP 1 B p' := h.md 1 (by simp) (by simp)
    have hlo : p.lo = -1 := hp.lo 0 (by simp)
    have hlo2 : p'.lo = lgI [p] p'.g := hp.lo 1 (by simp)
    have hlo3 : p'.lo = -1 := by
      rw [hlo2, m'.g]
      unfold lgI
      rw [lg_zero p 1 (by rw [m.g]; decide)]
    have hu : ∀ i (hi : i < [(p, q), (p', q')].length), IsU [(p, q), (p', q')] [(p, q), (p', q')][i].1 (-1) := fun i hi => by
      have hi2 : i = 0 ∨ i = 1 := by
        simp only [List.length_cons, List.length_nil] at hi
        omega
      rcases hi2 with rfl | rfl
      · exact .inl ⟨hlo, rfl⟩
      · exact .inl ⟨hlo3, rfl⟩
    refine ⟨hu, fun j i z hr hz => ?_⟩
    refine Classical.byContradiction fun hj => ?_
    obtain ⟨hi, hr⟩ := hr
    have hi2 : i = 0 ∨ i = 1 := by
      simp only [List.length_cons, List.length_nil] at hi
      omega
    rcases hr with a | a | a | a | a | a | a
    · rcases hi2 with rfl | rfl
      · exact hz (a.2.trans m.one)
      · exact hz (a.2.trans m'.one)
    · rcases hi2 with rfl | rfl
      · exact hz (a.2.trans m.two)
      · exact hz (a.2.trans m'.two)
    · exact hz (a.2.one (hu i hi))
    · omega
    · omega
    · omega
    · omega
/-- A beginning of a claim beside it is let by, too. -/
theorem one_part {cs : List Uc} {A B : List Ur} {k : Nat} {pq pq' : List (Up × Ua)} (h : Pq [(0, A), (1, B)] pq) (hall : AllNeg pq) (h' : Pq [(0, A.take k), (1, B), (0, A)] pq') (hp : Pgs cs (pq'.map (·.1))) : AllNeg pq' := by
  obtain ⟨_, ha, hc⟩ := (allneg_iff h).1 hall
  refine (allneg_iff h').2 ⟨?_, ?_, hc.sub ?_⟩
  · have hl := h'.len
    match pq', h', hp, hl with
    | [(p, q), (p', q'), (p'', q'')], h, hp, _ =>
      have m : MdP 0 (A.take k) p := h.md 0 (by simp) (by simp)
      have m' : MdP 1 B p' := h.md 1 (by simp) (by simp)
      have m'' : MdP 0 A p'' := h.md 2 (by simp) (by simp)
      have hlo : p.lo = -1 := hp.lo 0 (by simp)
      have hlo2 : p'.lo = lgI [p] p'.g := hp.lo 1 (by simp)
      have hlo3 : p'.lo = -1 := by
        rw [hlo2, m'.g]
        unfold lgI
        rw [lg_zero p 1 (by rw [m.g]; decide)]
      have hlo4 : p''.lo = lgI [p, p'] p''.g := hp.lo 2 (by simp)
      have hlo5 : p''.lo = ((0 : Nat) : Int) := by
        rw [hlo4, m''.g]
        have e1 : lg [p] 0 = some (0, p.ls.length) := by
          show (if p.g = 0 ∧ _ then _ else none) = _
          rw [if_pos ⟨m.g, fun _ h => by cases h⟩]
        have e2 : lg [p, p'] 0 = some (0, p.ls.length) := by
          have := lg_snoc [p] p' 0
          rw [if_neg (fun q => by rw [m'.g] at q; exact absurd q.1 (by decide)), e1] at this
          exact this
        unfold lgI
        rw [e2]
      intro i hi
      have hi2 : i = 0 ∨ i = 1 ∨ i = 2 := by
        simp only [List.length_cons, List.length_nil] at hi
        omega
      rcases hi2 with rfl | rfl | rfl
      · exact .inl ⟨hlo, rfl⟩
      · exact .inl ⟨hlo3, rfl⟩
      · refine .inr ⟨0, by simp, hlo5, .inl ⟨?_, rfl⟩⟩
        show pre p''.ls p.ls
        rw [m''.ls, m.ls]
        unfold tsR
        rw [List.map_take]
        exact pre_take _ _
  · intro p hp
    simp only [List.mem_cons, List.not_mem_nil, or_false] at hp
    rcases hp with rfl | rfl | rfl
    · exact (ha (0, A) (by simp)).take k
    · exact ha (1, B) (by simp)
    · exact ha (0, A) (by simp)
  · intro r hr
    simp only [flat, List.flatMap_cons, List.flatMap_nil, List.append_nil, List.mem_append] at hr ⊢
    rcases hr with q | q | q
    · exact .inl (List.mem_of_mem_take q)
    · exact .inr q
    · exact .inl q

end Go.Proofs.Ytbooeabmpdpgpaa
