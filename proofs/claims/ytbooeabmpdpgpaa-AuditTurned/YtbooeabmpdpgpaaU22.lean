/-
  Rows of tamed records that a law makes; claims of them; what is let by with a beginning beside it.
-/
import Derived.Test.YtbooeabmpdpgpaaU20
import Derived.Test.YtbooeabmpdpgpaaLawAu1
import Derived.Test.YtbooeabmpdpgpaaVOrd
namespace Go.Proofs.Ytbooeabmpdpgpaa
open Go.RowKit Go.Maps Go.Sort

/-- A tamed record, and where its groups lie. -/
abbrev Ut := Ur × (Option Addr × Nat)
def rrU (p : Ut) : Rr := (p.1.ui, p.2)
structure Rws (w : World) (b : Nat) (v : Value) (xs : List Ut) : Prop where
  ow : Ow recS 24 w b v (xs.map rrU)
  its : ∀ p ∈ xs, Its w b (.slice p.2.1 p.1.gs.length p.2.2) p.1.gs
  tm : ∀ p ∈ xs, Tme p.1
theorem Rws.nil (w : World) (b : Nat) : Rws w b (.slice none 0 0) [] := ⟨Ow.nil _ _ _, (fun _ h => by cases h), fun _ h => by cases h⟩
section
variable {w w' : World} {b : Nat} {v : Value} {xs : List Ut}
theorem Rws.all (h : Rws w b v xs) (k : Kept (fun _ => True) w w') : Rws w' b v xs := ⟨h.ow.all k, fun p hp => (h.its p hp).kept k (fun _ _ => trivial), h.tm⟩
theorem Rws.shape (h : Rws w b v xs) : ∃ a c, v = .slice a xs.length c ∧ xs.length ≤ c ∧ (a = none → c = 0) := by
  obtain ⟨a, c, e, h1, _, h2⟩ := h.ow.shape
  rw [List.length_map] at e h1
  exact ⟨a, c, e, h1, h2⟩
theorem rr_view {ao : Option Addr} {n c : Nat} (h : Rws w b (.slice ao n c) xs) : Rrv w ao (xs.map rrU) := ⟨h.ow.view, fun r hr => by
  obtain ⟨p, hp, rfl⟩ := List.mem_map.1 hr
  exact (h.its p hp).gv.gi⟩
theorem Rws.step {n c M : Nat} {ao a' : Option Addr} {c' : Nat} {o : Obj} (h : Rws w b (.slice ao n c) xs) (p : Ut) (hp : Tme p.1) (hi : Its w b (.slice p.2.1 p.1.gs.length p.2.2) p.1.gs) (ho : Ow recS 24 w' b (.slice a' M c') (xs.map rrU ++ [rrU p])) (hg : (w.alloc o).grownBy w' (Value.slice ao n c).ownBlock) : Rws w' b (.slice a' M c') (xs ++ [p]) := by
  have k : Kept (fun x => (Value.slice ao n c).ownBlock ≠ some x) w w' := ((Kept.refl _ _).alloc _).grown hg (fun x _ e h => h e)
  have far : ∀ q : Ut, Its w b (.slice q.2.1 q.1.gs.length q.2.2) q.1.gs → Its w' b (.slice q.2.1 q.1.gs.length q.2.2) q.1.gs := fun q hq => hq.kept k (fun x hx => by
    rcases hq.2 with ⟨e, _⟩ | ⟨g, cap, cur, e, _, hgb, _⟩
    · rw [e] at hx; cases hx
    · rw [e] at hx
      cases hx
      exact h.ow.ne hgb (by decide))
  refine ⟨by rw [List.map_append]; exact ho, fun q hq => ?_, fun q hq => ?_⟩
  · rcases List.mem_append.1 hq with q1 | q1
    · exact far q (h.its q q1)
    · rw [List.mem_singleton.1 q1]; exact far p hi
  · rcases List.mem_append.1 hq with q1 | q1
    · exact h.tm q q1
    · rw [List.mem_singleton.1 q1]; exact hp
end
theorem Rrv.take {w : World} {a : Option Addr} {rs : List Rr} (h : Rrv w a rs) (k : Nat) : Rrv w a (rs.take k) := by
  refine ⟨⟨fun h0 => ?_⟩, fun r hr => h.gi r (List.mem_of_mem_take hr)⟩
  rw [List.length_take] at h0
  obtain ⟨b, off, e, hb, hc⟩ := h.vw.row (by omega)
  refine ⟨b, off, e, hb, fun i hi => ?_⟩
  rw [List.length_take] at hi
  rw [List.getElem_take]
  exact hc i (by omega)
/-- A claim of the first k records of a row. -/
theorem claimT_any {w : World} (g : Int) {ao : Option Addr} {n c cap k : Nat} {b : Nat} {xs : List Ut} (h : Rws w b (.slice ao n c) xs) (hk : k ≤ xs.length) (hx : xs.length ≤ 800) :
    Calls Try.prog 9 #[.int .i64 g, .slice ao k cap] w fun e w' => ∃ a' c', e = .returned (.agg #[.int .i64 g, .slice a' (encL (mkC (tsR ((xs.map (·.1)).take k)))).length c']) ∧ Ob w' w.heap.size (.slice a' (encL (mkC (tsR ((xs.map (·.1)).take k)))).length c') (encL (mkC (tsR ((xs.map (·.1)).take k)))) ∧ Kept (fun _ => True) w w' :=
  claimR_any g ((rr_view h).take k) (by rw [List.map_take, List.map_take]; congr 1; simp [rrU]) (fun u hu => by
    obtain ⟨p, hp, rfl⟩ := List.mem_map.1 (List.mem_of_mem_take hu)
    exact (h.tm p hp).ok) (by rw [List.length_take, List.length_map]; omega) (by omega)

theorem entO_append (ys : List (Option Ur)) : ∀ (xs : List Ur) (es : List Ue), entO (xs.map some ++ ys) es = entO ys (entO (xs.map some) es)
  | [], es => rfl
  | x :: xs, es => by
    show entO (xs.map some ++ ys) _ = entO ys (entO (xs.map some) _)
    rw [entO_append ys xs]
theorem entO_pre : ∀ (os : List (Option Ur)) (es : List Ue), ∃ t, entO os es = es ++ t
  | [], es => ⟨[], by simp [entO]⟩
  | none :: _, es => ⟨[], by simp [entO]⟩
  | some r :: os, es => by
    obtain ⟨t, ht⟩ := entO_pre os (es ++ [⟨r, kin es r.tx⟩])
    exact ⟨[⟨r, kin es r.tx⟩] ++ t, by show entO os _ = _; rw [ht, List.append_assoc]⟩
theorem entM_take {rs : List Ur} {i : Nat} {x : Ue} (h : x ∈ entM (rs.take i)) : x ∈ entM rs := by
  have e : entM rs = entO ((rs.drop i).map some) (entM (rs.take i)) := by
    unfold entM
    rw [← entO_append, ← List.map_append, List.take_append_drop]
  obtain ⟨t, ht⟩ := entO_pre ((rs.drop i).map some) (entM (rs.take i))
  rw [e, ht]
  exact List.mem_append_left _ h
theorem pre_take (T : List (List UInt8)) (k : Nat) : pre (mkC T) (mkC (T.take k)) := by
  unfold pre
  rw [mkC_length, mkC_length, List.length_take, mkC_take, mkC_take]
  congr 1
  rw [List.take_take]
  congr 1
  omega
theorem Alone.take {g : Int} {rs : List Ur} (h : Alone (g, rs)) (i : Nat) : Alone (g, rs.take i) :=
  ⟨fun x hx => h.1 x (entM_take hx), fun r hr => h.2 r (List.mem_of_mem_take hr)⟩
theorem Cross.sub {rs ss : List Ur} (h : Cross rs) (hs : ∀ r ∈ ss, r ∈ rs) : Cross ss := fun r hr r' hr' => h r (hs r hr) r' (hs r' hr')
/-- What Verify answers, told apart. -/
theorem ever_cases {pq : List (Up × Ua)} {e : Ending} (h : EVer pq e) : (AllNeg pq ∧ e = .returned (.tuple #[.agg #[.int .i64 0, .int .i64 0, .int .i64 0], .bool true])) ∨ ∃ (j i : Nat) (z : Int), j < 7 ∧ i < pq.length ∧ z ≠ -1 ∧ RuleIs pq j i z ∧ e = .returned (.tuple #[.agg #[.int .i64 ((j : Int) + 1), .int .i64 (i : Nat), .int .i64 z], .bool false]) := by
  rcases h with ⟨h, rfl⟩ | ⟨j, i, z, h1, h2, h3, h4, _, _, rfl⟩
  · exact .inl ⟨h, rfl⟩
  · exact .inr ⟨j, i, z, h1, h2, h3, h4, rfl⟩

theorem rdL_made {rs : List Ur} (ok : ∀ r ∈ rs, Okt r) : rdL (mkC (tsR rs)) = rs := by
  unfold rdL tsR
  rw [txs_mkC]
  induction rs with
  | nil => rfl
  | cons r rs ih =>
    rw [List.map_cons, List.filterMap_cons, (ok r (by simp)).back, ih (fun x hx => ok x (List.mem_cons_of_mem _ hx))]
/-- These claims are made of these records. -/
structure Mds (cs : List Uc) (gr : List (Int × List Ur)) : Prop where
  len : cs.length = gr.length
  g : ∀ i (h1 : i < cs.length) (h2 : i < gr.length), cs[i].g = gr[i].1
  b : ∀ i (h1 : i < cs.length) (h2 : i < gr.length), cs[i].bs = encL (mkC (tsR gr[i].2))
  ok : ∀ p ∈ gr, ∀ r ∈ p.2, Okt r
  sh : ∀ p ∈ gr, ∀ r ∈ p.2, r.tx.length + r.bd.length ≤ 3000
  few : ∀ p ∈ gr, p.2.length ≤ 4096
theorem Mds.pq {cs : List Uc} {gr : List (Int × List Ur)} {pq : List (Up × Ua)} (h : Mds cs gr) (hp : Pgs cs (pq.map (·.1))) : Pq gr pq := by
  have hl := hp.len
  rw [List.length_map] at hl
  refine ⟨by rw [hl, h.len], fun i h1 h2 => ?_⟩
  have h3 : i < cs.length := by rw [h.len]; exact h2
  have := md_page hp i (by rw [List.length_map]; exact h1) h3 (h.b i h3 h2) (h.ok _ (List.getElem_mem h2)) (h.sh _ (List.getElem_mem h2)) (h.few _ (List.getElem_mem h2))
  rw [List.getElem_map, h.g i h3 h2] at this
  exact this
theorem Mds.out {cs : List Uc} {gr : List (Int × List Ur)} {lss : List (List Li)} (h : Mds cs gr) (hd : Dcs cs lss) : outR lss = flat gr := by
  unfold outR flat
  rw [List.flatMap_def, List.flatMap_def]
  congr 1
  refine List.ext_getElem (by simp [hd.len, h.len]) fun i h1 h2 => ?_
  simp only [List.length_map] at h1 h2
  simp only [List.getElem_map]
  have h3 : i < cs.length := by rw [h.len]; exact h2
  obtain ⟨y, z, hdd⟩ := hd.dec i h1 h3
  rw [h.b i h3 h2] at hdd
  have := (dec_made hdd (by have := h.few _ (List.getElem_mem h2); simpa [tsR] using this) (tsR_short (h.ok _ (List.getElem_mem h2)) (h.sh _ (List.getElem_mem h2)))).1
  rw [this]
  exact rdL_made (h.ok _ (List.getElem_mem h2))
theorem verify_md {w : World} {al : Option Addr} {cap n : Nat} {cs : List Uc} {gr : List (Int × List Ur)} (h : Cv w al cs) (hn : cs.length = n) (hn2 : n ≤ 200) (hm : Mds cs gr) :
    Calls Try.prog 10 #[.slice al n cap] w fun e w' => (∃ pq, Pq gr pq ∧ Pgs cs (pq.map (·.1)) ∧ EVer pq e) ∧ Kept (fun _ => True) w w' := by
  subst hn
  refine (verify_any (cap := cap) h hn2).mono ?_
  rintro e w' ⟨pq, hp, he, k⟩
  exact ⟨⟨pq, hm.pq hp, hp, he⟩, k⟩
theorem outcomes_md {w : World} {al : Option Addr} {cap n : Nat} {cs : List Uc} {gr : List (Int × List Ur)} (h : Cv w al cs) (hn : cs.length = n) (hn2 : n ≤ 200) (hm : Mds cs gr) (tx : List UInt8) :
    Calls Try.prog 14 #[.slice al n cap, .string ⟨tx.toArray⟩] w fun e w' => (∃ a c, e = .returned (.slice a (outO (kol (flat gr) tx)).length c) ∧ Its w' w.heap.size (.slice a (outO (kol (flat gr) tx)).length c) (outO (kol (flat gr) tx))) ∧ Kept (fun _ => True) w w' := by
  subst hn
  refine (outcomes_any (cap := cap) h hn2 tx).mono ?_
  rintro e w' ⟨v, lss, rfl, hd, hi, k⟩
  rw [hm.out hd] at hi
  obtain ⟨a, c, rfl⟩ := hi.shape
  exact ⟨⟨a, c, rfl, hi⟩, k⟩
theorem out_few {gr : List (Int × List Ur)} (h : Cross (flat gr)) (tx : List UInt8) : (outO (kol (flat gr) tx)).length ≤ 1 := by
  rw [kol_tel]
  have t := tel_is tx (flat gr)
  unfold outO
  cases hc : (tel (flat gr) tx).ks.c with
  | false => cases ha : (tel (flat gr) tx).ks.a <;> simp
  | true =>
    cases ha : (tel (flat gr) tx).ks.a with
    | false => simp
    | true =>
      obtain ⟨r, hr, t1, k1⟩ := t.c.1 hc
      obtain ⟨r', hr', t2, k2⟩ := t.a.1 ha
      exact absurd k2 (h r hr r' hr' (t1.trans t2.symm) k1).1
theorem lg_zero (p : Up) (g : Int) (h : p.g ≠ g) : lg [p] g = none := by
  show (if p.g = g ∧ _ then _ else none) = _
  rw [if_neg (fun q => h q.1)]
/-- Two claims of groups 0 and 1: only rules of outcomes may fall. -/
theorem one_rule {cs : List Uc} {A B : List Ur} {pq : List (Up × Ua)} (h : Pq [(0, A), (1, B)] pq) (hp : Pgs cs (pq.map (·.1))) : (∀ i (hi : i < pq.length), IsU pq pq[i].1 (-1)) ∧ ∀ j i z, RuleIs pq j i z → z ≠ -1 → 3 ≤ j := by
  have hl := h.len
  match pq, h, hp, hl with
  | [(p, q), (p', q')], h, hp, _ =>
    have m : MdP 0 A p := h.md 0 (by simp) (by simp)
    have m' : MdP 1 B p' := h.md 1 (by simp) (by simp)
    have hlo : p.lo = -1 := hp.lo 0 (by simp)
    have hlo2 : p'.lo = lgI [p] p'.g := hp.lo 1 (by simp)
    have hlo3 : p'.lo = -1 := by
      rw [hlo2, m'.g]
      unfold lgI
      rw [lg_zero p 1 (by rw [m.g]; decide)]
    have hu : ∀ i (hi : i < [(p, q), (p', q')].length), IsU [(p, q), (p', q')] [(p, q), (p', q')][i].1 (-1) := fun i hi => by
      have hi2 : i = 0 ∨ i = 1 := by
        simp only [List.length_cons, List.length_nil] at hi
        omega
      rcases hi2 with rfl | rfl
      · exact .inl ⟨hlo, rfl⟩
      · exact .inl ⟨hlo3, rfl⟩
    refine ⟨hu, fun j i z hr hz => ?_⟩
    refine Classical.byContradiction fun hj => ?_
    obtain ⟨hi, hr⟩ := hr
    have hi2 : i = 0 ∨ i = 1 := by
      simp only [List.length_cons, List.length_nil] at hi
      omega
    rcases hr with a | a | a | a | a | a | a
    · rcases hi2 with rfl | rfl
      · exact hz (a.2.trans m.one)
      · exact hz (a.2.trans m'.one)
    · rcases hi2 with rfl | rfl
      · exact hz (a.2.trans m.two)
      · exact hz (a.2.trans m'.two)
    · exact hz (a.2.one (hu i hi))
    · omega
    · omega
    · omega
    · omega
/-- A beginning of a claim beside it is let by, too. -/
theorem one_part {cs : List Uc} {A B : List Ur} {k : Nat} {pq pq' : List (Up × Ua)} (h : Pq [(0, A), (1, B)] pq) (hall : AllNeg pq) (h' : Pq [(0, A.take k), (1, B), (0, A)] pq') (hp : Pgs cs (pq'.map (·.1))) : AllNeg pq' := by
  obtain ⟨_, ha, hc⟩ := (allneg_iff h).1 hall
  refine (allneg_iff h').2 ⟨?_, ?_, hc.sub ?_⟩
  · have hl := h'.len
    match pq', h', hp, hl with
    | [(p, q), (p', q'), (p'', q'')], h, hp, _ =>
      have m : MdP 0 (A.take k) p := h.md 0 (by simp) (by simp)
      have m' : MdP 1 B p' := h.md 1 (by simp) (by simp)
      have m'' : MdP 0 A p'' := h.md 2 (by simp) (by simp)
      have hlo : p.lo = -1 := hp.lo 0 (by simp)
      have hlo2 : p'.lo = lgI [p] p'.g := hp.lo 1 (by simp)
      have hlo3 : p'.lo = -1 := by
        rw [hlo2, m'.g]
        unfold lgI
        rw [lg_zero p 1 (by rw [m.g]; decide)]
      have hlo4 : p''.lo = lgI [p, p'] p''.g := hp.lo 2 (by simp)
      have hlo5 : p''.lo = ((0 : Nat) : Int) := by
        rw [hlo4, m''.g]
        have e1 : lg [p] 0 = some (0, p.ls.length) := by
          show (if p.g = 0 ∧ _ then _ else none) = _
          rw [if_pos ⟨m.g, fun _ h => by cases h⟩]
        have e2 : lg [p, p'] 0 = some (0, p.ls.length) := by
          have := lg_snoc [p] p' 0
          rw [if_neg (fun q => by rw [m'.g] at q; exact absurd q.1 (by decide)), e1] at this
          exact this
        unfold lgI
        rw [e2]
      intro i hi
      have hi2 : i = 0 ∨ i = 1 ∨ i = 2 := by
        simp only [List.length_cons, List.length_nil] at hi
        omega
      rcases hi2 with rfl | rfl | rfl
      · exact .inl ⟨hlo, rfl⟩
      · exact .inl ⟨hlo3, rfl⟩
      · refine .inr ⟨0, by simp, hlo5, .inl ⟨?_, rfl⟩⟩
        show pre p''.ls p.ls
        rw [m''.ls, m.ls]
        unfold tsR
        rw [List.map_take]
        exact pre_take _ _
  · intro p hp
    simp only [List.mem_cons, List.not_mem_nil, or_false] at hp
    rcases hp with rfl | rfl | rfl
    · exact (ha (0, A) (by simp)).take k
    · exact ha (1, B) (by simp)
    · exact ha (0, A) (by simp)
  · intro r hr
    simp only [flat, List.flatMap_cons, List.flatMap_nil, List.append_nil, List.mem_append] at hr ⊢
    rcases hr with q | q | q
    · exact .inl (List.mem_of_mem_take q)
    · exact .inr q
    · exact .inl q

end Go.Proofs.Ytbooeabmpdpgpaa

namespace Go.Proofs.Ytbooeabmpdpgpaa
open Go.RowKit Go.Maps Go.Sort

theorem pre_iff {xs ys : List Li} : pre xs ys ↔ ∀ k (_ : k < xs.length) (_ : k < ys.length), xs[k]? = ys[k]? := by
  unfold pre
  constructor
  · intro h k h1 h2
    have e := congrArg (fun l => l[k]?) h
    have hk : k < min xs.length ys.length := by omega
    simp only [List.getElem?_take, if_pos hk] at e
    exact e
  · intro h
    refine List.ext_getElem? fun k => ?_
    rw [List.getElem?_take, List.getElem?_take]
    by_cases hk : k < min xs.length ys.length
    · rw [if_pos hk, if_pos hk]
      exact h k (by omega) (by omega)
    · rw [if_neg hk, if_neg hk]
theorem pre_symm {xs ys : List Li} (h : pre xs ys) : pre ys xs := pre_iff.2 fun k h1 h2 => (pre_iff.1 h k h2 h1).symm
theorem pre_self (xs : List Li) : pre xs xs := rfl
theorem pre_both {a b l : List Li} (h1 : pre a l) (h2 : pre b l) (hl : b.length ≤ l.length) : pre a b := pre_iff.2 fun k q1 q2 => (pre_iff.1 h1 k q1 (by omega)).trans (pre_iff.1 h2 k q2 (by omega)).symm
/-- The longest of a group is the longest. -/
theorem lg_max (g : Int) (ps : List Up) : (lg ps g = none → ∀ p ∈ ps, p.g ≠ g) ∧ ∀ o m, lg ps g = some (o, m) → ∀ p ∈ ps, p.g = g → p.ls.length ≤ m := by
  refine snoc_ind (P := fun ps => (lg ps g = none → ∀ p ∈ ps, p.g ≠ g) ∧ ∀ o m, lg ps g = some (o, m) → ∀ p ∈ ps, p.g = g → p.ls.length ≤ m) ?_ (fun l x ih => ?_) ps
  · exact ⟨(fun _ p h => by cases h), fun _ _ h => by cases h⟩
  · rw [lg_snoc]
    obtain ⟨i1, i2⟩ := ih
    by_cases hc : x.g = g ∧ (∀ m, (lg l g).map (·.2) = some m → m < x.ls.length)
    · rw [if_pos hc]
      refine ⟨(fun h => by cases h), fun o m h p hp hpg => ?_⟩
      cases h
      rcases List.mem_append.1 hp with q | q
      · cases hl : lg l g with
        | none => exact absurd hpg (i1 hl p q)
        | some om =>
          obtain ⟨o, m⟩ := om
          have h1 := i2 o m hl p q hpg
          have h2 := hc.2 m (by rw [hl]; rfl)
          omega
      · rw [List.mem_singleton.1 q]
        exact Nat.le_refl _
    · rw [if_neg hc]
      refine ⟨fun h p hp => ?_, fun o m h p hp hpg => ?_⟩
      · rcases List.mem_append.1 hp with q | q
        · exact i1 h p q
        · rw [List.mem_singleton.1 q]
          exact fun e => hc ⟨e, fun m hm => by rw [h] at hm; cases hm⟩
      · rcases List.mem_append.1 hp with q | q
        · exact i2 o m h p q hpg
        · rw [List.mem_singleton.1 q] at hpg ⊢
          refine Classical.byContradiction fun hlt => hc ⟨hpg, fun m' hm' => ?_⟩
          rw [h] at hm'
          simp only [Option.map_some, Option.some.injEq] at hm'
          omega
def LL (rs : List Ur) : List Li := mkC (tsR rs)
/-- The claims of each group are beginnings of one another. -/
def Pair (gr : List (Int × List Ur)) : Prop := ∀ p ∈ gr, ∀ p' ∈ gr, p.1 = p'.1 → pre (LL p.2) (LL p'.2)
theorem unl_iff {cs : List Uc} {gr : List (Int × List Ur)} {pq : List (Up × Ua)} (h : Pq gr pq) (hp : Pgs cs (pq.map (·.1))) : (∀ i (hi : i < pq.length), IsU pq pq[i].1 (-1)) ↔ Pair gr := by
  have hl := h.len
  have hg : ∀ i (h1 : i < pq.length) (h2 : i < gr.length), pq[i].1.g = gr[i].1 := fun i h1 h2 => (h.md i h1 h2).g
  have hs : ∀ i (h1 : i < pq.length) (h2 : i < gr.length), pq[i].1.ls = LL gr[i].2 := fun i h1 h2 => (h.md i h1 h2).ls
  have hlo : ∀ i (h1 : i < pq.length), pq[i].1.lo = lgI ((pq.map (·.1)).take i) pq[i].1.g := fun i h1 => by
    have := hp.lo i (by rw [List.length_map]; exact h1)
    rwa [List.getElem_map] at this
  constructor
  · intro hu
    have main : ∀ n, n ≤ gr.length → ∀ i j (h1 : i < n) (h2 : j < n) (h1' : i < gr.length) (h2' : j < gr.length), gr[i].1 = gr[j].1 → pre (LL gr[i].2) (LL gr[j].2) := fun n => by
      induction n with
      | zero => intro _ i j h1; omega
      | succ n ih =>
        intro hn
        have hnew : ∀ j (hj : j < n) (h1' : n < gr.length) (h2' : j < gr.length), gr[n].1 = gr[j].1 → pre (LL gr[n].2) (LL gr[j].2) := fun j hj h1' h2' hgj => by
          have hn1 : n < pq.length := by omega
          have hj1 : j < pq.length := by omega
          have hun := hu n hn1
          have hm := lg_max pq[n].1.g ((pq.map (·.1)).take n)
          have hjm : pq[j].1 ∈ (pq.map (·.1)).take n := by
            have := take_mem (xs := pq.map (·.1)) (i := j) (j := n) (by rw [List.length_map]; exact hj1) hj
            rwa [List.getElem_map] at this
          have hjg : pq[j].1.g = pq[n].1.g := by rw [hg j hj1 h2', hg n hn1 h1', hgj]
          rcases hun with ⟨q1, _⟩ | ⟨o, ho, q1, ⟨q2, _⟩ | ⟨_, k, _, _, q2, _⟩⟩
          · rw [hlo n hn1] at q1
            unfold lgI at q1
            cases hlg : lg ((pq.map (·.1)).take n) pq[n].1.g with
            | none => exact absurd hjg (hm.1 hlg _ hjm)
            | some om =>
              rw [hlg] at q1
              simp only at q1
              omega
          · rw [hlo n hn1] at q1
            unfold lgI at q1
            cases hlg : lg ((pq.map (·.1)).take n) pq[n].1.g with
            | none =>
              rw [hlg] at q1
              simp only at q1
              omega
            | some om =>
              obtain ⟨o', m⟩ := om
              rw [hlg] at q1
              simp only at q1
              obtain rfl : o' = o := by omega
              obtain ⟨hoo, e1, e2⟩ := lg_ok _ _ _ _ hlg
              rw [List.length_take, List.length_map] at hoo
              simp only [List.getElem_take, List.getElem_map] at e1 e2
              have ho2 : o' < gr.length := by omega
              have hmax := hm.2 o' m hlg _ hjm hjg
              have hon : o' < n := by omega
              have hpo : pre (LL gr[j].2) (LL gr[o'].2) := ih (by omega) j o' hj hon h2' ho2 (by rw [← hg j hj1 h2', ← hg o' ho ho2, hjg, e2])
              rw [hs n hn1 h1', hs o' ho ho2] at q2
              exact pre_both q2 hpo (by rw [← hs j hj1 h2', ← hs o' ho ho2, e1]; exact hmax)
          · omega
        intro i j h1 h2 h1' h2' hgij
        by_cases hi : i = n
        · by_cases hj : j = n
          · subst hi
            subst hj
            exact pre_self _
          · subst hi
            exact hnew j (by omega) h1' h2' hgij
        · by_cases hj : j = n
          · subst hj
            exact pre_symm (hnew i (by omega) h2' h1' hgij.symm)
          · exact ih (by omega) i j (by omega) (by omega) h1' h2' hgij
    intro p hp1 p' hp2 e
    obtain ⟨i, hi, rfl⟩ := List.getElem_of_mem hp1
    obtain ⟨j, hj, rfl⟩ := List.getElem_of_mem hp2
    exact main gr.length (Nat.le_refl _) i j hi hj hi hj e
  · intro hpair i hi
    have hi2 : i < gr.length := by omega
    cases hlg : lg ((pq.map (·.1)).take i) pq[i].1.g with
    | none =>
      refine .inl ⟨?_, rfl⟩
      rw [hlo i hi]
      unfold lgI
      rw [hlg]
    | some om =>
      obtain ⟨o, m⟩ := om
      obtain ⟨hoo, e1, e2⟩ := lg_ok _ _ _ _ hlg
      rw [List.length_take, List.length_map] at hoo
      simp only [List.getElem_take, List.getElem_map] at e1 e2
      have ho : o < pq.length := by omega
      have ho2 : o < gr.length := by omega
      refine .inr ⟨o, ho, ?_, .inl ⟨?_, rfl⟩⟩
      · rw [hlo i hi]
        unfold lgI
        rw [hlg]
      · rw [hs i hi hi2, hs o ho ho2]
        exact hpair _ (List.getElem_mem hi2) _ (List.getElem_mem ho2) (by rw [← hg i hi hi2, ← hg o ho ho2, e2])
/-- Claims that are let by. -/
def Let (gr : List (Int × List Ur)) : Prop := Pair gr ∧ (∀ p ∈ gr, Alone p) ∧ Cross (flat gr)
theorem let_iff {cs : List Uc} {gr : List (Int × List Ur)} {pq : List (Up × Ua)} (h : Pq gr pq) (hp : Pgs cs (pq.map (·.1))) : AllNeg pq ↔ Let gr := by
  rw [allneg_iff h, unl_iff h hp]
  rfl
theorem Let.sub {gr gs : List (Int × List Ur)} (h : Let gr) (hs : ∀ p ∈ gs, p ∈ gr) : Let gs := by
  refine ⟨fun p hp p' hp' => h.1 p (hs p hp) p' (hs p' hp'), fun p hp => h.2.1 p (hs p hp), h.2.2.sub fun r hr => ?_⟩
  obtain ⟨p, hp, q⟩ := List.mem_flatMap.1 hr
  exact List.mem_flatMap.2 ⟨p, hs p hp, q⟩
theorem out_sub {gr gs : List (Int × List Ur)} (h1 : ∀ p ∈ gs, p ∈ gr) (h2 : ∀ p ∈ gr, p ∈ gs) (tx : List UInt8) : outO (kol (flat gr) tx) = outO (kol (flat gs) tx) := by
  have f1 : ∀ r, r ∈ flat gr ↔ r ∈ flat gs := fun r => by
    constructor
    · intro hr
      obtain ⟨p, hp, q⟩ := List.mem_flatMap.1 hr
      exact List.mem_flatMap.2 ⟨p, h2 p hp, q⟩
    · intro hr
      obtain ⟨p, hp, q⟩ := List.mem_flatMap.1 hr
      exact List.mem_flatMap.2 ⟨p, h1 p hp, q⟩
  rw [kol_tel, kol_tel]
  have t1 := tel_is tx (flat gr)
  have t2 := tel_is tx (flat gs)
  have hc : (tel (flat gr) tx).ks.c = (tel (flat gs) tx).ks.c := by
    rw [Bool.eq_iff_iff, t1.c, t2.c]
    simp only [f1]
  have ha : (tel (flat gr) tx).ks.a = (tel (flat gs) tx).ks.a := by
    rw [Bool.eq_iff_iff, t1.a, t2.a]
    simp only [f1]
  unfold outO
  rw [hc, ha]

end Go.Proofs.Ytbooeabmpdpgpaa

namespace Go.Proofs.Ytbooeabmpdpgpaa
open Go.RowKit Go.Maps Go.Sort

theorem add_off (g off j : Nat) : (⟨g, off, none⟩ : Addr).add j = ⟨g, off + j, none⟩ := by
  unfold Addr.add
  by_cases h : j = 0
  · simp [h]
  · simp [h]
section
variable {α : Type} {S : Shp α} {e : TypeId}
theorem append_many {T : TypeId} {bytes : Nat} {z : Value} (hT : ElT T e S.n bytes z) (w : World) (ty : TypeId) (base : Nat) (v : Value) (xs : List α) (hown : Ow S e w base v xs) (hb : base ≤ w.heap.size) (g off c : Nat) (ys : List α) (hsrc : ∀ i (h : i < ys.length), w.rangeAt g (off + i * S.n) (S.cell ys[i])) (hm : xs.length + ys.length ≤ 100000000000) :
    ∃ ao' cap' w', (Builtin.append_ #[T, T] ty #[v, .slice (some ⟨g, off, none⟩) ys.length c]).run Try.prog w = .ok (.slice ao' (xs.length + ys.length) cap') w' ∧ Ow S e w' base (.slice ao' (xs.length + ys.length) cap') (xs ++ ys) ∧ w.grownBy w' v.ownBlock ∧
      ((Value.slice ao' (xs.length + ys.length) cap').ownBlock = v.ownBlock ∨ (Value.slice ao' (xs.length + ys.length) cap').ownBlock = some w.heap.size) := by
  obtain ⟨i, hi, hz0, hz1, hz2⟩ := info_parts hT.info
  have hby : (xs.length + ys.length) * bytes ≤ 140737488355328 := by
    have h1 := Nat.mul_le_mul_left (xs.length + ys.length) hT.small
    have h2 := Nat.mul_le_mul_right 200 hm
    omega
  obtain ⟨v', w', hr, h2, h3, _, h5⟩ := run_append_own_at (P := Try.prog) w base T ty e i z S.n bytes hT.slice hi hz0 hz1 hz2 hT.zc hT.pos v xs.length (S.row xs) hown ⟨g, off, none⟩ ys.length c (S.row ys) (row_length ys) (fun j u hu => by
    have hj : j < ys.length * S.n := by have := (List.getElem?_eq_some_iff.1 hu).1; rwa [row_length] at this
    have hp := hT.pos
    have hq : j / S.n < ys.length := (Nat.div_lt_iff_lt_mul hp).2 hj
    have hr := Nat.mod_lt j hp
    have he : j = j / S.n * S.n + j % S.n := by rw [Nat.mul_comm]; exact (Nat.div_add_mod j S.n).symm
    have := row_get ys (j / S.n) hq (j % S.n) hr
    rw [← he, hu] at this
    have h4 := hsrc (j / S.n) hq (j % S.n) u this.symm
    rw [add_off]
    rw [Nat.add_assoc, ← he] at h4
    exact h4) (row_one ys) (by unfold maxLen; omega) hby hb
  obtain ⟨ao', cap', rfl⟩ := own_shape_u h2
  refine ⟨ao', cap', w', hr, ?_, h3, h5⟩
  unfold Ow
  rw [row_append, List.length_append]
  exact h2
theorem step_append_many {T : TypeId} {bytes : Nat} {z : Value} {w : World} {ops : Array Oper} {o : Oper} {a : Act} {K : Act → World → Prop} {Q : Exit → Act → World → Prop} {E : Prop} (hT : ElT T e S.n bytes z) (hgd : o.guard = none) (sl y : Operand) (ho : o.op = .call { callee := .builtin .append, args := #[sl, y], argTypes := #[T, T] })
    (base : Nat) (v : Value) (xs : List α) (hs : a.eval sl = v) (hown : Ow S e w base v xs) (hb : base ≤ w.heap.size) (g off c m : Nat) (ys : List α) (hy : a.eval y = .slice (some ⟨g, off, none⟩) m c) (hym : ys.length = m) (hsrc : ∀ i (h : i < ys.length), w.rangeAt g (off + i * S.n) (S.cell ys[i])) (hm : xs.length + ys.length ≤ 100000000000) (M : Nat) (hM : xs.length + ys.length = M)
    (h : ∀ ao' cap' w', Ow S e w' base (.slice ao' M cap') (xs ++ ys) → w.grownBy w' v.ownBlock → ((Value.slice ao' M cap').ownBlock = v.ownBlock ∨ (Value.slice ao' M cap').ownBlock = some w.heap.size) → K (a.put o.dst (.slice ao' M cap')) w') : if Region.wanted o (yielded ops a.tmps) = true then Oper.wp Try.prog o a w K Q else E := by
  subst hM
  subst hym
  have hw : Region.wanted o (yielded ops a.tmps) = true := by simp [Region.wanted, hgd]
  rw [if_pos hw]
  obtain ⟨ao', cap', w', hr, h2, h3, h4⟩ := append_many hT w o.type base v xs hown hb g off c ys hsrc hm
  unfold Oper.wp execOp
  simp only [ho, resolve, invoke, builtin, Sem.run_bind, Sem.run_pure, Result.andThen_ok, List.map_toArray, List.map_cons, List.map_nil, hs, hy, hr]
  exact h _ _ _ h2 h3 h4
end
theorem claimTy : ElT 30 27 claimS.n 32 (.agg #[.int .i64 0, .slice none 0 0]) :=
  ⟨Try.underlying30, by kernel_rfl, by simp [Value.cells, claimS], by decide, by decide⟩
/-- A row of claims of one's own, their bytes in rows of their own. -/
structure Cls (w : World) (b : Nat) (v : Value) (cl : List Uc) : Prop where
  ow : Ow claimS 27 w b v cl
  ob : ∀ c ∈ cl, Ob w b (.slice c.a c.bs.length c.c) c.bs
theorem Cls.nil (w : World) (b : Nat) : Cls w b (.slice none 0 0) [] := ⟨Ow.nil _ _ _, fun _ h => by cases h⟩
section
variable {w w' : World} {b : Nat} {v : Value} {cl : List Uc}
theorem Cls.all (h : Cls w b v cl) (k : Kept (fun _ => True) w w') : Cls w' b v cl := ⟨h.ow.all k, fun c hc => (h.ob c hc).all k⟩
theorem ob_far {bs : List UInt8} {u : Value} {own : Option Nat} (h : Ob w b u bs) (k : Kept (fun x => own ≠ some x) w w') (hne : ∀ (g : Nat) (cs : Array Value) (fr : Nat × Nat), w.heap[g]? = some (.cells cs 5 fr) → own ≠ some g) : Ob w' b u bs := ownL_kept h k (fun x hx => by
  rcases h.2 with ⟨e, _⟩ | ⟨g, cap, cur, e, _, hgb, _⟩
  · rw [e] at hx; cases hx
  · rw [e] at hx
    cases hx
    exact hne _ _ _ hgb)
theorem Cls.step {n c M : Nat} {ao a' : Option Addr} {c' : Nat} {o : Obj} (h : Cls w b (.slice ao n c) cl) (x : Uc) (hi : Ob w b (.slice x.a x.bs.length x.c) x.bs) (ho : Ow claimS 27 w' b (.slice a' M c') (cl ++ [x])) (hg : (w.alloc o).grownBy w' (Value.slice ao n c).ownBlock) : Cls w' b (.slice a' M c') (cl ++ [x]) := by
  have k : Kept (fun x => (Value.slice ao n c).ownBlock ≠ some x) w w' := ((Kept.refl _ _).alloc _).grown hg (fun x _ e h => h e)
  refine ⟨ho, fun q hq => ?_⟩
  rcases List.mem_append.1 hq with q1 | q1
  · exact ob_far (h.ob q q1) k (fun g cs fr hgb => h.ow.ne hgb (by decide))
  · rw [List.mem_singleton.1 q1]
    exact ob_far hi k (fun g cs fr hgb => h.ow.ne hgb (by decide))
theorem Cls.cv {ao : Option Addr} {n c : Nat} (h : Cls w b (.slice ao n c) cl) (hl : ∀ c ∈ cl, (c.bs.length : Int) ≤ 140737488355328 ∧ Fits c.g) : Cv w ao cl := ⟨h.ow.view, fun c hc => own_has (h.ob c hc), fun c hc => (hl c hc).1, fun c hc => (hl c hc).2⟩
end
theorem size_claims (w0 : World) : (sizeOf (Try.prog.elem 30)).run Try.prog w0 = .ok 2 w0 := by kernel_rfl

end Go.Proofs.Ytbooeabmpdpgpaa
