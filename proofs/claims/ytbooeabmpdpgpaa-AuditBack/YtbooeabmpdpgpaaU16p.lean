/-
  What Verify answers is one thing; chains that are made and records that are read back, plainly.
-/
import Derived.Test.YtbooeabmpdpgpaaU13
import Derived.Test.YtbooeabmpdpgpaaU15
namespace Go.Proofs.Ytbooeabmpdpgpaa
open Go.RowKit Go.Maps Go.Sort

theorem take_mem {α : Type} {xs : List α} {i j : Nat} (hi : i < xs.length) (h : i < j) : xs[i] ∈ xs.take j := by
  have h1 : i < (xs.take j).length := by rw [List.length_take]; omega
  have := List.getElem_mem h1
  rwa [List.getElem_take] at this
theorem IdxIs.one {α : Type} {f : α → Bool} {xs : List α} {n m : Int} (h : IdxIs f xs n) (k : IdxIs f xs m) : n = m := by
  rcases h with ⟨rfl, h⟩ | ⟨i, hi, rfl, h1, h2⟩ <;> rcases k with ⟨rfl, k⟩ | ⟨j, hj, rfl, k1, k2⟩
  · rfl
  · rw [h _ (List.getElem_mem hj)] at k1
    cases k1
  · rw [k _ (List.getElem_mem hi)] at h1
    cases h1
  · rcases Nat.lt_trichotomy i j with q | q | q
    · rw [k2 _ (take_mem hi q)] at h1
      cases h1
    · rw [q]
    · rw [h2 _ (take_mem hj q)] at k1
      cases k1
theorem IsU.one {pq : List (Up × Ua)} {p : Up} {n m : Int} (h : IsU pq p n) (k : IsU pq p m) : n = m := by
  rcases h with ⟨a, rfl⟩ | ⟨o, ho, ha, h⟩ <;> rcases k with ⟨b, rfl⟩ | ⟨o', ho', hb, k⟩
  · rfl
  · omega
  · omega
  · obtain rfl : o = o' := by omega
    rcases h with ⟨h1, rfl⟩ | ⟨h1, i, i1, i2, rfl, h2, h3⟩ <;> rcases k with ⟨k1, rfl⟩ | ⟨k1, j, j1, j2, rfl, k2, k3⟩
    · rfl
    · exact absurd h1 k1
    · exact absurd k1 h1
    · rcases Nat.lt_trichotomy i j with q | q | q
      · exact absurd (take_eq k3 q i1 i2) h2
      · rw [q]
      · exact absurd (take_eq h3 q j1 j2) k2
theorem RuleIs.one {pq : List (Up × Ua)} {j i : Nat} {n m : Int} (h : RuleIs pq j i n) (k : RuleIs pq j i m) : n = m := by
  obtain ⟨hi, h⟩ := h
  obtain ⟨_, k⟩ := k
  rcases h with ⟨a, h⟩ | ⟨a, h⟩ | ⟨a, h⟩ | ⟨a, h⟩ | ⟨a, h⟩ | ⟨a, h⟩ | ⟨a, h⟩ <;> rcases k with ⟨b, k⟩ | ⟨b, k⟩ | ⟨b, k⟩ | ⟨b, k⟩ | ⟨b, k⟩ | ⟨b, k⟩ | ⟨b, k⟩
  all_goals first
    | exact absurd (a.symm.trans b) (by decide)
    | rw [h, k]
    | exact h.one k
theorem EVer.one {pq : List (Up × Ua)} {e f : Ending} (h : EVer pq e) (k : EVer pq f) : e = f := by
  rcases h with ⟨h, rfl⟩ | ⟨j, i, z, hj, hi, hz, hr, h1, h2, rfl⟩ <;> rcases k with ⟨k, rfl⟩ | ⟨j', i', z', hj', hi', hz', hr', k1, k2, rfl⟩
  · rfl
  · exact absurd (hr'.one (h _ _ hj' hi')) hz'
  · exact absurd (hr.one (k _ _ hj hi)) hz
  · rcases Nat.lt_trichotomy j j' with q | q | q
    · exact absurd (hr.one (k1 _ _ q hi)) hz
    · subst q
      rcases Nat.lt_trichotomy i i' with q | q | q
      · exact absurd (hr.one (k2 _ q)) hz
      · subst q
        rw [hr.one hr']
      · exact absurd (hr'.one (h2 _ q)) hz'
    · exact absurd (hr'.one (h1 _ _ q hi')) hz'

/-- The bytes of a chain that is made are read as it. -/
theorem dec_made {ts : List (List UInt8)} {ls : List Li} {y z : Int} (h : IsDec (encL (mkC ts)) ls y z) (hn : ts.length ≤ 4096) (hs : ∀ t ∈ ts, t.length ≤ 4000) : ls = mkC ts ∧ y = 0 ∧ z = 0 := by
  obtain ⟨n, hn, _, h2⟩ := h.back (by rw [mkC_length]; exact hn) (fun x hx => by
    have : x.t ∈ txs (mkC ts) := List.mem_map.2 ⟨x, hx, rfl⟩
    rw [txs_mkC] at this
    exact hs _ this)
  have := hn.one (IsChk.mk' _)
  subst this
  exact h2 (mkC_length _).symm

def Ur.ui (r : Ur) : Ui := ⟨(r.k : Nat), r.tx, r.gs.map (fun g : Nat => (g : Int)), r.bd⟩
theorem encGi_nat : ∀ gs : List Nat, (∀ g ∈ gs, g < 18446744073709551616) → encGi (gs.map (fun g : Nat => (g : Int))) = encG gs
  | [], _ => rfl
  | g :: gs, h => by
    show enc (u64 (g : Nat)) 1 ++ encGi (gs.map _) = enc (g : Nat) 1 ++ encG gs
    rw [u64_nat (h g (by simp)), encGi_nat gs (fun x hx => h x (List.mem_cons_of_mem _ hx))]
/-- A record whose form is right. -/
structure Okt (r : Ur) : Prop where
  f : fmd r = true
  t : r.tx.length ≤ 4000
  n : r.gs.length < 256
  g : ∀ g ∈ r.gs, g < 256
  b : r.bd.length ≤ 4000
theorem encU_nat {r : Ur} (h : Okt r) : encU r.ui = encR r := by
  have hk : r.k < 256 := by rcases fmd_kind h.f with q | q | q | q <;> omega
  have := h.t
  have := h.n
  have := h.b
  unfold encU encR Ur.ui
  simp only [List.length_map]
  rw [encGi_nat _ (fun g q => by have := h.g g q; omega), u64_nat (by omega), u64_nat (by omega), u64_nat (by omega), u64_nat (by omega)]
  simp only [List.append_assoc]
theorem Okt.back {r : Ur} (h : Okt r) : rec? (encR r) = some r := rec_back r h.f h.t h.n h.g h.b
/-- The texts of records. -/
def tsR (rs : List Ur) : List (List UInt8) := rs.map encR
theorem tsR_short {rs : List Ur} (h : ∀ r ∈ rs, Okt r) (hs : ∀ r ∈ rs, r.tx.length + r.bd.length ≤ 3000) : ∀ t ∈ tsR rs, t.length ≤ 4000 := fun t ht => by
  obtain ⟨r, hr, rfl⟩ := List.mem_map.1 ht
  have := (h r hr).n
  have := hs r hr
  rw [encR_len]
  omega
theorem entG_made {rs : List Ur} (h : ∀ r ∈ rs, Okt r) : entG (tsR rs) [] = entO (rs.map some) [] := by
  unfold entG tsR
  rw [List.map_map]
  congr 1
  exact List.map_congr_left fun r hr => (h r hr).back
theorem entO_some : ∀ (rs : List Ur) (es : List Ue), (entO (rs.map some) es).map (·.r) = es.map (·.r) ++ rs
  | [], es => by simp [entO]
  | r :: rs, es => by
    show (entO (rs.map some) (es ++ [⟨r, kin es r.tx⟩])).map (·.r) = _
    rw [entO_some rs]
    simp
theorem idx_map {α β : Type} {f : β → Bool} {h : α → β} {xs : List α} {n : Int} : IdxIs (fun x => f (h x)) xs n ↔ IdxIs f (xs.map h) n := by
  constructor
  · rintro (⟨rfl, q⟩ | ⟨k, hk, rfl, q1, q2⟩)
    · refine .inl ⟨rfl, fun x hx => ?_⟩
      obtain ⟨y, hy, rfl⟩ := List.mem_map.1 hx
      exact q y hy
    · refine .inr ⟨k, by rw [List.length_map]; exact hk, rfl, by rw [List.getElem_map]; exact q1, fun x hx => ?_⟩
      rw [← List.map_take] at hx
      obtain ⟨y, hy, rfl⟩ := List.mem_map.1 hx
      exact q2 y hy
  · rintro (⟨rfl, q⟩ | ⟨k, hk, rfl, q1, q2⟩)
    · exact .inl ⟨rfl, fun x hx => q _ (List.mem_map_of_mem hx)⟩
    · refine .inr ⟨k, by rw [List.length_map] at hk; exact hk, rfl, by rw [List.getElem_map] at q1; exact q1, fun x hx => q2 _ ?_⟩
      rw [← List.map_take]
      exact List.mem_map_of_mem hx
/-- The rules of an entry alone. -/
def g4 (x : Ue) : Bool := (decide (x.r.k = 3) && (x.ah.c || x.ah.a)) || (decide (x.r.k = 4) && x.ah.c)
def g5 (rs : List Ur) (x : Ue) : Bool := (decide (x.r.k = 3) && (tel rs x.r.tx).ks.a) || (decide (x.r.k = 4) && (tel rs x.r.tx).ks.c)
def g6 (x : Ue) : Bool := decide (x.r.k = 3) && !x.ah.p
def g7 (rs : List Ur) (g : Int) (x : Ue) : Bool := decide (x.r.k = 3) && ((tel rs x.r.tx).ap || !(x.r.gs.any fun y => decide ((y : Int) = g)))
/-- A page whose chain is made of records. -/
structure MdP (g : Int) (rs : List Ur) (p : Up) : Prop where
  g : p.g = g
  ls : p.ls = mkC (tsR rs)
  y : p.y = 0
  es : p.es.map (·.1) = entO (rs.map some) []
theorem md_page {cs : List Uc} {ps : List Up} (h : Pgs cs ps) (i : Nat) (h1 : i < ps.length) (h2 : i < cs.length) {rs : List Ur} (hb : cs[i].bs = encL (mkC (tsR rs))) (ho : ∀ r ∈ rs, Okt r) (hs : ∀ r ∈ rs, r.tx.length + r.bd.length ≤ 3000) (hn : rs.length ≤ 4096) : MdP cs[i].g rs ps[i] := by
  have hd := h.dec i h1 h2
  rw [hb] at hd
  obtain ⟨d1, d2, _⟩ := dec_made hd (by simpa [tsR] using hn) (tsR_short ho hs)
  refine ⟨h.grp i h1 h2, d1, d2, ?_⟩
  rw [h.ent i h1, d1, txs_mkC, entG_made ho]
section
variable {g : Int} {rs : List Ur} {p : Up}
theorem MdP.recs (h : MdP g rs p) : p.es.map (·.1.r) = rs := by
  have := congrArg (List.map (·.r)) h.es
  rw [List.map_map, entO_some] at this
  exact this
theorem MdP.len (h : MdP g rs p) : p.es.length = rs.length := by
  have := congrArg List.length h.recs
  rwa [List.length_map] at this
theorem MdP.lsn (h : MdP g rs p) : p.ls.length = rs.length := by
  rw [h.ls, mkC_length]
  simp [tsR]
theorem MdP.one (h : MdP g rs p) : ru1 p = -1 := by unfold ru1; rw [if_pos h.y]
theorem MdP.two (h : MdP g rs p) : ru2 p = -1 := by unfold ru2; rw [h.len, h.lsn, if_neg (Nat.lt_irrefl _)]
theorem MdP.idx (h : MdP g rs p) {f : Ue → Bool} {n : Int} (k : IdxIs f (entO (rs.map some) []) n) : IdxIs (fun x => f x.1) p.es n := idx_map.2 (by rw [h.es]; exact k)
end

/-- The records of chapter 20's runs. -/
def rP : Ur := ⟨2, [116], [0, 1], []⟩
def rC : Ur := ⟨3, [116], [0, 1], []⟩
def rA : Ur := ⟨4, [116], [0, 1], []⟩
theorem okP : Okt rP := ⟨by decide, by decide, by decide, by decide, by decide⟩
theorem okC : Okt rC := ⟨by decide, by decide, by decide, by decide, by decide⟩
theorem okA : Okt rA := ⟨by decide, by decide, by decide, by decide, by decide⟩
theorem okPC : ∀ r ∈ [rP, rC], Okt r := fun r h => by
  simp only [List.mem_cons, List.not_mem_nil, or_false] at h
  rcases h with rfl | rfl
  · exact okP
  · exact okC
theorem okA1 : ∀ r ∈ [rA], Okt r := fun r h => by
  rw [List.mem_singleton.1 h]
  exact okA
theorem ver_none {e : Ending} {pq : List (Up × Ua)} (h : Pgs [] (pq.map (·.1))) (k : EVer pq e) : e = .returned (.tuple #[.agg #[.int .i64 0, .int .i64 0, .int .i64 0], .bool true]) := by
  have h0 : pq.length = 0 := by have := h.len; simpa using this
  rcases k with ⟨_, rfl⟩ | ⟨j, i, z, _, hi, _⟩
  · rfl
  · omega
theorem ver_one {e : Ending} {pq : List (Up × Ua)} {c : Uc} (hg : c.g = 0) (hb : c.bs = encL (mkC (tsR [rP, rC]))) (h : Pgs [c] (pq.map (·.1))) (k : EVer pq e) : e = .returned (.tuple #[.agg #[.int .i64 0, .int .i64 0, .int .i64 0], .bool true]) := by
  have hl := h.len
  match pq, h, k, hl with
  | [(p, q)], h, k, _ =>
    have m := md_page h 0 (by simp) (by simp) hb okPC (by decide) (by decide)
    have hlo : p.lo = -1 := h.lo 0 (by simp)
    simp only [List.getElem_cons_zero, List.map_cons, hg] at m
    have hgp := m.g
    have hall : allR ([(p, q)].map (·.1)) = [rP, rC] := by simp [allR, m.recs]
    refine k.one (.inl ⟨fun j i hj hi => ?_, rfl⟩)
    obtain rfl : i = 0 := by simpa using hi
    refine ⟨hi, ?_⟩
    rw [hall]
    simp only [List.getElem_cons_zero, hgp]
    have h7 : j = 0 ∨ j = 1 ∨ j = 2 ∨ j = 3 ∨ j = 4 ∨ j = 5 ∨ j = 6 := by omega
    rcases h7 with rfl | rfl | rfl | rfl | rfl | rfl | rfl
    · exact .inl ⟨rfl, m.one.symm⟩
    · exact .inr (.inl ⟨rfl, m.two.symm⟩)
    · exact .inr (.inr (.inl ⟨rfl, .inl ⟨hlo, rfl⟩⟩))
    · exact .inr (.inr (.inr (.inl ⟨rfl, m.idx (f := g4) (.inl ⟨rfl, by decide⟩)⟩)))
    · exact .inr (.inr (.inr (.inr (.inl ⟨rfl, m.idx (f := g5 [rP, rC]) (.inl ⟨rfl, by decide⟩)⟩))))
    · exact .inr (.inr (.inr (.inr (.inr (.inl ⟨rfl, m.idx (f := g6) (.inl ⟨rfl, by decide⟩)⟩)))))
    · exact .inr (.inr (.inr (.inr (.inr (.inr ⟨rfl, m.idx (f := g7 [rP, rC] 0) (.inl ⟨rfl, by decide⟩)⟩)))))
theorem ver_two {e : Ending} {pq : List (Up × Ua)} {c d : Uc} (hg : c.g = 0) (hb : c.bs = encL (mkC (tsR [rP, rC]))) (hg2 : d.g = 1) (hb2 : d.bs = encL (mkC (tsR [rA]))) (h : Pgs [c, d] (pq.map (·.1))) (k : EVer pq e) : e = .returned (.tuple #[.agg #[.int .i64 5, .int .i64 0, .int .i64 1], .bool false]) := by
  have hl := h.len
  match pq, h, k, hl with
  | [(p, q), (p', q')], h, k, _ =>
    have m := md_page h 0 (by simp) (by simp) hb okPC (by decide) (by decide)
    have m2 := md_page h 1 (by simp) (by simp) hb2 okA1 (by decide) (by decide)
    have hlo : p.lo = -1 := h.lo 0 (by simp)
    have hlo2 : p'.lo = lgI [p] p'.g := h.lo 1 (by simp)
    simp only [List.getElem_cons_zero, List.getElem_cons_succ, List.map_cons, hg, hg2] at m m2
    have hgp := m.g
    have hgp2 := m2.g
    have hlo3 : p'.lo = -1 := by
      rw [hlo2, hgp2]
      have : lg [p] 1 = none := by
        show (if p.g = 1 ∧ _ then _ else none) = _
        rw [if_neg (fun q => by rw [hgp] at q; exact absurd q.1 (by decide))]
      unfold lgI
      rw [this]
    have hall : allR ([(p, q), (p', q')].map (·.1)) = [rP, rC, rA] := by simp [allR, m.recs, m2.recs]
    refine k.one (.inr ⟨4, 0, 1, by decide, by simp, by decide, ⟨by simp, ?_⟩, fun j i hj hi => ?_, fun i hi => by omega, rfl⟩)
    · rw [hall]
      exact .inr (.inr (.inr (.inr (.inl ⟨rfl, m.idx (f := g5 [rP, rC, rA]) (.inr ⟨1, by decide, rfl, by decide, by decide⟩)⟩))))
    · refine ⟨hi, ?_⟩
      have hi2 : i = 0 ∨ i = 1 := by
        simp only [List.length_cons, List.length_nil] at hi
        omega
      have h7 : j = 0 ∨ j = 1 ∨ j = 2 ∨ j = 3 := by omega
      rcases hi2 with rfl | rfl
      · simp only [List.getElem_cons_zero]
        rcases h7 with rfl | rfl | rfl | rfl
        · exact .inl ⟨rfl, m.one.symm⟩
        · exact .inr (.inl ⟨rfl, m.two.symm⟩)
        · exact .inr (.inr (.inl ⟨rfl, .inl ⟨hlo, rfl⟩⟩))
        · exact .inr (.inr (.inr (.inl ⟨rfl, m.idx (f := g4) (.inl ⟨rfl, by decide⟩)⟩)))
      · simp only [List.getElem_cons_zero, List.getElem_cons_succ]
        rcases h7 with rfl | rfl | rfl | rfl
        · exact .inl ⟨rfl, m2.one.symm⟩
        · exact .inr (.inl ⟨rfl, m2.two.symm⟩)
        · exact .inr (.inr (.inl ⟨rfl, .inl ⟨hlo3, rfl⟩⟩))
        · exact .inr (.inr (.inr (.inl ⟨rfl, m2.idx (f := g4) (.inl ⟨rfl, by decide⟩)⟩)))

end Go.Proofs.Ytbooeabmpdpgpaa
