/-
  What Verify answers is one thing; chains that are made and records that are read back, plainly.
-/
import Derived.Test.YtbooeabmpdpgpaaU13
import Derived.Test.YtbooeabmpdpgpaaU15
import Derived.Test.YtbooeabmpdpgpaaZFew
namespace Go.Proofs.Ytbooeabmpdpgpaa
open Go.RowKit Go.Maps Go.Sort

theorem take_mem {α : Type} {xs : List α} {i j : Nat} (hi : i < xs.length) (h : i < j) : xs[i] ∈ xs.take j := by
  have h1 : i < (xs.take j).length := by rw [List.length_take]; omega
  have := List.getElem_mem h1
  rwa [List.getElem_take] at this
theorem IdxIs.one {α : Type} {f : α → Bool} {xs : List α} {n m : Int} (h : IdxIs f xs n) (k : IdxIs f xs m) : n = m := by
  rcases h with ⟨rfl, h⟩ | ⟨i, hi, rfl, h1, h2⟩ <;> rcases k with ⟨rfl, k⟩ | ⟨j, hj, rfl, k1, k2⟩
  · rfl
  · rw [h _ (List.getElem_mem hj)] at k1
    cases k1
  · rw [k _ (List.getElem_mem hi)] at h1
    cases h1
  · rcases Nat.lt_trichotomy i j with q | q | q
    · rw [k2 _ (take_mem hi q)] at h1
      cases h1
    · rw [q]
    · rw [h2 _ (take_mem hj q)] at k1
      cases k1
theorem IsU.one {pq : List (Up × Ua)} {p : Up} {n m : Int} (h : IsU pq p n) (k : IsU pq p m) : n = m := by
  rcases h with ⟨a, rfl⟩ | ⟨o, ho, ha, h⟩ <;> rcases k with ⟨b, rfl⟩ | ⟨o', ho', hb, k⟩
  · rfl
  · omega
  · omega
  · obtain rfl : o = o' := by omega
    rcases h with ⟨h1, rfl⟩ | ⟨h1, i, i1, i2, rfl, h2, h3⟩ <;> rcases k with ⟨k1, rfl⟩ | ⟨k1, j, j1, j2, rfl, k2, k3⟩
    · rfl
    · exact absurd h1 k1
    · exact absurd k1 h1
    · rcases Nat.lt_trichotomy i j with q | q | q
      · exact absurd (take_eq k3 q i1 i2) h2
      · rw [q]
      · exact absurd (take_eq h3 q j1 j2) k2
theorem RuleIs.one {pq : List (Up × Ua)} {j i : Nat} {n m : Int} (h : RuleIs pq j i n) (k : RuleIs pq j i m) : n = m := by
  obtain ⟨hi, h⟩ := h
  obtain ⟨_, k⟩ := k
  rcases h with ⟨a, h⟩ | ⟨a, h⟩ | ⟨a, h⟩ | ⟨a, h⟩ | ⟨a, h⟩ | ⟨a, h⟩ | ⟨a, h⟩ <;> rcases k with ⟨b, k⟩ | ⟨b, k⟩ | ⟨b, k⟩ | ⟨b, k⟩ | ⟨b, k⟩ | ⟨b, k⟩ | ⟨b, k⟩
  all_goals first
    | exact absurd (a.symm.trans b) (by decide)
    | rw [h, k]
    | exact h.one k
theorem EVer.one {pq : List (Up × Ua)} {e f : Ending} (h : EVer pq e) (k : EVer pq f) : e = f := by
  rcases h with ⟨h, rfl⟩ | ⟨j, i, z, hj, hi, hz, hr, h1, h2, rfl⟩ <;> rcases k with ⟨k, rfl⟩ | ⟨j', i', z', hj', hi', hz', hr', k1, k2, rfl⟩
  · rfl
  · exact absurd (hr'.one (h _ _ hj' hi')) hz'
  · exact absurd (hr.one (k _ _ hj hi)) hz
  · rcases Nat.lt_trichotomy j j' with q | q | q
    · exact absurd (hr.one (k1 _ _ q hi)) hz
    · subst q
      rcases Nat.lt_trichotomy i i' with q | q | q
      · exact absurd (hr.one (k2 _ q)) hz
      · subst q
        rw [hr.one hr']
      · exact absurd (hr'.one (h2 _ q)) hz'
    · exact absurd (hr'.one (h1 _ _ q hi')) hz'

/-- The bytes of a chain that is made are read as it. -/
theorem dec_made {ts : List (List UInt8)} {ls : List Li} {y z : Int} (h : IsDec (encL (mkC ts)) ls y z) (hn : ts.length ≤ 4096) (hs : ∀ t ∈ ts, t.length ≤ 4000) : ls = mkC ts ∧ y = 0 ∧ z = 0 := by
  obtain ⟨n, hn, _, h2⟩ := h.back (by rw [mkC_length]; exact hn) (fun x hx => by
    have : x.t ∈ txs (mkC ts) := List.mem_map.2 ⟨x, hx, rfl⟩
    rw [txs_mkC] at this
    exact hs _ this)
  have := hn.one (IsChk.mk' _)
  subst this
  exact h2 (mkC_length _).symm

def Ur.ui (r : Ur) : Ui := ⟨(r.k : Nat), r.tx, r.gs.map (fun g : Nat => (g : Int)), r.bd⟩
theorem encGi_nat : ∀ gs : List Nat, (∀ g ∈ gs, g < 18446744073709551616) → encGi (gs.map (fun g : Nat => (g : Int))) = encG gs
  | [], _ => rfl
  | g :: gs, h => by
    show enc (u64 (g : Nat)) 1 ++ encGi (gs.map _) = enc (g : Nat) 1 ++ encG gs
    rw [u64_nat (h g (by simp)), encGi_nat gs (fun x hx => h x (List.mem_cons_of_mem _ hx))]
/-- A record whose form is right. -/
structure Okt (r : Ur) : Prop where
  f : fmd r = true
  t : r.tx.length ≤ 4000
  n : r.gs.length < 256
  g : ∀ g ∈ r.gs, g < 256
  b : r.bd.length ≤ 4000
theorem encU_nat {r : Ur} (h : Okt r) : encU r.ui = encR r := by
  have hk : r.k < 256 := by rcases fmd_kind h.f with q | q | q | q <;> omega
  have := h.t
  have := h.n
  have := h.b
  unfold encU encR Ur.ui
  simp only [List.length_map]
  rw [encGi_nat _ (fun g q => by have := h.g g q; omega), u64_nat (by omega), u64_nat (by omega), u64_nat (by omega), u64_nat (by omega)]
  simp only [List.append_assoc]
theorem Okt.back {r : Ur} (h : Okt r) : rec? (encR r) = some r := rec_back r h.f h.t h.n h.g h.b
/-- The texts of records. -/
def tsR (rs : List Ur) : List (List UInt8) := rs.map encR
theorem tsR_short {rs : List Ur} (h : ∀ r ∈ rs, Okt r) (hs : ∀ r ∈ rs, r.tx.length + r.bd.length ≤ 3000) : ∀ t ∈ tsR rs, t.length ≤ 4000 := fun t ht => by
  obtain ⟨r, hr, rfl⟩ := List.mem_map.1 ht
  have := (h r hr).n
  have := hs r hr
  rw [encR_len]
  omega
theorem entG_made {rs : List Ur} (h : ∀ r ∈ rs, Okt r) : entG (tsR rs) [] = entO (rs.map some) [] := by
  unfold entG tsR
  rw [List.map_map]
  congr 1
  exact List.map_congr_left fun r hr => (h r hr).back
theorem entO_some : ∀ (rs : List Ur) (es : List Ue), (entO (rs.map some) es).map (·.r) = es.map (·.r) ++ rs
  | [], es => by simp [entO]
  | r :: rs, es => by
    show (entO (rs.map some) (es ++ [⟨r, kin es r.tx⟩])).map (·.r) = _
    rw [entO_some rs]
    simp
theorem idx_map {α β : Type} {f : β → Bool} {h : α → β} {xs : List α} {n : Int} : IdxIs (fun x => f (h x)) xs n ↔ IdxIs f (xs.map h) n := by
  constructor
  · rintro (⟨rfl, q⟩ | ⟨k, hk, rfl, q1, q2⟩)
    · refine .inl ⟨rfl, fun x hx => ?_⟩
      obtain ⟨y, hy, rfl⟩ := List.mem_map.1 hx
      exact q y hy
    · refine .inr ⟨k, by rw [List.length_map]; exact hk, rfl, by rw [List.getElem_map]; exact q1, fun x hx => ?_⟩
      rw [← List.map_take] at hx
      obtain ⟨y, hy, rfl⟩ := List.mem_map.1 hx
      exact q2 y hy
  · rintro (⟨rfl, q⟩ | ⟨k, hk, rfl, q1, q2⟩)
    · exact .inl ⟨rfl, fun x hx => q _ (List.mem_map_of_mem hx)⟩
    · refine .inr ⟨k, by rw [List.length_map] at hk; exact hk, rfl, by rw [List.getElem_map] at q1; exact q1, fun x hx => q2 _ ?_⟩
      rw [← List.map_take]
      exact List.mem_map_of_mem hx
/-- The rules of an entry alone. -/
def g4 (x : Ue) : Bool := (decide (x.r.k = 3) && (x.ah.c || x.ah.a)) || (decide (x.r.k = 4) && x.ah.c)
def g5 (rs : List Ur) (x : Ue) : Bool := (decide (x.r.k = 3) && (tel rs x.r.tx).ks.a) || (decide (x.r.k = 4) && (tel rs x.r.tx).ks.c)
def g6 (x : Ue) : Bool := decide (x.r.k = 3) && !x.ah.p
def g7 (rs : List Ur) (g : Int) (x : Ue) : Bool := decide (x.r.k = 3) && ((tel rs x.r.tx).ap || !(x.r.gs.any fun y => decide ((y : Int) = g)))
/-- A page whose chain is made of records. -/
structure MdP (g : Int) (rs : List Ur) (p : Up) : Prop where
  g : p.g = g
  ls : p.ls = mkC (tsR rs)
  y : p.y = 0
  es : p.es.map (·.1) = entO (rs.map some) []
theorem md_page {cs : List Uc} {ps : List Up} (h : Pgs cs ps) (i : Nat) (h1 : i < ps.length) (h2 : i < cs.length) {rs : List Ur} (hb : cs[i].bs = encL (mkC (tsR rs))) (ho : ∀ r ∈ rs, Okt r) (hs : ∀ r ∈ rs, r.tx.length + r.bd.length ≤ 3000) (hn : rs.length ≤ 4096) : MdP cs[i].g rs ps[i] := by
  have hd := h.dec i h1 h2
  rw [hb] at hd
  obtain ⟨d1, d2, _⟩ := dec_made hd (by simpa [tsR] using hn) (tsR_short ho hs)
  refine ⟨h.grp i h1 h2, d1, d2, ?_⟩
  rw [h.ent i h1, d1, txs_mkC, entG_made ho]
section
variable {g : Int} {rs : List Ur} {p : Up}
theorem MdP.recs (h : MdP g rs p) : p.es.map (·.1.r) = rs := by
  have := congrArg (List.map (·.r)) h.es
  rw [List.map_map, entO_some] at this
  exact this
theorem MdP.len (h : MdP g rs p) : p.es.length = rs.length := by
  have := congrArg List.length h.recs
  rwa [List.length_map] at this
theorem MdP.lsn (h : MdP g rs p) : p.ls.length = rs.length := by
  rw [h.ls, mkC_length]
  simp [tsR]
theorem MdP.one (h : MdP g rs p) : ru1 p = -1 := by unfold ru1; rw [if_pos h.y]
theorem MdP.two (h : MdP g rs p) : ru2 p = -1 := by unfold ru2; rw [h.len, h.lsn, if_neg (Nat.lt_irrefl _)]
theorem MdP.idx (h : MdP g rs p) {f : Ue → Bool} {n : Int} (k : IdxIs f (entO (rs.map some) []) n) : IdxIs (fun x => f x.1) p.es n := idx_map.2 (by rw [h.es]; exact k)
end

/-- The records of chapter 20's runs. -/
def rP : Ur := ⟨2, [116], [0, 1], []⟩
def rC : Ur := ⟨3, [116], [0, 1], []⟩
def rA : Ur := ⟨4, [116], [0, 1], []⟩
theorem okP : Okt rP := ⟨by decide, by decide, by decide, by decide, by decide⟩
theorem okC : Okt rC := ⟨by decide, by decide, by decide, by decide, by decide⟩
theorem okA : Okt rA := ⟨by decide, by decide, by decide, by decide, by decide⟩
theorem okPC : ∀ r ∈ [rP, rC], Okt r := fun r h => by
  simp only [List.mem_cons, List.not_mem_nil, or_false] at h
  rcases h with rfl | rfl
  · exact okP
  · exact okC
theorem okA1 : ∀ r ∈ [rA], Okt r := fun r h => by
  rw [List.mem_singleton.1 h]
  exact okA
theorem ver_none {e : Ending} {pq : List (Up × Ua)} (h : Pgs [] (pq.map (·.1))) (k : EVer pq e) : e = .returned (.tuple #[.agg #[.int .i64 0, .int .i64 0, .int .i64 0], .bool true]) := by
  have h0 : pq.length = 0 := by have := h.len; simpa using this
  rcases k with ⟨_, rfl⟩ | ⟨j, i, z, _, hi, _⟩
  · rfl
  · omega
theorem ver_one {e : Ending} {pq : List (Up × Ua)} {c : Uc} (hg : c.g = 0) (hb : c.bs = encL (mkC (tsR [rP, rC]))) (h : Pgs [c] (pq.map (·.1))) (k : EVer pq e) : e = .returned (.tuple #[.agg #[.int .i64 0, .int .i64 0, .int .i64 0], .bool true]) := by
  have hl := h.len
  match pq, h, k, hl with
  | [(p, q)], h, k, _ =>
    have m := md_page h 0 (by simp) (by simp) hb okPC (by decide) (by decide)
    have hlo : p.lo = -1 := h.lo 0 (by simp)
    simp only [List.getElem_cons_zero, List.map_cons, hg] at m
    have hgp := m.g
    have hall : allR ([(p, q)].map (·.1)) = [rP, rC] := by simp [allR, m.recs]
    refine k.one (.inl ⟨fun j i hj hi => ?_, rfl⟩)
    obtain rfl : i = 0 := by simpa using hi
    refine ⟨hi, ?_⟩
    rw [hall]
    simp only [List.getElem_cons_zero, hgp]
    have h7 : j = 0 ∨ j = 1 ∨ j = 2 ∨ j = 3 ∨ j = 4 ∨ j = 5 ∨ j = 6 := by omega
    rcases h7 with rfl | rfl | rfl | rfl | rfl | rfl | rfl
    · exact .inl ⟨rfl, m.one.symm⟩
    · exact .inr (.inl ⟨rfl, m.two.symm⟩)
    · exact .inr (.inr (.inl ⟨rfl, .inl ⟨hlo, rfl⟩⟩))
    · exact .inr (.inr (.inr (.inl ⟨rfl, m.idx (f := g4) (.inl ⟨rfl, by decide⟩)⟩)))
    · exact .inr (.inr (.inr (.inr (.inl ⟨rfl, m.idx (f := g5 [rP, rC]) (.inl ⟨rfl, by decide⟩)⟩))))
    · exact .inr (.inr (.inr (.inr (.inr (.inl ⟨rfl, m.idx (f := g6) (.inl ⟨rfl, by decide⟩)⟩)))))
    · exact .inr (.inr (.inr (.inr (.inr (.inr ⟨rfl, m.idx (f := g7 [rP, rC] 0) (.inl ⟨rfl, by decide⟩)⟩)))))
theorem ver_two {e : Ending} {pq : List (Up × Ua)} {c d : Uc} (hg : c.g = 0) (hb : c.bs = encL (mkC (tsR [rP, rC]))) (hg2 : d.g = 1) (hb2 : d.bs = encL (mkC (tsR [rA]))) (h : Pgs [c, d] (pq.map (·.1))) (k : EVer pq e) : e = .returned (.tuple #[.agg #[.int .i64 5, .int .i64 0, .int .i64 1], .bool false]) := by
  have hl := h.len
  match pq, h, k, hl with
  | [(p, q), (p', q')], h, k, _ =>
    have m := md_page h 0 (by simp) (by simp) hb okPC (by decide) (by decide)
    have m2 := md_page h 1 (by simp) (by simp) hb2 okA1 (by decide) (by decide)
    have hlo : p.lo = -1 := h.lo 0 (by simp)
    have hlo2 : p'.lo = lgI [p] p'.g := h.lo 1 (by simp)
    simp only [List.getElem_cons_zero, List.getElem_cons_succ, List.map_cons, hg, hg2] at m m2
    have hgp := m.g
    have hgp2 := m2.g
    have hlo3 : p'.lo = -1 := by
      rw [hlo2, hgp2]
      have : lg [p] 1 = none := by
        show (if p.g = 1 ∧ _ then _ else none) = _
        rw [if_neg (fun q => by rw [hgp] at q; exact absurd q.1 (by decide))]
      unfold lgI
      rw [this]
    have hall : allR ([(p, q), (p', q')].map (·.1)) = [rP, rC, rA] := by simp [allR, m.recs, m2.recs]
    refine k.one (.inr ⟨4, 0, 1, by decide, by simp, by decide, ⟨by simp, ?_⟩, fun j i hj hi => ?_, fun i hi => by omega, rfl⟩)
    · rw [hall]
      exact .inr (.inr (.inr (.inr (.inl ⟨rfl, m.idx (f := g5 [rP, rC, rA]) (.inr ⟨1, by decide, rfl, by decide, by decide⟩)⟩))))
    · refine ⟨hi, ?_⟩
      have hi2 : i = 0 ∨ i = 1 := by
        simp only [List.length_cons, List.length_nil] at hi
        omega
      have h7 : j = 0 ∨ j = 1 ∨ j = 2 ∨ j = 3 := by omega
      rcases hi2 with rfl | rfl
      · simp only [List.getElem_cons_zero]
        rcases h7 with rfl | rfl | rfl | rfl
        · exact .inl ⟨rfl, m.one.symm⟩
        · exact .inr (.inl ⟨rfl, m.two.symm⟩)
        · exact .inr (.inr (.inl ⟨rfl, .inl ⟨hlo, rfl⟩⟩))
        · exact .inr (.inr (.inr (.inl ⟨rfl, m.idx (f := g4) (.inl ⟨rfl, by decide⟩)⟩)))
      · simp only [List.getElem_cons_zero, List.getElem_cons_succ]
        rcases h7 with rfl | rfl | rfl | rfl
        · exact .inl ⟨rfl, m2.one.symm⟩
        · exact .inr (.inl ⟨rfl, m2.two.symm⟩)
        · exact .inr (.inr (.inl ⟨rfl, .inl ⟨hlo3, rfl⟩⟩))
        · exact .inr (.inr (.inr (.inl ⟨rfl, m2.idx (f := g4) (.inl ⟨rfl, by decide⟩)⟩)))

end Go.Proofs.Ytbooeabmpdpgpaa

namespace Go.Proofs.Ytbooeabmpdpgpaa
open Go.RowKit

/-- Records that are looked at: what they hold, and where their groups lie. -/
abbrev Rr := Ui × (Option Addr × Nat)
def rcell (x : Rr) : List Value := [.int .i64 x.1.k, .string ⟨x.1.tx.toArray⟩, .slice x.2.1 x.1.gs.length x.2.2, .string ⟨x.1.bd.toArray⟩]
def recS : Shp Rr := ⟨4, rcell, fun _ => rfl, fun p u hu => by
  simp only [rcell, List.mem_cons, List.not_mem_nil, or_false] at hu
  rcases hu with rfl | rfl | rfl | rfl <;> rfl⟩
theorem recT : ElT 29 24 recS.n 64 (.agg #[.int .i64 0, .string .empty, .slice none 0 0, .string .empty]) :=
  ⟨Try.underlying29, by kernel_rfl, by simp [Value.cells, recS], by decide, by decide⟩
structure Rrv (w : World) (a : Option Addr) (rs : List Rr) : Prop where
  vw : Vw recS w a rs
  gi : ∀ r ∈ rs, Gi w r.2.1 r.1.gs
theorem Rrv.all {w w' : World} {a : Option Addr} {rs : List Rr} (h : Rrv w a rs) (k : Kept (fun _ => True) w w') : Rrv w' a rs := ⟨h.vw.all k, fun r hr => (h.gi r hr).all k⟩
theorem Rrv.nil (w : World) (a : Option Addr) : Rrv w a [] := ⟨Vw.nil w a, fun _ h => by cases h⟩
theorem Try.sizeRref : (Try.prog.info? 48).map (·.size) = some 4 := by kernel_rfl
theorem Try.sizeClaim : (Try.prog.info? 27).map (·.size) = some 2 := by kernel_rfl
theorem results_rref {fn : Func} {p : Nat} (h : fn.results = #[.cell p 48]) (tmps : Array Value) (w : World) {g : Nat} {a b c d : Value} {t : TypeId} (hp : tmps.getD p undef = .pointer (some ⟨g, 0, none⟩)) (hg : Four4 w g t a b c d) :
    (results fn tmps).run Try.prog w = .ok (.agg #[a, b, c, d]) w :=
  results_cell_row h tmps w g t #[a, b, c, d] _ _ hp hg Try.underlying48 rfl Try.sizeRref
theorem results_claim {fn : Func} {p : Nat} (h : fn.results = #[.cell p 27]) (tmps : Array Value) (w : World) {g : Nat} {a b : Value} {t : TypeId} (hp : tmps.getD p undef = .pointer (some ⟨g, 0, none⟩)) (hg : Bk w g t [a, b]) :
    (results fn tmps).run Try.prog w = .ok (.agg #[a, b]) w :=
  results_cell_row h tmps w g t #[a, b] _ _ hp hg Try.underlying27 rfl Try.sizeClaim

set_option maxRecDepth 100000 in
set_option maxHeartbeats 2000000 in
theorem lrec_any (w : World) (x : Rr) : Calls Try.prog 20 #[.agg (rcell x).toArray] w fun e w' => e = .returned (.agg (rcell x).toArray) ∧ Kept (fun _ => True) w w' := by
  obtain ⟨⟨k, tx, gs, bd⟩, a, c⟩ := x
  unfold rcell
  simp only
  obtain ⟨w1, hw1⟩ : ∃ x, x = w.alloc (.cells #[.int .i64 k, .string ⟨tx.toArray⟩, .slice a gs.length c, .string ⟨bd.toArray⟩] 24) := ⟨_, rfl⟩
  have k1 : Kept (fun _ => True) w w1 := by rw [hw1]; exact (Kept.refl _ _).alloc _
  have F1 : Four4 w1 w.heap.size 24 (.int .i64 k) (.string ⟨tx.toArray⟩) (.slice a gs.length c) (.string ⟨bd.toArray⟩) := by rw [hw1]; exact heap_alloc_new w _
  have hz1 : w1.heap.size = w.heap.size + 1 := by rw [hw1, heap_size_alloc]
  obtain ⟨w2, hw2⟩ : ∃ x, x = w1.alloc (.cells #[.int .i64 0, .string ⟨#[]⟩, .slice none 0 0, .string ⟨#[]⟩] 48) := ⟨_, rfl⟩
  have k2 : Kept (fun _ => True) w1 w2 := by rw [hw2]; exact (Kept.refl _ _).alloc _
  have F2 : Four4 w2 w1.heap.size 48 (.int .i64 0) (.string ⟨#[]⟩) (.slice none 0 0) (.string ⟨#[]⟩) := by rw [hw2]; exact heap_alloc_new w1 _
  have F12 := F1.kept k2 trivial
  obtain ⟨x0, x1, x2, x3⟩ := F12.cell
  obtain ⟨z0, z1, z2, z3⟩ := F2.cell
  have zf := F2.free
  have HF2 : Hid (Four4 w2 w1.heap.size 48 (.int .i64 0) (.string ⟨#[]⟩) (.slice none 0 0) (.string ⟨#[]⟩)) := F2
  have HK : Hid (Kept (fun _ => True) w w2) := k1.trans k2
  rw [hz1] at z0 z1 z2 z3 zf HF2
  clear k1 k2 F1 F2 F12
  go_enter Try.func20, Try.ntmps20
  go_upto_region 1 with fail
  rw [← hw1, ← hw2]
  clear hw1 hw2 hz1
  obtain ⟨X, hX⟩ : ∃ X, X = w.heap.size := ⟨_, rfl⟩
  have HX : Hid (w.heap.size ≤ X + 1) := by show _ ≤ _; omega
  rw [← hX] at x0 x1 x2 x3 z0 z1 z2 z3 zf HF2 ⊢
  clear hX
  go_wp2_with fail
  refine bodyPost_ret (results_rref rfl _ _ rfl ((((HF2.out.set0 _).set1 _).set2 _).set3 _)) rfl ⟨rfl, ?_⟩
  exact kept_fresh (kept_fresh (kept_fresh (kept_fresh HK.out HX.out _) HX.out _) HX.out _) HX.out _

set_option maxRecDepth 100000 in
set_option maxHeartbeats 4000000 in
theorem claim_any {w : World} (g : Int) {al : Option Addr} {cap : Nat} {rs : List Rr} (h : Rrv w al rs) (hn : rs.length ≤ 800) (hs : ∀ r ∈ rs, r.1.tx.length + r.1.bd.length ≤ 80000) (hg : ∀ r ∈ rs, r.1.gs.length ≤ 1000) :
    Calls Try.prog 9 #[.int .i64 g, .slice al rs.length cap] w fun e w' => ∃ a' c', e = .returned (.agg #[.int .i64 g, .slice a' (encL (mkC (rs.map fun r => encU r.1))).length c']) ∧ Ob w' w.heap.size (.slice a' (encL (mkC (rs.map fun r => encU r.1))).length c') (encL (mkC (rs.map fun r => encU r.1))) ∧ Kept (fun _ => True) w w' := by
  obtain ⟨w1, hw1⟩ : ∃ x, x = w.alloc (.cells #[.int .i64 0, .slice none 0 0] 27) := ⟨_, rfl⟩
  have k1 : Kept (fun _ => True) w w1 := by rw [hw1]; exact (Kept.refl _ _).alloc _
  have F1 : Bk w1 w.heap.size 27 [.int .i64 0, .slice none 0 0] := by rw [hw1]; exact heap_alloc_new w _
  have HF1 : Hid (Bk w1 w.heap.size 27 [.int .i64 0, .slice none 0 0]) := F1
  have HV : Hid (Rrv w1 al rs) := h.all k1
  have HK1 : Hid (Kept (fun _ => True) w w1) := k1
  have HS : Hid ((∀ r ∈ rs, r.1.tx.length + r.1.bd.length ≤ 80000) ∧ (∀ r ∈ rs, r.1.gs.length ≤ 1000) ∧ rs.length ≤ 800) := ⟨hs, hg, hn⟩
  clear k1 F1 h hs hg
  obtain ⟨T, hT⟩ : ∃ T, T = rs.map fun r => encU r.1 := ⟨_, rfl⟩
  rw [← hT]
  have HT : Hid (T = rs.map fun r => encU r.1) := hT
  clear hT
  obtain ⟨A, hA⟩ : ∃ A, A = mkC T := ⟨_, rfl⟩
  rw [← hA]
  have HA : Hid (A = mkC T) := hA
  clear hA
  go_enter Try.func9, Try.ntmps9
  go_upto_region 1 with fail
  rw [← hw1]
  clear hw1
  go_wp2_with fail
  go_loopw [5, 6] (fun v t wr => ∃ (k : Nat) (a' : Option Addr) (c' : Nat), k ≤ rs.length ∧ t = .int .i64 k ∧ v = .slice a' k c' ∧ Txs wr w1.heap.size (.slice a' k c') (T.take k) ∧ Kept (fun _ => True) w1 wr) (fun _ t _ => rs.length - (intOf t).toNat)
  case atStart => exact ⟨0, none, 0, Nat.zero_le _, rfl, rfl, Txs.nil w1 _, Kept.refl _ _⟩
  case round =>
    obtain ⟨k, a', c', hk, rfl, rfl, ht, kr⟩ := hrel
    have HTX : Hid (Txs wr w1.heap.size (.slice a' k c') (T.take k)) := ht
    have HKr : Hid (Kept (fun _ => True) w1 wr) := kr
    have HLk : Hid ((T.take k).length = k) := by show _ = _; rw [List.length_take, HT.out, List.length_map]; omega
    clear ht
    by_cases hlt : k < rs.length
    · obtain ⟨b, off, rfl, hb, hc⟩ := (HV.out.all kr).vw.row (by omega)
      have hr := hc k hlt
      have m0 : wr.cell? ⟨b, off + k * 4, none⟩ = some (.int .i64 rs[k].1.k) := hr 0 _ rfl
      have m1 : wr.cell? ⟨b, off + k * 4 + 1, none⟩ = some (.string ⟨rs[k].1.tx.toArray⟩) := hr 1 _ rfl
      have m2 : wr.cell? ⟨b, off + k * 4 + 2, none⟩ = some (.slice rs[k].2.1 rs[k].1.gs.length rs[k].2.2) := hr 2 _ rfl
      have m3 : wr.cell? ⟨b, off + k * 4 + 3, none⟩ = some (.string ⟨rs[k].1.bd.toArray⟩) := hr 3 _ rfl
      have HGi : Hid (Gi wr rs[k].2.1 rs[k].1.gs) := (HV.out.all kr).gi _ (List.getElem_mem hlt)
      have HTK : Hid (T.take (k + 1) = T.take k ++ [encU rs[k].1]) := by
        show _ = _
        rw [HT.out, List.take_succ_eq_append_getElem (by rw [List.length_map]; exact hlt), List.getElem_map]
      have HI : Hid (k < rs.length) := hlt
      have l1 := HS.out.1 _ (List.getElem_mem hlt)
      have l2 := HS.out.2.1 _ (List.getElem_mem hlt)
      have i0 : (0 : Int) ≤ (k : Int) := by omega
      have i1 : (k : Int) < (rs.length : Int) := by omega
      clear hr hc kr hk
      generalize rs[k] = x at *
      clear hlt
      have CR := lrec_any wr x
      have CT : ∀ W, Kept (fun _ => True) wr W → Calls Try.prog 19 #[.agg (rcell x).toArray] W fun e w' => e = .returned (.string ⟨(encU x.1).toArray⟩) ∧ Kept (fun _ => True) W w' := fun W q => rtextR_any (r := x.1) (ao := x.2.1) (cap := x.2.2) (HGi.out.all q) (by omega) (by omega) (by omega)
      unfold rcell at CR CT
      generalize encU x.1 = s at *
      go_wp2_with (first
        | (go_at_call 20; (with_reducible refine Calls.mono CR ?_); rintro e w2 ⟨rfl, k2⟩)
        | (go_at_call 19; (with_reducible refine Calls.mono (CT _ k2) ?_); rintro e w3 ⟨rfl, k3⟩; have K3 : Hid (Kept (fun _ => True) wr w3) := k2.trans k3)
        | (at_builtin; refine wpList_append_text rfl (.tmp 13) (.tmp 20) rfl w1.heap.size (.slice a' k c') (T.take k) rfl (HTX.out.kept (K3.out.alloc _) (fun _ _ => trivial)) (by rw [heap_size_alloc]; have := HKr.out.size; have := K3.out.size; omega) _ rfl s (0, 0) (heap_alloc_new w3 _) (by rw [HLk.out]; have := HI.out; have := HS.out.2.2; omega) ?_; intro a4 c4 w4 ht4 hg4 hl4))
      go_roundw
      case rel =>
        rw [HLk.out] at ht4
        refine ⟨k + 1, a4, c4, by have := HI.out; omega, by go_num, by first | rfl | rw [HLk.out] | rw [show min k T.length = k from by have := HLk.out; rwa [List.length_take] at this], by rw [HTK.out]; exact ht4, ?_⟩
        exact ((HKr.out.trans K3.out).alloc _).grown hg4 (fun i hi e => by have := (World.ownsRow.lt HTX.out i e).1; omega)
      case measure => have := HI.out; simp [intOf]; omega
    · obtain rfl : k = rs.length := by omega
      have i1 : ¬ ((rs.length : Nat) : Int) < (rs.length : Int) := by omega
      have lT : T.length = rs.length := by rw [HT.out, List.length_map]
      have lA : (mkC T).length = rs.length := by rw [mkC_length, lT]
      have sT : ∀ t ∈ T, t.length ≤ 90000 := fun t q => by
        rw [HT.out] at q
        obtain ⟨r, hr, rfl⟩ := List.mem_map.1 q
        have := HS.out.1 r hr
        have := HS.out.2.1 r hr
        unfold encU
        simp only [List.length_append, enc_length, encGi_len]
        omega
      have tv : Tv wr a' T := by
        have := HTX.out
        rw [List.take_of_length_le (by omega)] at this
        exact this.tv
      have CM := rmake_any (cap := c') tv (by omega) (fun t q => by have := sT t q; omega)
      have wA : wgt (mkC T) ≤ 100000000 := by
        have h1 := wgt_few (M := 90000) (mkC T) (fun x hx => by
          have : x.t ∈ txs (mkC T) := List.mem_map.2 ⟨x, hx, rfl⟩
          rw [txs_mkC] at this
          exact sT _ this)
        rw [lA] at h1
        have h2 := Nat.mul_le_mul_right (90000 + 36) (show rs.length ≤ 800 by omega)
        omega
      rw [← HA.out] at CM wA lA
      rw [lT, lA] at CM
      have CE : ∀ (W : World) (a : Option Addr) (c : Nat), Lv W a A → Calls Try.prog 25 #[.slice a rs.length c] W fun e w' => ∃ a' c', e = .returned (.slice a' (encL A).length c') ∧ Ob w' W.heap.size (.slice a' (encL A).length c') (encL A) ∧ Kept (fun _ => True) W w' := fun W a c hv => by
        have := rencode_any (cap := c) hv (by omega) (by omega)
        rwa [lA] at this
      obtain ⟨wo, hwo⟩ : ∃ x, x = wr := ⟨_, rfl⟩
      rw [← hwo] at CM HKr ⊢
      clear hwo lT sT tv wA HTX HLk hk hlt kr
      go_wp2_with (first
        | (go_at_call 26; (with_reducible refine Calls.mono CM ?_); rintro e w2 ⟨a2, c2, rfl, h2, k2⟩)
        | (go_at_call 25; (with_reducible refine Calls.mono (CE _ a2 c2 h2.view) ?_); rintro e w3 ⟨a3, c3, rfl, h3, k3⟩; have K3 : Hid (Kept (fun _ => True) w1 w3) := (HKr.out.trans k2).trans k3; have hb3 : Hid (w1.heap.size ≤ w2.heap.size) := (HKr.out.trans k2).size; have F3 := HF1.out.kept K3.out trivial; obtain ⟨f0, f1⟩ := F3.two; have ff := F3.free))
      have HX : Hid (w.heap.size < w1.heap.size) := HF1.out.lt
      refine bodyPost_ret (results_claim rfl _ _ rfl ((F3.set 0 _).set 1 _)) rfl ⟨a3, c3, rfl, ?_, ?_⟩
      · have hne : ∀ x, (Value.slice a3 (encL A).length c3).ownBlock = some x → x ≠ w.heap.size := fun x hx => by have := (World.ownsRow.lt h3 x hx).1; have := HX.out; have := hb3.out; omega
        exact World.ownsRow.mono (ownL_kept (ownL_kept h3 kept_set hne) kept_set hne) (by have := HX.out; have := hb3.out; omega)
      · exact kept_fresh (kept_fresh (HK1.out.trans K3.out) (Nat.le_refl _) _) (Nat.le_refl _) _

end Go.Proofs.Ytbooeabmpdpgpaa
