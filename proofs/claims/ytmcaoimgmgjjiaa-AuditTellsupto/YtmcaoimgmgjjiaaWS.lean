/-
  Texts of the proofs, 19 of 52.
-/
import Derived.Test.YtmcaoimgmgjjiaaWQ
import Derived.Test.YtmcaoimgmgjjiaaWR
namespace Go.Proofs.Ytmcaoimgmgjjiaa
open Go.RowKit Go.Maps Go.Sort

theorem Ow.at {α : Type} {S : Shp α} {e : TypeId} {w : World} {base g n cap : Nat} {xs : List α} (h : Ow S e w base (.slice (some ⟨g, 0, none⟩) n cap) xs) (i : Nat) (hi : i < xs.length) (j : Nat) (v : Value) (hv : (S.cell xs[i])[j]? = some v) : w.cell? ⟨g, i * S.n + j, none⟩ = some v := by
  have hn : n = xs.length := by
    obtain ⟨_, _, e0, _⟩ := h.shape
    injection e0
  subst hn
  obtain ⟨b, off, e0, _, hr⟩ := h.view.row (by omega)
  injection e0 with e0
  injection e0 with e1 e2
  subst e1 e2
  have := hr i hi j v hv
  rwa [Nat.zero_add] at this
theorem Ow.some3 {α : Type} {S : Shp α} {e : TypeId} {w : World} {base n cap : Nat} {a : Option Addr} {xs : List α} (h : Ow S e w base (.slice a n cap) xs) (hn : 0 < n) : ∃ g, a = some ⟨g, 0, none⟩ ∧ base ≤ g ∧ g < w.heap.size ∧ n ≤ cap := by
  obtain ⟨ao, c, e0, hc, hg, _⟩ := h.shape
  injection e0 with e1 e2 e3
  subst e1 e2 e3
  obtain ⟨g, rfl⟩ := hg hn
  exact ⟨g, rfl, h.ge rfl, h.lt rfl, hc⟩
theorem Bk.two {w : World} {X : Nat} {t : TypeId} {a b : Value} (h : Bk w X t [a, b]) : w.cell? ⟨X, 0, none⟩ = some a ∧ w.cell? ⟨X, 1, none⟩ = some b := ⟨cell_of_row _ _ 0 _ _ _ h, cell_of_row _ _ 1 _ _ _ h⟩
theorem Bk.three {w : World} {X : Nat} {t : TypeId} {a b c : Value} (h : Bk w X t [a, b, c]) : w.cell? ⟨X, 0, none⟩ = some a ∧ w.cell? ⟨X, 1, none⟩ = some b ∧ w.cell? ⟨X, 2, none⟩ = some c := ⟨cell_of_row _ _ 0 _ _ _ h, cell_of_row _ _ 1 _ _ _ h, cell_of_row _ _ 2 _ _ _ h⟩
theorem Bk.five {w : World} {X : Nat} {t : TypeId} {a b c d e : Value} (h : Bk w X t [a, b, c, d, e]) : w.cell? ⟨X, 0, none⟩ = some a ∧ w.cell? ⟨X, 1, none⟩ = some b ∧ w.cell? ⟨X, 2, none⟩ = some c ∧ w.cell? ⟨X, 3, none⟩ = some d ∧ w.cell? ⟨X, 4, none⟩ = some e := ⟨cell_of_row _ _ 0 _ _ _ h, cell_of_row _ _ 1 _ _ _ h, cell_of_row _ _ 2 _ _ _ h, cell_of_row _ _ 3 _ _ _ h, cell_of_row _ _ 4 _ _ _ h⟩
theorem Tmp.ne {w : World} {M n b : Nat} {rs : List Ur} (h : Tmp w M n b rs) {X : Nat} {cs : Array Value} {t : TypeId} {fr : Nat × Nat} (hX : w.heap[X]? = some (.cells cs t fr)) : X ≠ M := fun e => by
  obtain ⟨f, hm, _⟩ := h
  obtain ⟨es, clock, hmm⟩ := hm.isMap
  subst e
  rw [hmm] at hX
  cases hX
theorem Ow.block {α : Type} {S : Shp α} {e : TypeId} {w : World} {base : Nat} {v : Value} {xs : List α} (h : Ow S e w base v xs) {g : Nat} (hg : v.ownBlock = some g) : ∃ cs fr, w.heap[g]? = some (.cells cs e fr) := by
  rcases h.2 with ⟨q, _⟩ | ⟨g', _, cur, q, _, hgg, _⟩
  · rw [q] at hg; cases hg
  · rw [q] at hg; cases hg; exact ⟨_, _, hgg⟩
theorem its_ne {w : World} {b : Nat} {v : Value} {ns : List Nat} (h : Its w b v ns) {B : Nat} {cs : Array Value} {t : TypeId} {fr : Nat × Nat} (hB : w.heap[B]? = some (.cells cs t fr)) (ht : t ≠ 3) : v.ownBlock ≠ some B := by
  intro q
  rcases h.2 with ⟨e1, _⟩ | ⟨g, cap, cur, e1, _, hg, _⟩
  · rw [e1] at q; cases q
  · rw [e1] at q
    cases q
    rw [hg] at hB
    injection hB with hB
    injection hB with _ h2
    exact ht h2.symm
def Okr (r : Ur) : Prop := fmd r = true ∧ r.tx.length ≤ 4000 ∧ r.gs.length < 256
theorem rec_okr {bs : List UInt8} {r : Ur} (h : rec? bs = some r) : Okr r := by
  refine ⟨rec_kind h, rec_short h, ?_⟩
  unfold rec? at h
  split at h
  · cases h
    show (rdGs bs).1.length < 256
    unfold rdGs
    rw [rdG_len]
    exact RS.num_lt1 _ _
  · cases h
theorem entO_okr : ∀ (os : List (Option Ur)) (es : List Ue), (∀ r, some r ∈ os → Okr r) → (∀ e ∈ es, Okr e.r) → ∀ e ∈ entO os es, Okr e.r
  | [], es, _, h => h
  | none :: _, es, _, h => h
  | some r :: ts, es, hs, h => entO_okr ts _ (fun q hq => hs q (List.mem_cons_of_mem _ hq)) (fun e he => by
    rcases List.mem_append.1 he with h1 | h1
    · exact h e h1
    · rw [List.mem_singleton.1 h1]; exact hs r (by simp))
theorem entG_okr (ts : List (List UInt8)) : ∀ e ∈ entG ts [], Okr e.r := entO_okr _ _ (fun r hr => by
  obtain ⟨t, _, ht⟩ := List.mem_map.1 hr
  exact rec_okr ht) (fun e he => by cases he)

set_option maxRecDepth 100000 in
set_option maxHeartbeats 4000000 in
theorem hear_any {w : World} {E M n b : Nat} {pv : Value} {rs : List Ur} {p : Up} {q : Ua} (hE : Bk w E 112 [pv, .map (some M)]) (hM : Tmp w M n b rs) (hb : b ≤ w.heap.size) (hp : Pgv w b p q) (hn : n + p.es.length ≤ 1000000) (ho : ∀ x ∈ p.es, Okr x.1.r) (hrs : ∀ r ∈ rs, Okr r) :
    Calls Try.prog 58 #[.pointer (some ⟨E, 0, none⟩), .agg (pcell p q).toArray] w fun e w' => e = .returned (.tuple #[]) ∧ Tmp w' M (n + p.es.length) b (rs ++ p.es.map (·.1.r)) ∧ Kept (· ≠ M) w w' := by
  have HEn : Hid (E < w.heap.size ∧ E ≠ M ∧ M < w.heap.size) := ⟨hE.lt, hM.ne hE, hM.lt⟩
  obtain ⟨xs, hxs⟩ : ∃ xs, xs = p.es := ⟨_, rfl⟩
  have HEN : Hid (Ow entS 124 w b (.slice q.a2 xs.length q.c2) xs) := by rw [hxs]; exact hp.ents
  have HEG : Hid (Eg w b xs) := by rw [hxs]; exact hp.grps
  rw [← hxs] at hn ho ⊢
  unfold pcell
  rw [← hxs]
  obtain ⟨a1, c1, a2, c2⟩ := q
  simp only at HEN ⊢
  generalize p.g = pg at *
  generalize p.y = py at *
  generalize p.z = pz at *
  generalize p.lo = plo at *
  generalize p.ls.length = pl at *
  have HO : Hid (∀ x ∈ xs, Okr x.1.r) := ho
  have HW : Hid (b ≤ w.heap.size) := hb
  have HRS : Hid (∀ r ∈ rs, Okr r) := hrs
  clear hp ho hxs hb hrs
  obtain ⟨w1, hw1⟩ : ∃ x, x = w.alloc (.cells #[.int .i64 pg, .slice a1 pl c1, .int .i64 py, .int .i64 pz, .slice a2 xs.length c2, .int .i64 plo] 116) := ⟨_, rfl⟩
  have k1 : Kept (fun _ => True) w w1 := by rw [hw1]; exact (Kept.refl _ _).alloc _
  have FB1 : Hid (Bk w1 w.heap.size 116 [.int .i64 pg, .slice a1 pl c1, .int .i64 py, .int .i64 pz, .slice a2 xs.length c2, .int .i64 plo]) := by rw [hw1]; exact heap_alloc_new w _
  have HE1 : Hid (Bk w1 E 112 [pv, .map (some M)]) := hE.kept k1 trivial
  have HM1 : Hid (Tmp w1 M n b rs) := hM.kept k1 trivial (fun _ _ _ _ => trivial)
  have HX1 : Hid (Ow entS 124 w1 b (.slice a2 xs.length c2) xs) := HEN.out.all k1
  have HG1 : Hid (Eg w1 b xs) := HEG.out.all k1
  have K1 : Hid (Kept (fun _ => True) w w1) := k1
  obtain ⟨f0, f1, f2, f3, f4, f5⟩ := FB1.out.six
  clear hE hM HEN HEG k1
  go_enter Try.func58, Try.ntmps58
  go_upto_region 1 with fail
  rw [← hw1]
  clear hw1
  go_wp2_with fail
  go_loopw [10] (fun t wr => ∃ i : Nat, i ≤ xs.length ∧ t = .int .i64 i ∧ Tmp wr M (n + i) b (rs ++ (xs.take i).map (·.1.r)) ∧ Kept (· ≠ M) w1 wr) (fun t _ => xs.length - (intOf t).toNat)
  case atStart => exact ⟨0, Nat.zero_le _, rfl, by simpa using HM1.out, Kept.refl _ _⟩
  case round =>
    obtain ⟨i, hi, rfl, ht, hk⟩ := hrel
    have HT : Hid (Tmp wr M (n + i) b (rs ++ (xs.take i).map (·.1.r))) := ht
    have HK : Hid (Kept (· ≠ M) w1 wr) := hk
    clear ht hk
    by_cases hlt : i < xs.length
    · have HMl : Hid (M < w1.heap.size ∧ E < w1.heap.size ∧ E ≠ M) := ⟨Nat.lt_of_lt_of_le HEn.out.2.2 K1.out.size, Nat.lt_of_lt_of_le HEn.out.1 K1.out.size, HEn.out.2.1⟩
      obtain ⟨g, rfl, hg0, hg1, hg2⟩ := HX1.out.some3 (by omega)
      have hgM : g ≠ M := by
        obtain ⟨cs, fr, hc⟩ := HX1.out.block (g := g) rfl
        exact HM1.out.ne hc
      have hor := HO.out _ (List.getElem_mem hlt)
      have hits : Its w1 b (.slice xs[i].2.1 xs[i].1.r.gs.length xs[i].2.2) xs[i].1.r.gs := HG1.out _ (List.getElem_mem hlt)
      have e0 := (kept_cell HK.out hg1 hgM).trans (HX1.out.at i hlt 0 _ rfl)
      have e1 := (kept_cell HK.out hg1 hgM).trans (HX1.out.at i hlt 1 _ rfl)
      have e2 := (kept_cell HK.out hg1 hgM).trans (HX1.out.at i hlt 2 _ rfl)
      have e3 := (kept_cell HK.out hg1 hgM).trans (HX1.out.at i hlt 3 _ rfl)
      have e4 := (kept_cell HK.out hg1 hgM).trans (HX1.out.at i hlt 4 _ rfl)
      have HTK : Hid (xs.take (i + 1) = xs.take i ++ [xs[i]]) := List.take_succ_eq_append_getElem hlt
      have HI : Hid (i < xs.length) := hlt
      have i0 : (0 : Int) ≤ (i : Int) := by omega
      have i1 : (i : Int) < (xs.length : Int) := by omega
      generalize xs[i] = x at *
      obtain ⟨⟨r, ah⟩, ar, car⟩ := x
      simp only at hor hits e0 e1 e2 e3 e4
      change wr.cell? ⟨g, i * 5, none⟩ = _ at e0
      change wr.cell? ⟨g, i * 5 + 1, none⟩ = _ at e1
      change wr.cell? ⟨g, i * 5 + 2, none⟩ = _ at e2
      change wr.cell? ⟨g, i * 5 + 3, none⟩ = _ at e3
      change wr.cell? ⟨g, i * 5 + 4, none⟩ = _ at e4
      have HIT : Hid (Its wr b (.slice ar r.gs.length car) r.gs) := hits.kept HK.out (fun y hy => by
        rcases hits.2 with ⟨q, _⟩ | ⟨g', _, cur, q, _, hgg, _⟩
        · rw [q] at hy; cases hy
        · rw [q] at hy; cases hy; exact HM1.out.ne hgg)
      have HOK : Hid (Okr r) := hor
      clear hits hor
      obtain ⟨w2, hw2⟩ : ∃ x, x = wr.alloc (.cells #[.int .i64 (r.k : Nat), .string ⟨r.tx.toArray⟩, .slice ar r.gs.length car, .string ⟨r.bd.toArray⟩, .int .i64 (ah.val : Nat)] 124) := ⟨_, rfl⟩
      have k2 : Kept (fun _ => True) wr w2 := by rw [hw2]; exact (Kept.refl _ _).alloc _
      have FX2 : Hid (Bk w2 wr.heap.size 124 [.int .i64 (r.k : Nat), .string ⟨r.tx.toArray⟩, .slice ar r.gs.length car, .string ⟨r.bd.toArray⟩, .int .i64 (ah.val : Nat)]) := by rw [hw2]; exact heap_alloc_new wr _
      have FE2 : Hid (Bk w2 E 112 [pv, .map (some M)]) := (HE1.out.kept HK.out HMl.out.2.2).kept k2 trivial
      have HT2 : Hid (Tmp w2 M (n + i) b (rs ++ (xs.take i).map (·.1.r))) := HT.out.kept k2 trivial (fun _ _ _ _ => trivial)
      have HI2 : Hid (Its w2 b (.slice ar r.gs.length car) r.gs) := HIT.out.kept k2 (fun _ _ => trivial)
      have HK2 : Hid (Kept (· ≠ M) w1 w2) := HK.out.trans (k2.mono (fun _ _ _ => trivial))
      have HXl : Hid (w1.heap.size ≤ wr.heap.size ∧ wr.heap.size < w2.heap.size) := ⟨HK.out.size, FX2.out.lt⟩
      clear k2 HT HK HIT HE1 FB1
      go_upto_region 4 with fail
      rw [← hw2]
      clear hw2 e0 e1 e2 e3 e4
      generalize wr.heap.size = X at *
      have hX2 := HXl.out.2
      have hE2 : E < w2.heap.size := FE2.out.lt
      obtain ⟨x0, x1, x2, x3, x4⟩ := FX2.out.five
      obtain ⟨g0, g1'⟩ := FE2.out.two
      have x1A : ∀ W, Kept (fun _ => True) w2 W → W.cell? ⟨X, 1, none⟩ = some (.string ⟨r.tx.toArray⟩) := fun W hW => (kept_cell hW hX2 trivial).trans x1
      have gA : ∀ W, Kept (fun _ => True) w2 W → W.cell? ⟨E, 1, none⟩ = some (.map (some M)) := fun W hW => (kept_cell hW hE2 trivial).trans g1'
      generalize hrs : rs ++ (xs.take i).map (·.1.r) = rsi at *
      obtain ⟨z, hlA, hz⟩ := HT2.out.lookA (tx := r.tx) (by have := HOK.out.2.1; omega)
      have HZ : Hid (Its w2 b (.slice z.a (tel rsi r.tx).gs.length z.c) (tel rsi r.tx).gs) := hz.row
      clear hz
      refine Gz.begin (fun W => Kept (fun _ => True) w2 W) (fun _ => false) (by kernel_rfl) ?_
      refine Gz.tk (i := 0) (oi := ⟨some 14, .move (.tmp 0), 67, _, _, none⟩) (v := ?_) rfl (by kernel_rfl) (fun _ _ _ h => h) (Or.inl ⟨by rfl, ?hy0⟩) (Kept.refl _ _).drew ?_
      case hy0 => (intro W hS; (try dsimp only at hS); go_simp; try with_reducible rfl)
      try simp only [Act.put, lyA, ly0, ly1]
      refine Gz.tk (i := 1) (oi := ⟨some 15, .nilCheck (.tmp 14), 0, _, _, none⟩) (v := ?_) rfl (by kernel_rfl) (fun _ _ _ h => h) (Or.inl ⟨by rfl, ?hy1⟩) (Kept.refl _ _).drew ?_
      case hy1 => (intro W hS; (try dsimp only at hS); go_simp; try with_reducible rfl)
      try simp only [Act.put, lyA, ly0, ly1]
      refine Gz.tk (i := 2) (oi := ⟨some 16, .fieldAddr 112 (.tmp 15) 1, 0, _, _, none⟩) (v := ?_) rfl (by kernel_rfl) (fun _ _ _ h => h) (Or.inl ⟨by rfl, ?hy2⟩) (Kept.refl _ _).drew ?_
      case hy2 => (intro W hS; (try dsimp only at hS); go_simp; try with_reducible rfl)
      try simp only [Act.put, lyA, ly0, ly1]
      refine Gz.tk (i := 3) (oi := ⟨some 17, .load 109 (.tmp 16), 109, _, _, none⟩) (v := ?_) rfl (by kernel_rfl) (fun _ _ _ h => h) (Or.inl ⟨by rfl, ?hy3⟩) (Kept.refl _ _).drew ?_
      case hy3 => (intro W hS; (try dsimp only at hS); go_simp; try with_reducible rfl)
      try simp only [Act.put, lyA, ly0, ly1]
      refine Gz.tk (i := 4) (oi := ⟨some 18, .fieldAddr 124 (.tmp 5) 0, 0, _, _, none⟩) (v := ?_) rfl (by kernel_rfl) (fun _ _ _ h => h) (Or.inl ⟨by rfl, ?hy4⟩) (Kept.refl _ _).drew ?_
      case hy4 => (intro W hS; (try dsimp only at hS); go_simp; try with_reducible rfl)
      try simp only [Act.put, lyA, ly0, ly1]
      refine Gz.tk (i := 5) (oi := ⟨some 19, .fieldAddr 24 (.tmp 18) 1, 0, _, _, none⟩) (v := ?_) rfl (by kernel_rfl) (fun _ _ _ h => h) (Or.inl ⟨by rfl, ?hy5⟩) (Kept.refl _ _).drew ?_
      case hy5 => (intro W hS; (try dsimp only at hS); go_simp; try with_reducible rfl)
      try simp only [Act.put, lyA, ly0, ly1]
      refine Gz.tk (i := 6) (oi := ⟨some 20, .load 9 (.tmp 19), 9, _, _, none⟩) (v := ?_) rfl (by kernel_rfl) (fun _ _ _ h => h) (Or.inl ⟨by rfl, ?hy6⟩) (Kept.refl _ _).drew ?_
      case hy6 => (intro W hS; (try dsimp only at hS); go_simp; try with_reducible rfl)
      try simp only [Act.put, lyA, ly0, ly1]
      refine Gz.tk (i := 7) (oi := ⟨some 21, .lookup 109 (.tmp 17) (.tmp 20) false, 127, _, _, none⟩) (v := ?_) rfl (by kernel_rfl) (fun _ _ _ h => h) (Or.inl ⟨by rfl, ?hy7⟩) (Kept.refl _ _).drew ?_
      case hy7 => (intro W hS; (try dsimp only at hS); go_simp; try with_reducible rfl)
      try simp only [Act.put, lyA, ly0, ly1]
      refine Gz.one (i := 8) (o := ⟨some 6, .alloc 127, 0, _, _, none⟩) (by kernel_rfl) rfl (fun K hK => ?_)
      go_simp
      refine hK.out _ _ (fun hEarly => ((Kept.refl _ _).drew.alloc _)) ?_
      clear hK K
      try simp only [Act.put, lyA, ly0, ly1]
      refine Gz.one (i := 9) (o := ⟨none, .store 127 (.tmp 6) (.tmp 21), 0, _, _, none⟩) (by kernel_rfl) rfl (fun K hK => ?_)
      go_simp
      refine hK.out _ _ (fun hEarly => (by first | exact (Kept.refl _ _).alloc _ | exact ((Kept.refl _ _).alloc _).drew | exact ((Kept.refl _ _).drew.alloc _))) ?_
      clear hK K
      try simp only [Act.put, lyA, ly0, ly1]
      refine Gz.done (by kernel_rfl) ?_ _
      obtain ⟨t, ht⟩ : ∃ t, t = tel rsi r.tx := ⟨_, rfl⟩
      rw [← ht] at HZ ⊢
      have HTl : Hid (t = tel rsi r.tx) := ht
      obtain ⟨w3, hw3⟩ : ∃ x, x = (w2.alloc (.cells #[.int .i64 (t.ks.val : Nat), .slice z.a t.gs.length z.c, .bool t.ap] 127)).drew := ⟨_, rfl⟩
      rw [← hw3]
      have k3 : Kept (fun _ => True) w2 w3 := by rw [hw3]; exact ((Kept.refl _ _).alloc _).drew
      have FT3 : Hid (Bk w3 w2.heap.size 127 [.int .i64 (t.ks.val : Nat), .slice z.a t.gs.length z.c, .bool t.ap]) := by rw [hw3]; exact heap_alloc_new w2 _
      have FX3 : Hid (Bk w3 X 124 [.int .i64 (r.k : Nat), .string ⟨r.tx.toArray⟩, .slice ar r.gs.length car, .string ⟨r.bd.toArray⟩, .int .i64 (ah.val : Nat)]) := FX2.out.kept k3 trivial
      have FE3 : Hid (Bk w3 E 112 [pv, .map (some M)]) := FE2.out.kept k3 trivial
      have HT3 : Hid (Tmp w3 M (n + i) b rsi) := HT2.out.kept k3 trivial (fun _ _ _ _ => trivial)
      have HI3 : Hid (Its w3 b (.slice ar r.gs.length car) r.gs) := HI2.out.kept k3 (fun _ _ => trivial)
      have HZ3 : Hid (Its w3 b (.slice z.a t.gs.length z.c) t.gs) := HZ.out.kept k3 (fun _ _ => trivial)
      have HK3 : Hid (Kept (· ≠ M) w1 w3) := HK2.out.trans (k3.mono (fun _ _ _ => trivial))
      have HTX : Hid (X < w2.heap.size ∧ E < w2.heap.size ∧ w1.heap.size ≤ X ∧ M < w2.heap.size) := ⟨hX2, hE2, HXl.out.1, HT2.out.lt⟩
      clear k3 hlA x1A gA x0 x1 x2 x3 x4 g0 g1' FX2 FE2 HT2 HI2 HZ HK2 HXl hX2 hE2 hw3 ht
      generalize w2.heap.size = T at *
      generalize z.a = za at *
      generalize z.c = zc at *
      have ch : ∀ W, Calls Try.prog 40 #[.int .i64 (t.ks.val : Nat), .int .i64 3] W fun e w' => e = .returned (.bool t.ks.c) ∧ w' = W := fun W => has_any t.ks 3 (by decide)
      have hgl : t.gs.length ≤ 1000000 := by
        have h1 : (tel rsi r.tx).gs.length < 256 := tel_few r.tx rsi Tl.nil (by decide) (fun q hq => by
          rw [← hrs] at hq
          rcases List.mem_append.1 hq with h2 | h2
          · exact (HRS.out q h2).2.2
          · obtain ⟨x, hx, rfl⟩ := List.mem_map.1 h2
            exact (HO.out x (List.mem_of_mem_take hx)).2.2)
        rw [← HTl.out] at h1
        omega
      have ceq := equalI_any (w := w3) (c1 := zc) (c2 := car) HZ3.out.gv HI3.out.gv hgl
      go_upto_region 5 with fail
      go_cut [31] from 22 to 30 (fun v wx => v = .bool (decide (r.k = 3) && !t.ks.c) ∧ w3 = wx)
      case first =>
        obtain ⟨x0, x1, x2, x3, x4⟩ := FX3.out.five
        obtain ⟨t0, t1, t2⟩ := FT3.out.three
        by_cases h3 : r.k = 3
        · have HS1 : Hid ((decide (r.k = 3) && !t.ks.c) = !t.ks.c) := by show _ = _; simp [h3]
          rw [h3] at x0
          have kt : ((3 : Nat) : Int) = 3 := rfl
          rw [kt] at x0
          clear kt h3 ceq hgl
          go_wp2_with (go_at_call 40; (with_reducible refine Calls.mono (ch _) ?_); rintro e w4 ⟨rfl, hw⟩; obtain rfl : w3 = w4 := hw.symm)
          go_meet
          exact ⟨by rw [HS1.out], rfl⟩
        · have HS1 : Hid ((decide (r.k = 3) && !t.ks.c) = false) := by show _ = _; simp [h3]
          have k3 : ((r.k : Int) == 3) = false := by simp only [beq_eq_false_iff_ne]; omega
          clear h3 ceq hgl
          go_wp2
          go_meet
          exact ⟨by rw [HS1.out], rfl⟩
      case rest =>
      obtain ⟨rfl, hwc⟩ := hcut
      subst hwc
      go_upto_if 31 with fail
      go_cut [] from 31 to 49 (fun wx => ∃ a c, Bk wx T 127 [.int .i64 (t.ks.val : Nat), .slice a (t.step r).gs.length c, .bool (t.step r).ap] ∧ Its wx b (.slice a (t.step r).gs.length c) (t.step r).gs ∧ Kept (· ≠ T) w3 wx)
      case first =>
        obtain ⟨x0, x1, x2, x3, x4⟩ := FX3.out.five
        obtain ⟨t0, t1, t2⟩ := FT3.out.three
        have tf := FT3.out.free
        have hTb : b ≤ w3.heap.size := by have := HW.out; have := K1.out.size; have := HK3.out.size; omega
        by_cases h3 : r.k = 3
        · rw [h3] at x0
          have kt : ((3 : Nat) : Int) = 3 := rfl
          rw [kt] at x0
          cases hc : t.ks.c
          · have hif : (decide (r.k = 3) && !false) = true := by simp [h3]
            have hs1 : (t.step r).gs = r.gs := by simp [Tl.step, h3, hc]
            have hs2 : (t.step r).ap = t.ap := by simp [Tl.step, h3, hc]
            have HS1 : Hid _ := hs1
            have HS2 : Hid _ := hs2
            clear hs1 hs2 kt ceq hgl
            rw [hif]
            clear hc hif h3
            go_wp2
            go_meet
            rw [HS1.out, HS2.out]
            exact ⟨ar, car, FT3.out.set 1 _, HI3.out.kept kept_set (fun y hy e => its_ne HI3.out FT3.out (by decide) (by rw [e] at hy; exact hy)), kept_set⟩
          · have hif : (decide (r.k = 3) && !true) = false := by simp
            by_cases hg : t.gs = r.gs
            · have hs1 : (t.step r).gs = t.gs := by simp [Tl.step, h3, hc]
              have hs2 : (t.step r).ap = t.ap := by simp [Tl.step, h3, hc, hg]
              have HS1 : Hid _ := hs1
              have HS2 : Hid _ := hs2
              rw [decide_eq_true hg] at ceq
              rw [hif]
              clear hc hif hs1 hs2 h3 kt hg hgl
              go_wp2_with (first
                | (go_at_call 83; (with_reducible refine Calls.mono ceq ?_); rintro e w5 ⟨rfl, m5, rfl⟩))
              go_meet
              rw [HS1.out, HS2.out]
              exact ⟨za, zc, FT3.out, HZ3.out.kept ((Kept.refl (fun _ => True) _).drewN m5) (fun _ _ => trivial), (Kept.refl _ _).drewN m5⟩
            · have hs1 : (t.step r).gs = t.gs := by simp [Tl.step, h3, hc]
              have hs2 : (t.step r).ap = true := by simp [Tl.step, h3, hc, hg]
              have HS1 : Hid _ := hs1
              have HS2 : Hid _ := hs2
              rw [decide_eq_false hg] at ceq
              rw [hif]
              clear hc hif hs1 hs2 h3 kt hg hgl
              go_wp2_with (first
                | (go_at_call 83; (with_reducible refine Calls.mono ceq ?_); rintro e w5 ⟨rfl, m5, rfl⟩))
              go_meet
              rw [HS1.out, HS2.out]
              refine ⟨za, zc, Bk.set (w := w3.drewN m5) FT3.out 2 _, (HZ3.out.kept ((Kept.refl (fun _ => True) _).drewN m5) (fun _ _ => trivial)).kept kept_set (fun y hy e => its_ne HZ3.out FT3.out (by decide) (by rw [e] at hy; exact hy)), ((Kept.refl _ _).drewN m5).trans kept_set⟩
        · have hs1 : (t.step r).gs = t.gs := by simp [Tl.step, h3]
          have hs2 : (t.step r).ap = t.ap := by simp [Tl.step, h3]
          have HS1 : Hid _ := hs1
          have HS2 : Hid _ := hs2
          have k3 : ((r.k : Int) == 3) = false := by simp only [beq_eq_false_iff_ne]; omega
          rw [show (decide (r.k = 3) && !t.ks.c) = false by simp [h3]]
          clear hs1 hs2 h3 hgl ceq
          go_wp2
          go_meet
          rw [HS1.out, HS2.out]
          exact ⟨za, zc, FT3.out, HZ3.out, Kept.refl _ _⟩
      case rest =>
      obtain ⟨a6, c6, hb6, hi6, hk6⟩ := hcut
      have htx := HTX.out
      have FT6 : Hid (Bk wc T 127 [.int .i64 (t.ks.val : Nat), .slice a6 (t.step r).gs.length c6, .bool (t.step r).ap]) := hb6
      have hne : ∀ y, (∃ cs fr, w3.heap[y]? = some (.cells cs 3 fr)) → y ≠ T := fun y ⟨cs, fr, hc⟩ e => by
        have := FT3.out
        unfold Bk at this
        rw [e, this] at hc
        injection hc with hc
        injection hc with _ hc
        exact absurd hc (by decide)
      have HT6 : Hid (Tmp wc M (n + i) b rsi) := HT3.out.kept hk6 (by omega) (fun y _ _ hy => hne y hy)
      have FX6 : Hid (Bk wc X 124 [.int .i64 (r.k : Nat), .string ⟨r.tx.toArray⟩, .slice ar r.gs.length car, .string ⟨r.bd.toArray⟩, .int .i64 (ah.val : Nat)]) := FX3.out.kept hk6 (by omega)
      have FE6 : Hid (Bk wc E 112 [pv, .map (some M)]) := FE3.out.kept hk6 (by omega)
      have HI6 : Hid (Its wc b (.slice a6 (t.step r).gs.length c6) (t.step r).gs) := hi6
      have HK6 : Hid (Kept (· ≠ M) w1 wc) := HK3.out.then hk6 (fun y hy _ => by omega)
      have hkk := fmd_kind HOK.out.1
      obtain ⟨x0, x1, x2, x3, x4⟩ := FX6.out.five
      obtain ⟨t0, t1, t2⟩ := FT6.out.three
      have tf := FT6.out.free
      clear hb6 hi6 hk6 hne HT3 FX3 FE3 FT3 HI3 HZ3 HK3 ch hgl ceq
      go_upto_region 10 with (go_at_call 39; (with_reducible refine Calls.mono (with_any _ _ hkk) ?_); rintro e w4 ⟨rfl, hw⟩; obtain rfl : wc = w4 := hw.symm)
      obtain ⟨w6, hw6⟩ : ∃ x, x = wc.setCell ⟨T, 0, none⟩ (.int .i64 ((t.ks.put r.k).val : Nat)) := ⟨_, rfl⟩
      rw [← hw6]
      have k6 : Kept (· ≠ T) wc w6 := by rw [hw6]; exact kept_set
      have FT7 := (show Bk w6 T 127 [.int .i64 ((t.ks.put r.k).val : Nat), .slice a6 (t.step r).gs.length c6, .bool (t.step r).ap] by rw [hw6]; exact FT6.out.set 0 _)
      have hne : ∀ y, (∃ cs fr, wc.heap[y]? = some (.cells cs 3 fr)) → y ≠ T := fun y ⟨cs, fr, hc⟩ e => by
        have := FT6.out
        unfold Bk at this
        rw [e, this] at hc
        injection hc with hc
        injection hc with _ hc
        exact absurd hc (by decide)
      have HT7 := HT6.out.kept k6 (by omega) (fun y _ _ hy => hne y hy)
      have FX7 := FX6.out.kept k6 (by omega)
      have FE7 := FE6.out.kept k6 (by omega)
      have HI7 := HI6.out.kept k6 (fun y hy e => its_ne HI6.out FT6.out (by decide) (by rw [e] at hy; exact hy))
      have HK7 : Hid (Kept (· ≠ M) w1 w6) := HK6.out.then k6 (fun y hy _ => by have := HK6.out.size; omega)
      clear x0 x1 x2 x3 x4 t0 t1 t2 tf hw6 k6 hne
      obtain ⟨x0, x1, x2, x3, x4⟩ := FX7.five
      obtain ⟨t0, t1, t2⟩ := FT7.three
      obtain ⟨g0, g1'⟩ := FE7.two
      have kd6 : Kept (fun _ => True) w6 w6.drew := (Kept.refl _ _).drew
      have hT7 : (tel rsi r.tx).step r = t.step r := by rw [← HTl.out]
      obtain ⟨w7, hst, hT8, k8, z8⟩ := (HT7.kept kd6 trivial (fun _ _ _ _ => trivial)).store r (by have := HOK.out.2.1; omega) (by have := HI.out; omega) a6 c6 (by rw [hT7]; exact HI7.kept kd6 (fun _ _ => trivial))
      rw [hT7] at hst
      have hks : (t.step r).ks = t.ks.put r.k := rfl
      rw [hks] at hst
      have HT8 : Hid (Tmp w7 M (n + i + 1) b (rsi ++ [r])) := hT8
      have HK8 : Hid (Kept (· ≠ M) w1 w7) := HK7.out.trans (((Kept.refl (· ≠ M) w6).drew).trans k8)
      have HRS' : Hid (rs ++ (xs.take i).map (·.1.r) = rsi) := hrs
      clear hT8 k8 z8 hT7 hks kd6 HT7 FX7 FE7 HI7 FT7 hrs
      refine Gz.begin (fun W => W = w6.drew) (fun i => decide (i = 8)) (by kernel_rfl) ?_
      refine Gz.tkT (i := 0) (oi := ⟨some 57, .move (.tmp 0), 67, _, _, none⟩) (v := ?_) rfl (by kernel_rfl) (fun _ _ _ h => h) (Or.inl ⟨by rfl, ?hy0⟩) rfl ?_
      case hy0 => (intro W hS; (try dsimp only at hS); go_simp; try with_reducible rfl)
      try simp only [Act.put, lyA, ly0, ly1]
      refine Gz.tkT (i := 1) (oi := ⟨some 58, .nilCheck (.tmp 57), 0, _, _, none⟩) (v := ?_) rfl (by kernel_rfl) (fun _ _ _ h => h) (Or.inl ⟨by rfl, ?hy1⟩) rfl ?_
      case hy1 => (intro W hS; (try dsimp only at hS); go_simp; try with_reducible rfl)
      try simp only [Act.put, lyA, ly0, ly1]
      refine Gz.tkT (i := 2) (oi := ⟨some 59, .fieldAddr 112 (.tmp 58) 1, 0, _, _, none⟩) (v := ?_) rfl (by kernel_rfl) (fun _ _ _ h => h) (Or.inl ⟨by rfl, ?hy2⟩) rfl ?_
      case hy2 => (intro W hS; (try dsimp only at hS); go_simp; try with_reducible rfl)
      try simp only [Act.put, lyA, ly0, ly1]
      refine Gz.tkT (i := 3) (oi := ⟨some 60, .load 109 (.tmp 59), 109, _, _, none⟩) (v := ?_) rfl (by kernel_rfl) (fun _ _ _ h => h) (Or.inl ⟨by rfl, ?hy3⟩) rfl ?_
      case hy3 => (intro W hS; (try dsimp only at hS); go_simp; try with_reducible rfl)
      try simp only [Act.put, lyA, ly0, ly1]
      refine Gz.tkT (i := 4) (oi := ⟨some 61, .fieldAddr 124 (.tmp 5) 0, 0, _, _, none⟩) (v := ?_) rfl (by kernel_rfl) (fun _ _ _ h => h) (Or.inl ⟨by rfl, ?hy4⟩) rfl ?_
      case hy4 => (intro W hS; (try dsimp only at hS); go_simp; try with_reducible rfl)
      try simp only [Act.put, lyA, ly0, ly1]
      refine Gz.tkT (i := 5) (oi := ⟨some 62, .fieldAddr 24 (.tmp 61) 1, 0, _, _, none⟩) (v := ?_) rfl (by kernel_rfl) (fun _ _ _ h => h) (Or.inl ⟨by rfl, ?hy5⟩) rfl ?_
      case hy5 => (intro W hS; (try dsimp only at hS); go_simp; try with_reducible rfl)
      try simp only [Act.put, lyA, ly0, ly1]
      refine Gz.tkT (i := 6) (oi := ⟨some 63, .load 9 (.tmp 62), 9, _, _, none⟩) (v := ?_) rfl (by kernel_rfl) (fun _ _ _ h => h) (Or.inl ⟨by rfl, ?hy6⟩) rfl ?_
      case hy6 => (intro W hS; (try dsimp only at hS); go_simp; try with_reducible rfl)
      try simp only [Act.put, lyA, ly0, ly1]
      refine Gz.tkT (i := 7) (oi := ⟨some 64, .load 127 (.tmp 6), 127, _, _, none⟩) (v := ?_) rfl (by kernel_rfl) (fun _ _ _ h => h) (Or.inl ⟨by rfl, ?hy7⟩) rfl ?_
      case hy7 => (intro W hS; (try dsimp only at hS); go_simp; try with_reducible rfl)
      try simp only [Act.put, lyA, ly0, ly1]
      refine Gz.one (i := 8) (o := ⟨none, .mapUpdate 109 (.tmp 60) (.tmp 63) (.tmp 64), 0, _, _, none⟩) (by kernel_rfl) rfl (fun K hK => ?_)
      go_simp
      refine hK.out _ _ (fun hEarly => by cases hEarly) ?_
      clear hK K
      try simp only [Act.put, lyA, ly0, ly1]
      refine Gz.done (by kernel_rfl) ?_ _
      go_wp2_with fail
      go_roundw
      case rel =>
        refine ⟨i + 1, by have := HI.out; omega, by go_num, ?_, HK8.out⟩
        rw [HTK.out, List.map_append, ← List.append_assoc, HRS'.out]
        exact HT8.out
      case measure => have := HI.out; simp [intOf]; omega
    · obtain rfl : i = xs.length := by omega
      have i1 : ¬ ((xs.length : Nat) : Int) < (xs.length : Int) := by omega
      go_wp2_with fail
      go_end0
      refine ⟨rfl, ?_, (K1.out.mono (fun _ _ _ => trivial)).trans HK.out⟩
      have := HT.out
      rwa [List.take_length] at this

end Go.Proofs.Ytmcaoimgmgjjiaa
