/-
  Texts of the proofs, 25 of 52.
-/
import Derived.Test.YtmcaoimgmgjjiaaWX
import Derived.Test.YtmcaoimgmgjjiaaWP
import Derived.Test.YtmcaoimgmgjjiaaWE
namespace Go.Proofs.Ytmcaoimgmgjjiaa
open Go.RowKit Go.Maps Go.Sort

theorem pre_cons {x : Li} {xs ys : List Li} : pre (x :: xs) (x :: ys) ↔ pre xs ys := by
  unfold pre
  rw [List.length_cons, List.length_cons, Nat.succ_min_succ, List.take_succ_cons, List.take_succ_cons, List.cons.injEq]
  simp
theorem first_diff : ∀ (xs ys : List Li), ¬ pre xs ys → ∃ (k : Nat) (h1 : k < xs.length) (h2 : k < ys.length), xs[k] ≠ ys[k] ∧ xs.take k = ys.take k
  | [], ys, h => absurd (by unfold pre; simp) h
  | x :: xs, [], h => absurd (by unfold pre; simp) h
  | x :: xs, y :: ys, h => by
    by_cases e : x = y
    · subst e
      obtain ⟨k, h1, h2, h3, h4⟩ := first_diff xs ys (fun q => h (pre_cons.2 q))
      refine ⟨k + 1, by simpa using h1, by simpa using h2, by simpa using h3, ?_⟩
      rw [List.take_succ_cons, List.take_succ_cons, h4]
    · exact ⟨0, by simp, by simp, by simpa using e, rfl⟩
def IsU (pq : List (Up × Ua)) (p : Up) (z : Int) : Prop :=
  (p.lo = -1 ∧ z = -1) ∨ ∃ (o : Nat) (h : o < pq.length), p.lo = (o : Int) ∧ ((pre p.ls pq[o].1.ls ∧ z = -1) ∨ (¬ pre p.ls pq[o].1.ls ∧ ∃ (k : Nat) (h1 : k < p.ls.length) (h2 : k < pq[o].1.ls.length), z = k ∧ p.ls[k] ≠ pq[o].1.ls[k] ∧ p.ls.take k = pq[o].1.ls.take k))

theorem take_eq {xs ys : List Li} {k j : Nat} (h : xs.take k = ys.take k) (hj : j < k) (h1 : j < xs.length) (h2 : j < ys.length) : xs[j] = ys[j] := by
  have e := congrArg (fun l => l[j]?) h
  simpa [List.getElem?_take, hj, h1, h2] using e

set_option maxRecDepth 100000 in
set_option maxHeartbeats 4000000 in
theorem rule3_any {w : World} {E M n b : Nat} {pq : List (Up × Ua)} {ap : Option Addr} {cp : Nat} (h : GE w E M n b pq ap cp) (i : Nat) (hi : i < pq.length) (hlo : pq[i].1.lo = -1 ∨ ∃ o : Nat, o < pq.length ∧ pq[i].1.lo = (o : Int)) (hfew : ∀ x ∈ pq, x.1.ls.length ≤ 4096) :
    Calls Try.prog 30 #[.pointer (some ⟨E, 0, none⟩), .int .i64 i] w fun e w' => (∃ z, e = .returned (.int .i64 z) ∧ IsU pq pq[i].1 z) ∧ Kept (fun _ => True) w w' := by
  obtain ⟨w1, hw1⟩ : ∃ x, x = w.alloc (.cells #[.int .i64 pq[i].1.g, .slice pq[i].2.a1 pq[i].1.ls.length pq[i].2.c1, .int .i64 pq[i].1.y, .int .i64 pq[i].1.z, .slice pq[i].2.a2 pq[i].1.es.length pq[i].2.c2, .int .i64 pq[i].1.lo] 116) := ⟨_, rfl⟩
  have k1 : Kept (fun _ => True) w w1 := by rw [hw1]; exact (Kept.refl _ _).alloc _
  have FB : Bk w1 w.heap.size 116 [.int .i64 pq[i].1.g, .slice pq[i].2.a1 pq[i].1.ls.length pq[i].2.c1, .int .i64 pq[i].1.y, .int .i64 pq[i].1.z, .slice pq[i].2.a2 pq[i].1.es.length pq[i].2.c2, .int .i64 pq[i].1.lo] := by rw [hw1]; exact heap_alloc_new w _
  obtain ⟨g, rfl, hg, c0, c1, c2, c3, c4, c5⟩ := h.page i hi
  obtain ⟨g0, g1⟩ := h.self.two
  have i0 : (0 : Int) ≤ (i : Int) := by omega
  have i1 : (i : Int) < (pq.length : Int) := by omega
  have HG : Hid (GE w1 E M n b pq (some ⟨g, 0, none⟩) cp) := h.all k1
  have KA : Hid (Kept (fun _ => True) w w1) := k1
  have HLo := hlo
  have HFw : Hid (∀ x ∈ pq, x.1.ls.length ≤ 4096) := hfew
  have HP : Hid (Pgv w1 b pq[i].1 pq[i].2) := HG.out.pgs _ (List.getElem_mem hi)
  have hxl : pq[i].1.ls.length ≤ 4096 := hfew _ (List.getElem_mem hi)
  clear h k1 hlo hfew
  generalize pq[i] = pqi at *
  obtain ⟨p, q⟩ := pqi
  simp only at *
  rcases HLo with hl | ⟨o, ho, hl⟩
  · have HR : Hid (IsU pq p (-1)) := .inl ⟨hl, rfl⟩
    rw [hl] at FB c5 hw1
    obtain ⟨x0, x1, x2, x3, x4, x5⟩ := FB.six
    clear hl
    go_enter Try.func30, Try.ntmps30
    go_upto_region 2 with fail
    rw [← hw1]
    clear hw1
    go_wp2
    go_ret
    exact ⟨⟨_, rfl, HR.out⟩, KA.out⟩
  · rw [hl] at FB c5 hw1
    obtain ⟨x0, x1, x2, x3, x4, x5⟩ := FB.six
    obtain ⟨g', e', hg1, d0, d1, d2, d3, d4, d5⟩ := HG.out.page o ho
    injection e' with e'
    injection e' with e'
    subst e'
    obtain ⟨ge0, ge1⟩ := HG.out.self.two
    have hel := HG.out.self.lt
    have hbl := FB.lt
    have x5A : ∀ W, Kept (fun _ => True) w1 W → W.cell? ⟨w.heap.size, 5, none⟩ = some (.int .i64 (o : Int)) := fun W k => (kept_cell k hbl trivial).trans x5
    have eA : ∀ W, Kept (fun _ => True) w1 W → W.cell? ⟨E, 0, none⟩ = some (.slice (some ⟨g, 0, none⟩) pq.length cp) := fun W k => (kept_cell k hel trivial).trans ge0
    have d0A := fun (W : World) (k : Kept (fun _ => True) w1 W) => (kept_cell k hg1 trivial).trans d0
    have d1A := fun (W : World) (k : Kept (fun _ => True) w1 W) => (kept_cell k hg1 trivial).trans d1
    have d2A := fun (W : World) (k : Kept (fun _ => True) w1 W) => (kept_cell k hg1 trivial).trans d2
    have d3A := fun (W : World) (k : Kept (fun _ => True) w1 W) => (kept_cell k hg1 trivial).trans d3
    have d4A := fun (W : World) (k : Kept (fun _ => True) w1 W) => (kept_cell k hg1 trivial).trans d4
    have d5A := fun (W : World) (k : Kept (fun _ => True) w1 W) => (kept_cell k hg1 trivial).trans d5
    have HPo : Hid (Pgv w1 b pq[o].1 pq[o].2) := HG.out.pgs _ (List.getElem_mem ho)
    have hyl : pq[o].1.ls.length ≤ 4096 := HFw.out _ (List.getElem_mem ho)
    have HR : Hid (∀ z, ((pre p.ls pq[o].1.ls ∧ z = -1) ∨ (¬ pre p.ls pq[o].1.ls ∧ ∃ (k : Nat) (h1 : k < p.ls.length) (h2 : k < pq[o].1.ls.length), z = (k : Int) ∧ p.ls[k] ≠ pq[o].1.ls[k] ∧ p.ls.take k = pq[o].1.ls.take k)) → IsU pq p z) := fun z hz => .inr ⟨o, ho, hl, hz⟩
    have o0 : (0 : Int) ≤ (o : Int) := by omega
    have o1 : (o : Int) < (pq.length : Int) := by omega
    have on : ((o : Int) == -1) = false := by simp only [beq_eq_false_iff_ne]; omega
    clear hl ge0 ge1 hel d0 d1 d2 d3 d4 d5
    generalize pq[o] = po at *
    obtain ⟨p2, q2⟩ := po
    simp only at *
    go_enter Try.func30, Try.ntmps30
    go_upto_region 2 with fail
    rw [← hw1]
    clear hw1 c0 c1 c2 c3 c4 c5 g0 g1
    generalize w.heap.size = B at *
    go_upto_region 4 with fail
    refine Gz.begin (fun W => Kept (fun _ => True) w1 W) (fun _ => false) (by kernel_rfl) ?_
    refine Gz.tk (i := 0) (oi := ⟨some 18, .move (.tmp 0), 67, _, _, none⟩) (v := ?_) rfl (by kernel_rfl) (fun _ _ _ h => h) (Or.inl ⟨by rfl, ?hy0⟩) (Kept.refl _ _).drew ?_
    case hy0 => (intro W hS; (try dsimp only at hS); go_simp; try with_reducible rfl)
    try simp only [Act.put, lyA, ly0, ly1]
    refine Gz.tk (i := 1) (oi := ⟨some 19, .nilCheck (.tmp 18), 0, _, _, none⟩) (v := ?_) rfl (by kernel_rfl) (fun _ _ _ h => h) (Or.inl ⟨by rfl, ?hy1⟩) (Kept.refl _ _).drew ?_
    case hy1 => (intro W hS; (try dsimp only at hS); go_simp; try with_reducible rfl)
    try simp only [Act.put, lyA, ly0, ly1]
    refine Gz.tk (i := 2) (oi := ⟨some 20, .fieldAddr 112 (.tmp 19) 0, 0, _, _, none⟩) (v := ?_) rfl (by kernel_rfl) (fun _ _ _ h => h) (Or.inl ⟨by rfl, ?hy2⟩) (Kept.refl _ _).drew ?_
    case hy2 => (intro W hS; (try dsimp only at hS); go_simp; try with_reducible rfl)
    try simp only [Act.put, lyA, ly0, ly1]
    refine Gz.tk (i := 3) (oi := ⟨some 21, .load 110 (.tmp 20), 110, _, _, none⟩) (v := ?_) rfl (by kernel_rfl) (fun _ _ _ h => h) (Or.inl ⟨by rfl, ?hy3⟩) (Kept.refl _ _).drew ?_
    case hy3 => (intro W hS; (try dsimp only at hS); go_simp; try with_reducible rfl)
    try simp only [Act.put, lyA, ly0, ly1]
    refine Gz.tk (i := 4) (oi := ⟨some 22, .fieldAddr 116 (.tmp 5) 5, 0, _, _, none⟩) (v := ?_) rfl (by kernel_rfl) (fun _ _ _ h => h) (Or.inl ⟨by rfl, ?hy4⟩) (Kept.refl _ _).drew ?_
    case hy4 => (intro W hS; (try dsimp only at hS); go_simp; try with_reducible rfl)
    try simp only [Act.put, lyA, ly0, ly1]
    refine Gz.tk (i := 5) (oi := ⟨some 23, .load 3 (.tmp 22), 3, _, _, none⟩) (v := ?_) rfl (by kernel_rfl) (fun _ _ _ h => h) (Or.inl ⟨by rfl, ?hy5⟩) (Kept.refl _ _).drew ?_
    case hy5 => (intro W hS; (try dsimp only at hS); go_simp; try with_reducible rfl)
    try simp only [Act.put, lyA, ly0, ly1]
    refine Gz.tk (i := 6) (oi := ⟨some 24, .indexAddr 110 (.tmp 21) (.tmp 23), 0, _, _, none⟩) (v := ?_) rfl (by kernel_rfl) (fun _ _ _ h => h) (Or.inl ⟨by rfl, ?hy6⟩) (Kept.refl _ _).drew ?_
    case hy6 => (intro W hS; (try dsimp only at hS); go_simp; try with_reducible rfl)
    try simp only [Act.put, lyA, ly0, ly1]
    refine Gz.tk (i := 7) (oi := ⟨some 25, .load 116 (.tmp 24), 116, _, _, none⟩) (v := ?_) rfl (by kernel_rfl) (fun _ _ _ h => h) (Or.inl ⟨by rfl, ?hy7⟩) (Kept.refl _ _).drew ?_
    case hy7 => (intro W hS; (try dsimp only at hS); go_simp; try with_reducible rfl)
    try simp only [Act.put, lyA, ly0, ly1]
    refine Gz.one (i := 8) (o := ⟨some 6, .alloc 116, 0, _, _, none⟩) (by kernel_rfl) rfl (fun K hK => ?_)
    go_simp
    refine hK.out _ _ (fun hEarly => ((Kept.refl _ _).drew.alloc _)) ?_
    clear hK K
    try simp only [Act.put, lyA, ly0, ly1]
    refine Gz.one (i := 9) (o := ⟨none, .store 116 (.tmp 6) (.tmp 25), 0, _, _, none⟩) (by kernel_rfl) rfl (fun K hK => ?_)
    go_simp
    refine hK.out _ _ (fun hEarly => (by first | exact (Kept.refl _ _).alloc _ | exact ((Kept.refl _ _).alloc _).drew | exact ((Kept.refl _ _).drew.alloc _))) ?_
    clear hK K
    try simp only [Act.put, lyA, ly0, ly1]
    refine Gz.done (by kernel_rfl) ?_ _
    obtain ⟨w3, hw3⟩ : ∃ x, x = (w1.alloc (.cells #[.int .i64 p2.g, .slice q2.a1 p2.ls.length q2.c1, .int .i64 p2.y, .int .i64 p2.z, .slice q2.a2 p2.es.length q2.c2, .int .i64 p2.lo] 116)).drew := ⟨_, rfl⟩
    rw [← hw3]
    have k3 : Kept (fun _ => True) w1 w3 := by rw [hw3]; exact ((Kept.refl _ _).alloc _).drew
    have FQ : Bk w3 w1.heap.size 116 [.int .i64 p2.g, .slice q2.a1 p2.ls.length q2.c1, .int .i64 p2.y, .int .i64 p2.z, .slice q2.a2 p2.es.length q2.c2, .int .i64 p2.lo] := by rw [hw3]; exact heap_alloc_new w1 _
    have FB3 := FB.kept k3 trivial
    obtain ⟨x0, x1, x2, x3, x4, x5⟩ := FB3.six
    obtain ⟨y0, y1, y2, y3, y4, y5⟩ := FQ.six
    have hBl := FB3.lt
    have hQl := FQ.lt
    have hL1 := HP.out.links.all k3
    have hL2 := HPo.out.links.all k3
    have cap1 : p.ls.length ≤ q.c1 := by
      obtain ⟨_, _, e0, h1, _⟩ := hL1.shape
      injection e0 with e1 e2 e3
      subst e3
      exact h1
    have cap2 : p2.ls.length ≤ q2.c1 := by
      obtain ⟨_, _, e0, h1, _⟩ := hL2.shape
      injection e0 with e1 e2 e3
      subst e3
      exact h1
    have cp := prefix_any (c1 := q.c1) (c2 := q2.c1) hL1.view hL2.view (by omega) (by omega) cap1 cap2
    have HL1 : Hid (Lo 121 w3 b (.slice q.a1 p.ls.length q.c1) p.ls) := hL1
    have HL2 : Hid (Lo 121 w3 b (.slice q2.a1 p2.ls.length q2.c1) p2.ls) := hL2
    have KB : Hid (Kept (fun _ => True) w w3) := KA.out.trans k3
    have x1A : ∀ W, Kept (fun _ => True) w3 W → W.cell? ⟨B, 1, none⟩ = some (.slice q.a1 p.ls.length q.c1) := fun W k => (kept_cell k hBl trivial).trans x1
    have y1A : ∀ W, Kept (fun _ => True) w3 W → W.cell? ⟨w1.heap.size, 1, none⟩ = some (.slice q2.a1 p2.ls.length q2.c1) := fun W k => (kept_cell k hQl trivial).trans y1
    clear hw3 k3 FB FB3 FQ hL1 hL2 cap1 cap2 eA x5A d0A d1A d2A d3A d4A d5A HG KA HFw HP HPo hbl hBl hQl
    generalize w1.heap.size = Q at *
    by_cases hpre : pre p.ls p2.ls
    · have HZ : Hid (IsU pq p (-1)) := HR.out _ (.inl ⟨hpre, rfl⟩)
      go_wp2_with (go_at_call 59; (with_reducible refine Calls.mono cp ?_); rintro e w4 ⟨bb, rfl, hbb, k4⟩; obtain rfl : bb = true := hbb.2 hpre)
      go_ret
      exact ⟨⟨_, rfl, HZ.out⟩, KB.out.trans k4⟩
    · obtain ⟨K, h1, h2, hne, htk⟩ := first_diff _ _ hpre
      have HZ : Hid (IsU pq p (K : Int)) := HR.out _ (.inr ⟨hpre, K, h1, h2, rfl, hne, htk⟩)
      have HTK : Hid (p.ls.take K = p2.ls.take K) := htk
      have HNE : Hid (p.ls[K] ≠ p2.ls[K]) := hne
      have HPN : Hid (¬ pre p.ls p2.ls) := hpre
      clear hpre hne htk HR
      go_wp2_with (go_at_call 59; (with_reducible refine Calls.mono cp ?_); rintro e w4 ⟨bb, rfl, hbb, k4⟩; obtain rfl : bb = false := Bool.eq_false_iff.2 (fun q => HPN.out (hbb.1 q)); have K4 : Hid (Kept (fun _ => True) w3 w4) := k4; clear hbb k4)
      clear cp
      go_loopw [7] (fun t wr => ∃ k : Nat, k ≤ K ∧ t = .int .i64 k ∧ Kept (fun _ => True) w4 wr) (fun t _ => K + 1 - (intOf t).toNat)
      case atStart => exact ⟨0, Nat.zero_le _, rfl, Kept.refl _ _⟩
      case round =>
        obtain ⟨k, hk, rfl, hkr⟩ := hrel
        have hk3 : Kept (fun _ => True) w3 wr := K4.out.trans hkr
        have e1 : k < p.ls.length := by omega
        have e2 : k < p2.ls.length := by omega
        have HKR : Hid (Kept (fun _ => True) w4 wr) := hkr
        have x1B : ∀ W, Kept (fun _ => True) wr W → W.cell? ⟨B, 1, none⟩ = some (.slice q.a1 p.ls.length q.c1) := fun W k => x1A W (hk3.trans k)
        have y1B : ∀ W, Kept (fun _ => True) wr W → W.cell? ⟨Q, 1, none⟩ = some (.slice q2.a1 p2.ls.length q2.c1) := fun W k => y1A W (hk3.trans k)
        obtain ⟨gx, ex, _, hgx, _⟩ := (HL1.out.all hk3).some3 (by omega)
        obtain ⟨gy, ey, _, hgy, _⟩ := (HL2.out.all hk3).some3 (by omega)
        have hra : wr.rangeAt gx (k * 33) (lcell p.ls[k]) := by
          obtain ⟨_, _, e3, _, hv⟩ := (HL1.out.all hk3).view.row (by omega)
          rw [ex] at e3
          injection e3 with e3
          injection e3 with e31 e32 e33
          subst e31 e32
          have h4 := hv k e1
          rwa [Nat.zero_add] at h4
        have hrb : wr.rangeAt gy (k * 33) (lcell p2.ls[k]) := by
          obtain ⟨_, _, e3, _, hv⟩ := (HL2.out.all hk3).view.row (by omega)
          rw [ey] at e3
          injection e3 with e3
          injection e3 with e31 e32 e33
          subst e31 e32
          have h4 := hv k e2
          rwa [Nat.zero_add] at h4
        rw [ex] at x1B
        rw [ey] at y1B
        have heq := fun (w0 : World) => eqP p.ls[k] p2.ls[k] w0
        have HI : Hid (k ≤ K) := hk
        have j0 : (0 : Int) ≤ (k : Int) := by omega
        have j1 : (k : Int) < (p.ls.length : Int) := by omega
        have j2 : (k : Int) < (p2.ls.length : Int) := by omega
        have hgd := guardP
        have hK9 : K ≤ 100000 := by omega
        clear hkr hk3
        by_cases hkK : k = K
        · subst hkK
          have hf : (p.ls[k].t == p2.ls[k].t && p.ls[k].h == p2.ls[k].h) = false := by
            cases hq : (p.ls[k].t == p2.ls[k].t && p.ls[k].h == p2.ls[k].h)
            · rfl
            · exact absurd (li_beq.1 hq) HNE.out
          rw [hf] at heq
          have ix : (Try.prog.info? 121).map (·.size) = some (lcell p.ls[k]).length := by rw [lcell_length]; exact linkP.size
          have iy : (Try.prog.info? 121).map (·.size) = some (lcell p2.ls[k]).length := by rw [lcell_length]; exact linkP.size
          clear hf HNE hk
          generalize p.ls[k] = xk at *
          generalize p2.ls[k] = yk at *
          clear h1 h2 e1 e2
          go_wp2_with fail
          refine Gz.begin (fun W => Kept (fun _ => True) wr W) (fun _ => false) (by kernel_rfl) ?_
          refine Gz.tk (i := 0) (oi := ⟨some 31, .fieldAddr 116 (.tmp 5) 1, 0, _, _, none⟩) (v := ?_) rfl (by kernel_rfl) (fun _ _ _ h => h) (Or.inl ⟨by rfl, ?hy0⟩) (Kept.refl _ _).drew ?_
          case hy0 => (intro W hS; (try dsimp only at hS); go_simp; try with_reducible rfl)
          try simp only [Act.put, lyA, ly0, ly1]
          refine Gz.tk (i := 1) (oi := ⟨some 32, .load 83 (.tmp 31), 83, _, _, none⟩) (v := ?_) rfl (by kernel_rfl) (fun _ _ _ h => h) (Or.inl ⟨by rfl, ?hy1⟩) (Kept.refl _ _).drew ?_
          case hy1 => (intro W hS; (try dsimp only at hS); go_simp; try with_reducible rfl)
          try simp only [Act.put, lyA, ly0, ly1]
          refine Gz.tk (i := 2) (oi := ⟨some 33, .move (.tmp 7), 3, _, _, none⟩) (v := ?_) rfl (by kernel_rfl) (fun _ _ _ h => h) (Or.inl ⟨by rfl, ?hy2⟩) (Kept.refl _ _).drew ?_
          case hy2 => (intro W hS; (try dsimp only at hS); go_simp; try with_reducible rfl)
          try simp only [Act.put, lyA, ly0, ly1]
          refine Gz.tk (i := 3) (oi := ⟨some 34, .indexAddr 83 (.tmp 32) (.tmp 33), 0, _, _, none⟩) (v := ?_) rfl (by kernel_rfl) (fun _ _ _ h => h) (Or.inl ⟨by rfl, ?hy3⟩) (Kept.refl _ _).drew ?_
          case hy3 => (intro W hS; (try dsimp only at hS); go_simp; try with_reducible rfl)
          try simp only [Act.put, lyA, ly0, ly1]
          refine Gz.tk (i := 4) (oi := ⟨some 35, .load 121 (.tmp 34), 121, _, _, none⟩) (v := _) rfl (by kernel_rfl) (fun _ _ _ h => h) (yieldsIf_load_mid (by rfl) _ _ rfl (gx) (k * 33) rfl (lcell xk) _ (fun W hW => range_kept hra hW hgx trivial) Try.underlying121 rfl (ix)) (Kept.refl _ _).drew ?_
          try simp only [Act.put, lyA, ly0, ly1]
          refine Gz.tk (i := 5) (oi := ⟨some 36, .fieldAddr 116 (.tmp 6) 1, 0, _, _, none⟩) (v := ?_) rfl (by kernel_rfl) (fun _ _ _ h => h) (Or.inl ⟨by rfl, ?hy5⟩) (Kept.refl _ _).drew ?_
          case hy5 => (intro W hS; (try dsimp only at hS); go_simp; try with_reducible rfl)
          try simp only [Act.put, lyA, ly0, ly1]
          refine Gz.tk (i := 6) (oi := ⟨some 37, .load 83 (.tmp 36), 83, _, _, none⟩) (v := ?_) rfl (by kernel_rfl) (fun _ _ _ h => h) (Or.inl ⟨by rfl, ?hy6⟩) (Kept.refl _ _).drew ?_
          case hy6 => (intro W hS; (try dsimp only at hS); go_simp; try with_reducible rfl)
          try simp only [Act.put, lyA, ly0, ly1]
          refine Gz.tk (i := 7) (oi := ⟨some 38, .move (.tmp 7), 3, _, _, none⟩) (v := ?_) rfl (by kernel_rfl) (fun _ _ _ h => h) (Or.inl ⟨by rfl, ?hy7⟩) (Kept.refl _ _).drew ?_
          case hy7 => (intro W hS; (try dsimp only at hS); go_simp; try with_reducible rfl)
          try simp only [Act.put, lyA, ly0, ly1]
          refine Gz.tk (i := 8) (oi := ⟨some 39, .indexAddr 83 (.tmp 37) (.tmp 38), 0, _, _, none⟩) (v := ?_) rfl (by kernel_rfl) (fun _ _ _ h => h) (Or.inl ⟨by rfl, ?hy8⟩) (Kept.refl _ _).drew ?_
          case hy8 => (intro W hS; (try dsimp only at hS); go_simp; try with_reducible rfl)
          try simp only [Act.put, lyA, ly0, ly1]
          refine Gz.tk (i := 9) (oi := ⟨some 40, .load 121 (.tmp 39), 121, _, _, none⟩) (v := _) rfl (by kernel_rfl) (fun _ _ _ h => h) (yieldsIf_load_mid (by rfl) _ _ rfl (gy) (k * 33) rfl (lcell yk) _ (fun W hW => range_kept hrb hW hgy trivial) Try.underlying121 rfl (iy)) (Kept.refl _ _).drew ?_
          try simp only [Act.put, lyA, ly0, ly1]
          refine Gz.tk (i := 10) (oi := ⟨some 41, .binOp BinOp.eql 121 (.tmp 35) (.tmp 40) 121, 4, _, _, none⟩) (v := ?_) rfl (by kernel_rfl) (fun _ _ _ h => h) (Or.inl ⟨by rfl, ?hy10⟩) (Kept.refl _ _).drew ?_
          case hy10 => (intro W hS; (try dsimp only at hS); go_simp; try with_reducible rfl)
          try simp only [Act.put, lyA, ly0, ly1]
          refine Gz.done (by kernel_rfl) ?_ _
          go_wp2_with fail
          go_ret
          exact ⟨⟨_, rfl, HZ.out⟩, KB.out.trans (K4.out.trans HKR.out.drew)⟩
        · have hlt : k < K := by omega
          have hxy : p.ls[k] = p2.ls[k] := take_eq HTK.out hlt e1 e2
          have hf : (p.ls[k].t == p2.ls[k].t && p.ls[k].h == p2.ls[k].h) = true := li_beq.2 hxy
          rw [hf] at heq
          have ix : (Try.prog.info? 121).map (·.size) = some (lcell p.ls[k]).length := by rw [lcell_length]; exact linkP.size
          have iy : (Try.prog.info? 121).map (·.size) = some (lcell p2.ls[k]).length := by rw [lcell_length]; exact linkP.size
          have HLT : Hid (k < K) := hlt
          clear hf hxy hk hkK hlt
          generalize p.ls[k] = xk at *
          generalize p2.ls[k] = yk at *
          clear e1 e2
          go_wp2_with fail
          refine Gz.begin (fun W => Kept (fun _ => True) wr W) (fun _ => false) (by kernel_rfl) ?_
          refine Gz.tk (i := 0) (oi := ⟨some 31, .fieldAddr 116 (.tmp 5) 1, 0, _, _, none⟩) (v := ?_) rfl (by kernel_rfl) (fun _ _ _ h => h) (Or.inl ⟨by rfl, ?hy0⟩) (Kept.refl _ _).drew ?_
          case hy0 => (intro W hS; (try dsimp only at hS); go_simp; try with_reducible rfl)
          try simp only [Act.put, lyA, ly0, ly1]
          refine Gz.tk (i := 1) (oi := ⟨some 32, .load 83 (.tmp 31), 83, _, _, none⟩) (v := ?_) rfl (by kernel_rfl) (fun _ _ _ h => h) (Or.inl ⟨by rfl, ?hy1⟩) (Kept.refl _ _).drew ?_
          case hy1 => (intro W hS; (try dsimp only at hS); go_simp; try with_reducible rfl)
          try simp only [Act.put, lyA, ly0, ly1]
          refine Gz.tk (i := 2) (oi := ⟨some 33, .move (.tmp 7), 3, _, _, none⟩) (v := ?_) rfl (by kernel_rfl) (fun _ _ _ h => h) (Or.inl ⟨by rfl, ?hy2⟩) (Kept.refl _ _).drew ?_
          case hy2 => (intro W hS; (try dsimp only at hS); go_simp; try with_reducible rfl)
          try simp only [Act.put, lyA, ly0, ly1]
          refine Gz.tk (i := 3) (oi := ⟨some 34, .indexAddr 83 (.tmp 32) (.tmp 33), 0, _, _, none⟩) (v := ?_) rfl (by kernel_rfl) (fun _ _ _ h => h) (Or.inl ⟨by rfl, ?hy3⟩) (Kept.refl _ _).drew ?_
          case hy3 => (intro W hS; (try dsimp only at hS); go_simp; try with_reducible rfl)
          try simp only [Act.put, lyA, ly0, ly1]
          refine Gz.tk (i := 4) (oi := ⟨some 35, .load 121 (.tmp 34), 121, _, _, none⟩) (v := _) rfl (by kernel_rfl) (fun _ _ _ h => h) (yieldsIf_load_mid (by rfl) _ _ rfl (gx) (k * 33) rfl (lcell xk) _ (fun W hW => range_kept hra hW hgx trivial) Try.underlying121 rfl (ix)) (Kept.refl _ _).drew ?_
          try simp only [Act.put, lyA, ly0, ly1]
          refine Gz.tk (i := 5) (oi := ⟨some 36, .fieldAddr 116 (.tmp 6) 1, 0, _, _, none⟩) (v := ?_) rfl (by kernel_rfl) (fun _ _ _ h => h) (Or.inl ⟨by rfl, ?hy5⟩) (Kept.refl _ _).drew ?_
          case hy5 => (intro W hS; (try dsimp only at hS); go_simp; try with_reducible rfl)
          try simp only [Act.put, lyA, ly0, ly1]
          refine Gz.tk (i := 6) (oi := ⟨some 37, .load 83 (.tmp 36), 83, _, _, none⟩) (v := ?_) rfl (by kernel_rfl) (fun _ _ _ h => h) (Or.inl ⟨by rfl, ?hy6⟩) (Kept.refl _ _).drew ?_
          case hy6 => (intro W hS; (try dsimp only at hS); go_simp; try with_reducible rfl)
          try simp only [Act.put, lyA, ly0, ly1]
          refine Gz.tk (i := 7) (oi := ⟨some 38, .move (.tmp 7), 3, _, _, none⟩) (v := ?_) rfl (by kernel_rfl) (fun _ _ _ h => h) (Or.inl ⟨by rfl, ?hy7⟩) (Kept.refl _ _).drew ?_
          case hy7 => (intro W hS; (try dsimp only at hS); go_simp; try with_reducible rfl)
          try simp only [Act.put, lyA, ly0, ly1]
          refine Gz.tk (i := 8) (oi := ⟨some 39, .indexAddr 83 (.tmp 37) (.tmp 38), 0, _, _, none⟩) (v := ?_) rfl (by kernel_rfl) (fun _ _ _ h => h) (Or.inl ⟨by rfl, ?hy8⟩) (Kept.refl _ _).drew ?_
          case hy8 => (intro W hS; (try dsimp only at hS); go_simp; try with_reducible rfl)
          try simp only [Act.put, lyA, ly0, ly1]
          refine Gz.tk (i := 9) (oi := ⟨some 40, .load 121 (.tmp 39), 121, _, _, none⟩) (v := _) rfl (by kernel_rfl) (fun _ _ _ h => h) (yieldsIf_load_mid (by rfl) _ _ rfl (gy) (k * 33) rfl (lcell yk) _ (fun W hW => range_kept hrb hW hgy trivial) Try.underlying121 rfl (iy)) (Kept.refl _ _).drew ?_
          try simp only [Act.put, lyA, ly0, ly1]
          refine Gz.tk (i := 10) (oi := ⟨some 41, .binOp BinOp.eql 121 (.tmp 35) (.tmp 40) 121, 4, _, _, none⟩) (v := ?_) rfl (by kernel_rfl) (fun _ _ _ h => h) (Or.inl ⟨by rfl, ?hy10⟩) (Kept.refl _ _).drew ?_
          case hy10 => (intro W hS; (try dsimp only at hS); go_simp; try with_reducible rfl)
          try simp only [Act.put, lyA, ly0, ly1]
          refine Gz.done (by kernel_rfl) ?_ _
          go_wp2_with fail
          go_roundw
          case rel => exact ⟨k + 1, HLT.out, by go_num, HKR.out.drew⟩
          case measure => have := HLT.out; simp [intOf]; omega

end Go.Proofs.Ytmcaoimgmgjjiaa
