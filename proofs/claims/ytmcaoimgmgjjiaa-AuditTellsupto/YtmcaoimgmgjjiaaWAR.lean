/-
  Texts of the proofs, 44 of 52.
-/
import Derived.Test.YtmcaoimgmgjjiaaWAQ
namespace Go.Proofs.Ytmcaoimgmgjjiaa
open Go.RowKit Go.Maps Go.Sort

def Df (a b : List Li) (p : Nat) : Prop := p < a.length ∧ p < b.length ∧ a[p]? ≠ b[p]?
def Bst (a : List Li) (lk : Nat → List Li) (same : Nat → Prop) (n : Nat) (z : Int) : Prop :=
  (z = -1 ∧ ∀ k, k < n → same k → ∀ p, ¬ Df a (lk k) p) ∨ ∃ q : Nat, z = q ∧ (∃ k, k < n ∧ same k ∧ Df a (lk k) q) ∧ ∀ k, k < n → same k → ∀ p, p < q → ¬ Df a (lk k) p
section
variable {a : List Li} {lk : Nat → List Li} {same : Nat → Prop} {n : Nat} {z : Int}
theorem Bst.skip (h : Bst a lk same n z) (hs : same n → ∀ p, ¬ Df a (lk n) p) : Bst a lk same (n + 1) z := by
  rcases h with ⟨rfl, h⟩ | ⟨q, rfl, ⟨k, h1, h2, h3⟩, h4⟩
  · refine .inl ⟨rfl, fun k hk hsk => ?_⟩
    by_cases e : k = n
    · subst e; exact hs hsk
    · exact h k (by omega) hsk
  · refine .inr ⟨q, rfl, ⟨k, by omega, h2, h3⟩, fun k' hk' hsk p hp => ?_⟩
    by_cases e : k' = n
    · subst e; exact hs hsk p
    · exact h4 k' (by omega) hsk p hp
theorem Bst.less {q : Nat} (h : Bst a lk same n z) (hs : same n) (hd : Df a (lk n) q) (hn : ∀ p, p < q → ¬ Df a (lk n) p) (hz : z < 0 ∨ (q : Int) < z) : Bst a lk same (n + 1) q := by
  refine .inr ⟨q, rfl, ⟨n, by omega, hs, hd⟩, fun k' hk' hsk p hp => ?_⟩
  by_cases e : k' = n
  · subst e; exact hn p hp
  · rcases h with ⟨rfl, h⟩ | ⟨q', rfl, _, h4⟩
    · exact h k' (by omega) hsk p
    · exact h4 k' (by omega) hsk p (by omega)
theorem Bst.more {q : Nat} (h : Bst a lk same n z) (hn : ∀ p, p < q → ¬ Df a (lk n) p) (hz : ¬ z < 0 ∧ ¬ (q : Int) < z) : Bst a lk same (n + 1) z := by
  rcases h with ⟨rfl, h⟩ | ⟨q', rfl, ⟨k, h1, h2, h3⟩, h4⟩
  · omega
  · refine .inr ⟨q', rfl, ⟨k, by omega, h2, h3⟩, fun k' hk' hsk p hp => ?_⟩
    by_cases e : k' = n
    · subst e; exact hn p (by omega)
    · exact h4 k' (by omega) hsk p hp
theorem Bst.low (h : Bst a lk same n z) : -1 ≤ z ∧ z ≤ (a.length : Int) := by
  rcases h with ⟨rfl, _⟩ | ⟨q, rfl, ⟨_, _, _, h3⟩, _⟩
  · omega
  · have := h3.1
    omega
end
def lkO (xs : List Rk) (k : Nat) : List Li := (xs[k]?.map (·.ls)).getD []
def samO (cl : List Uc) (i k : Nat) : Prop := cl[k]?.map (·.g) = cl[i]?.map (·.g)

set_option maxRecDepth 100000 in
set_option maxHeartbeats 4000000 in
theorem breaks3_any {w : World} {al ak : Option Addr} {c0 ck : Nat} {cl : List Uc} {xs : List Rk} (hcv : Cv w al cl) (h : Rkv w ak xs) (hlen : cl.length = xs.length) (i : Nat) (hi : i < xs.length) (hfew : ∀ x ∈ xs, x.ls.length ≤ 4096) (hxl : xs.length ≤ 1000) :
    Calls Try.prog 36 #[.slice al cl.length c0, .slice ak xs.length ck, .int .i64 3, .int .i64 i] w fun e w' => (∃ z, e = .returned (.int .i64 z) ∧ Bst xs[i].ls (lkO xs) (samO cl i) i z) ∧ Kept (fun _ => True) w w' := by
  obtain ⟨b, off, rfl, cLi, cRi⟩ := h.two i hi
  clear cRi
  obtain ⟨bc, oc, rfl, hbc, hcc⟩ := hcv.vw.row (by omega)
  have hic : i < cl.length := by omega
  have gi : ∀ W, Kept (fun _ => True) w W → W.cell? ⟨bc, oc + i * 2, none⟩ = some (.int .i64 cl[i].g) := fun W q => (kept_cell q hbc trivial).trans (hcc i hic 0 _ rfl)
  have HX : Hid (Rkv w (some ⟨b, off, none⟩) xs) := h
  have HCC : Hid (∀ k (hk : k < cl.length) W, Kept (fun _ => True) w W → W.cell? ⟨bc, oc + k * 2, none⟩ = some (.int .i64 cl[k].g)) := fun k hk W q => (kept_cell q hbc trivial).trans (hcc k hk 0 _ rfl)
  have HLI : Hid (Lv w xs[i].aL xs[i].ls) := h.ls _ (List.getElem_mem hi)
  have HSM : Hid (∀ k (hk : k < cl.length), samO cl i k ↔ cl[k].g = cl[i].g) := fun k hk => by
    unfold samO
    rw [List.getElem?_eq_getElem hk, List.getElem?_eq_getElem hic]
    simp
  have HLK : Hid (∀ k (hk : k < xs.length), lkO xs k = xs[k].ls) := fun k hk => by
    unfold lkO
    rw [List.getElem?_eq_getElem hk]
    rfl
  have HFW : Hid (∀ x ∈ xs, x.ls.length ≤ 4096) := hfew
  have i0 : (0 : Int) ≤ (i : Int) := by omega
  have i1 : (i : Int) < (xs.length : Int) := by omega
  have i2 : (i : Int) < (cl.length : Int) := by omega
  have HLE : Hid (cl.length = xs.length ∧ i < xs.length) := ⟨hlen, hi⟩
  have hAl : xs[i].ls.length ≤ 4096 := hfew _ (List.getElem_mem hi)
  have hgd := guardR
  clear h hcv hcc hfew hlen
  generalize cl[i].g = gI at *
  generalize xs[i].ls = A at *
  generalize xs[i].aL = aI at *
  generalize xs[i].cL = cI at *
  clear hi hic
  go_enter Try.func36, Try.ntmps36
  go_wp2_with fail
  go_loopw [9, 10] (fun v t wr => ∃ (k : Nat) (z : Int), k ≤ i ∧ t = .int .i64 k ∧ v = .int .i64 z ∧ Bst A (lkO xs) (samO cl i) k z ∧ Kept (fun _ => True) w wr) (fun _ t _ => i - (intOf t).toNat)
  case atStart => exact ⟨0, -1, Nat.zero_le _, rfl, rfl, .inl ⟨rfl, fun k hk => by omega⟩, Kept.refl _ _⟩
  case round =>
    obtain ⟨k, z, hk, rfl, rfl, hB, hkr⟩ := hrel
    obtain ⟨wK, hwK⟩ : ∃ y, y = wr := ⟨_, rfl⟩
    rw [← hwK] at hkr ⊢
    clear hwK
    have HB : Hid (Bst A (lkO xs) (samO cl i) k z) := hB
    have HKr : Hid (Kept (fun _ => True) w wK) := hkr
    have hzl := hB.low
    clear hB
    by_cases hlt : k < i
    · have hkx : k < xs.length := by have := HLE.out; omega
      have hkc : k < cl.length := by have := HLE.out; omega
      have gk : ∀ W, Kept (fun _ => True) wK W → W.cell? ⟨bc, oc + k * 2, none⟩ = some (.int .i64 cl[k].g) := fun W q => HCC.out k hkc W (hkr.trans q)
      have gi' : ∀ W, Kept (fun _ => True) wK W → W.cell? ⟨bc, oc + i * 2, none⟩ = some (.int .i64 gI) := fun W q => gi W (hkr.trans q)
      have HS : Hid (samO cl i k ↔ cl[k].g = gI) := HSM.out k hkc
      obtain ⟨b', off', e', cLk, cRk⟩ := (HX.out.all hkr).two k hkx
      injection e' with e'
      injection e' with e1' e2'
      subst e1' e2'
      have HVk : Hid (Lv wK xs[k].aL xs[k].ls) := (HX.out.all hkr).ls _ (List.getElem_mem hkx)
      have HVi : Hid (Lv wK aI A) := HLI.out.all hkr
      have HLk : Hid (lkO xs k = xs[k].ls) := HLK.out k hkx
      have cLi' : ∀ W, Kept (fun _ => True) wK W → W.cell? ⟨b, off + i * 2, none⟩ = some (.slice aI A.length cI) := fun W q => cLi W (hkr.trans q)
      have hCl : xs[k].ls.length ≤ 4096 := HFW.out _ (List.getElem_mem hkx)
      have HI : Hid (k < i) := hlt
      have l0 : (0 : Int) ≤ (k : Int) := by omega
      have l1 : (k : Int) < (xs.length : Int) := by omega
      have l2 : (k : Int) < (cl.length : Int) := by omega
      have l3 : (k : Int) < (i : Int) := by omega
      have l4 : k < xs.length := hkx
      have l5 : k < cl.length := hkc
      have l6 : i < xs.length := HLE.out.2
      have l7 : i < cl.length := by have := HLE.out; omega
      clear cRk hk hkr
      generalize cl[k].g = gK at *
      generalize xs[k].ls = C at *
      generalize xs[k].aL = aK at *
      generalize xs[k].cL = cK at *
      clear hkx hkc hlt
      by_cases hg : gK = gI
      · have hne : (gK != gI) = false := bne_eq_false_iff_eq.2 hg
        have HSame : Hid (samO cl i k) := HS.out.2 hg
        clear hg
        go_wp2_with fail
        refine Gz.begin (fun W => Kept (fun _ => True) wK W) (fun _ => false) (by kernel_rfl) ?_
        refine Gz.tk (i := 0) (oi := ⟨some 21, .move (.tmp 0), 39, _, _, none⟩) (v := ?_) rfl (by kernel_rfl) (fun _ _ _ h => h) (Or.inl ⟨by rfl, ?hy0⟩) (Kept.refl _ _).drew ?_
        case hy0 => (intro W hS; (try dsimp only at hS); go_simp; try with_reducible rfl)
        try simp only [Act.put, lyA, ly0, ly1]
        refine Gz.tk (i := 1) (oi := ⟨some 22, .move (.tmp 10), 3, _, _, none⟩) (v := ?_) rfl (by kernel_rfl) (fun _ _ _ h => h) (Or.inl ⟨by rfl, ?hy1⟩) (Kept.refl _ _).drew ?_
        case hy1 => (intro W hS; (try dsimp only at hS); go_simp; try with_reducible rfl)
        try simp only [Act.put, lyA, ly0, ly1]
        refine Gz.tk (i := 2) (oi := ⟨some 23, .indexAddr 39 (.tmp 21) (.tmp 22), 0, _, _, none⟩) (v := ?_) rfl (by kernel_rfl) (fun _ _ _ h => h) (Or.inl ⟨by rfl, ?hy2⟩) (Kept.refl _ _).drew ?_
        case hy2 => (intro W hS; (try dsimp only at hS); go_simp; try with_reducible rfl)
        try simp only [Act.put, lyA, ly0, ly1]
        refine Gz.tk (i := 3) (oi := ⟨some 24, .fieldAddr 74 (.tmp 23) 0, 0, _, _, none⟩) (v := ?_) rfl (by kernel_rfl) (fun _ _ _ h => h) (Or.inl ⟨by rfl, ?hy3⟩) (Kept.refl _ _).drew ?_
        case hy3 => (intro W hS; (try dsimp only at hS); go_simp; try with_reducible rfl)
        try simp only [Act.put, lyA, ly0, ly1]
        refine Gz.tk (i := 4) (oi := ⟨some 25, .load 3 (.tmp 24), 3, _, _, none⟩) (v := ?_) rfl (by kernel_rfl) (fun _ _ _ h => h) (Or.inl ⟨by rfl, ?hy4⟩) (Kept.refl _ _).drew ?_
        case hy4 => (intro W hS; (try dsimp only at hS); go_simp; try with_reducible rfl)
        try simp only [Act.put, lyA, ly0, ly1]
        refine Gz.tk (i := 5) (oi := ⟨some 26, .move (.tmp 0), 39, _, _, none⟩) (v := ?_) rfl (by kernel_rfl) (fun _ _ _ h => h) (Or.inl ⟨by rfl, ?hy5⟩) (Kept.refl _ _).drew ?_
        case hy5 => (intro W hS; (try dsimp only at hS); go_simp; try with_reducible rfl)
        try simp only [Act.put, lyA, ly0, ly1]
        refine Gz.tk (i := 6) (oi := ⟨some 27, .move (.tmp 3), 3, _, _, none⟩) (v := ?_) rfl (by kernel_rfl) (fun _ _ _ h => h) (Or.inl ⟨by rfl, ?hy6⟩) (Kept.refl _ _).drew ?_
        case hy6 => (intro W hS; (try dsimp only at hS); go_simp; try with_reducible rfl)
        try simp only [Act.put, lyA, ly0, ly1]
        refine Gz.tk (i := 7) (oi := ⟨some 28, .indexAddr 39 (.tmp 26) (.tmp 27), 0, _, _, none⟩) (v := ?_) rfl (by kernel_rfl) (fun _ _ _ h => h) (Or.inl ⟨by rfl, ?hy7⟩) (Kept.refl _ _).drew ?_
        case hy7 => (intro W hS; (try dsimp only at hS); go_simp; try with_reducible rfl)
        try simp only [Act.put, lyA, ly0, ly1]
        refine Gz.tk (i := 8) (oi := ⟨some 29, .fieldAddr 74 (.tmp 28) 0, 0, _, _, none⟩) (v := ?_) rfl (by kernel_rfl) (fun _ _ _ h => h) (Or.inl ⟨by rfl, ?hy8⟩) (Kept.refl _ _).drew ?_
        case hy8 => (intro W hS; (try dsimp only at hS); go_simp; try with_reducible rfl)
        try simp only [Act.put, lyA, ly0, ly1]
        refine Gz.tk (i := 9) (oi := ⟨some 30, .load 3 (.tmp 29), 3, _, _, none⟩) (v := ?_) rfl (by kernel_rfl) (fun _ _ _ h => h) (Or.inl ⟨by rfl, ?hy9⟩) (Kept.refl _ _).drew ?_
        case hy9 => (intro W hS; (try dsimp only at hS); go_simp; try with_reducible rfl)
        try simp only [Act.put, lyA, ly0, ly1]
        refine Gz.tk (i := 10) (oi := ⟨some 31, .binOp BinOp.neq 3 (.tmp 25) (.tmp 30) 3, 4, _, _, none⟩) (v := ?_) rfl (by kernel_rfl) (fun _ _ _ h => h) (Or.inl ⟨by rfl, ?hy10⟩) (Kept.refl _ _).drew ?_
        case hy10 => (intro W hS; (try dsimp only at hS); go_simp; try with_reducible rfl)
        try simp only [Act.put, lyA, ly0, ly1]
        refine Gz.done (by kernel_rfl) ?_ _
        go_wp2_with fail
        obtain ⟨wM, hwM⟩ : ∃ y, y = wK.drew := ⟨_, rfl⟩
        have kM : Kept (fun _ => True) wK wM := by rw [hwM]; exact (Kept.refl _ _).drew
        rw [← hwM]
        clear hwM
        go_loopw [9, 11] (fun v t wr => ∃ q : Nat, q ≤ A.length ∧ t = .int .i64 q ∧ v = .int .i64 z ∧ (∀ p, p < q → ¬ Df A C p) ∧ Kept (fun _ => True) wM wr) (fun _ t _ => A.length - (intOf t).toNat)
        case atStart => exact ⟨0, Nat.zero_le _, rfl, rfl, fun p hp => by omega, Kept.refl _ _⟩
        case round =>
          obtain ⟨q, hq, rfl, rfl, hnd, hkq⟩ := hrel
          obtain ⟨wQ, hwQ⟩ : ∃ y, y = wr := ⟨_, rfl⟩
          rw [← hwQ] at hkq ⊢
          clear hwQ
          have HND : Hid (∀ p, p < q → ¬ Df A C p) := hnd
          have kQ : Kept (fun _ => True) wK wQ := kM.trans hkq
          have HKQ : Hid (Kept (fun _ => True) w wQ) := HKr.out.trans kQ
          have HKMQ : Hid (Kept (fun _ => True) wM wQ) := hkq
          have cI1 := cLi' wQ kQ
          have cK1 := cLk wQ kQ
          clear hnd
          by_cases hqa : q < A.length
          · by_cases hqc : q < C.length
            · obtain ⟨b1, o1, rfl, hb1, hr1⟩ := HVi.out.row (by omega)
              obtain ⟨b2, o2, rfl, hb2, hr2⟩ := HVk.out.row (by omega)
              have HR1 : Hid (wQ.rangeAt b1 (o1 + q * 33) (lcell A[q])) := range_kept (hr1 q hqa) kQ hb1 trivial
              have HR2 : Hid (wQ.rangeAt b2 (o2 + q * 33) (lcell C[q])) := range_kept (hr2 q hqc) kQ hb2 trivial
              replace hb1 := Nat.lt_of_lt_of_le hb1 kQ.size
              replace hb2 := Nat.lt_of_lt_of_le hb2 kQ.size
              have cI2 : ∀ W, Kept (fun _ => True) wQ W → W.cell? ⟨b, off + i * 2, none⟩ = some (.slice (some ⟨b1, o1, none⟩) A.length cI) := fun W t => cLi' W (kQ.trans t)
              have cK2 : ∀ W, Kept (fun _ => True) wQ W → W.cell? ⟨b, off + k * 2, none⟩ = some (.slice (some ⟨b2, o2, none⟩) C.length cK) := fun W t => cLk W (kQ.trans t)
              have q0 : (0 : Int) ≤ (q : Int) := by omega
              have q1 : (q : Int) < (A.length : Int) := by omega
              have q2 : (q : Int) < (C.length : Int) := by omega
              have he := fun (w0 : World) => eqR A[q] C[q] w0
              have hN : Hid ((A[q].t == C[q].t && A[q].h == C[q].h) = true ↔ A[q] = C[q]) := li_beq
              have ix : (Try.prog.info? 80).map (·.size) = some (lcell A[q]).length := by rw [linkR.size, lcell_length]
              have iy : (Try.prog.info? 80).map (·.size) = some (lcell C[q]).length := by rw [linkR.size, lcell_length]
              have HDf : Hid (¬ A[q] = C[q] → Df A C q) := fun hne => ⟨hqa, hqc, by rw [List.getElem?_eq_getElem hqa, List.getElem?_eq_getElem hqc]; exact fun e => hne (Option.some.inj e)⟩
              have HNd : Hid (A[q] = C[q] → ¬ Df A C q) := fun heq hd => hd.2.2 (by rw [List.getElem?_eq_getElem hqa, List.getElem?_eq_getElem hqc, heq])
              have HQI : Hid (q < A.length) := hqa
              have l8 : q < A.length := hqa
              have l9 : q < C.length := hqc
              clear hr1 hr2 hq hkq
              generalize A[q] = x at *
              generalize C[q] = y at *
              cases hxy : (x.t == y.t && x.h == y.h)
              · have HDq : Hid (Df A C q) := HDf.out (fun e => by have := hN.out.2 e; rw [hxy] at this; cases this)
                rw [hxy] at he
                clear hxy hqa hqc
                go_wp2_with fail
                refine Gz.begin (fun W => Kept (fun _ => True) wQ W) (fun _ => false) (by kernel_rfl) ?_
                refine Gz.tk (i := 0) (oi := ⟨some 52, .move (.tmp 1), 71, _, _, none⟩) (v := ?_) rfl (by kernel_rfl) (fun _ _ _ h => h) (Or.inl ⟨by rfl, ?hy0⟩) (Kept.refl _ _).drew ?_
                case hy0 => (intro W hS; (try dsimp only at hS); go_simp; try with_reducible rfl)
                try simp only [Act.put, lyA, ly0, ly1]
                refine Gz.tk (i := 1) (oi := ⟨some 53, .move (.tmp 3), 3, _, _, none⟩) (v := ?_) rfl (by kernel_rfl) (fun _ _ _ h => h) (Or.inl ⟨by rfl, ?hy1⟩) (Kept.refl _ _).drew ?_
                case hy1 => (intro W hS; (try dsimp only at hS); go_simp; try with_reducible rfl)
                try simp only [Act.put, lyA, ly0, ly1]
                refine Gz.tk (i := 2) (oi := ⟨some 54, .indexAddr 71 (.tmp 52) (.tmp 53), 0, _, _, none⟩) (v := ?_) rfl (by kernel_rfl) (fun _ _ _ h => h) (Or.inl ⟨by rfl, ?hy2⟩) (Kept.refl _ _).drew ?_
                case hy2 => (intro W hS; (try dsimp only at hS); go_simp; try with_reducible rfl)
                try simp only [Act.put, lyA, ly0, ly1]
                refine Gz.tk (i := 3) (oi := ⟨some 55, .fieldAddr 77 (.tmp 54) 0, 0, _, _, none⟩) (v := ?_) rfl (by kernel_rfl) (fun _ _ _ h => h) (Or.inl ⟨by rfl, ?hy3⟩) (Kept.refl _ _).drew ?_
                case hy3 => (intro W hS; (try dsimp only at hS); go_simp; try with_reducible rfl)
                try simp only [Act.put, lyA, ly0, ly1]
                refine Gz.tk (i := 4) (oi := ⟨some 56, .load 65 (.tmp 55), 65, _, _, none⟩) (v := ?_) rfl (by kernel_rfl) (fun _ _ _ h => h) (Or.inl ⟨by rfl, ?hy4⟩) (Kept.refl _ _).drew ?_
                case hy4 => (intro W hS; (try dsimp only at hS); go_simp; try with_reducible rfl)
                try simp only [Act.put, lyA, ly0, ly1]
                refine Gz.tk (i := 5) (oi := ⟨some 57, .move (.tmp 11), 3, _, _, none⟩) (v := ?_) rfl (by kernel_rfl) (fun _ _ _ h => h) (Or.inl ⟨by rfl, ?hy5⟩) (Kept.refl _ _).drew ?_
                case hy5 => (intro W hS; (try dsimp only at hS); go_simp; try with_reducible rfl)
                try simp only [Act.put, lyA, ly0, ly1]
                refine Gz.tk (i := 6) (oi := ⟨some 58, .indexAddr 65 (.tmp 56) (.tmp 57), 0, _, _, none⟩) (v := ?_) rfl (by kernel_rfl) (fun _ _ _ h => h) (Or.inl ⟨by rfl, ?hy6⟩) (Kept.refl _ _).drew ?_
                case hy6 => (intro W hS; (try dsimp only at hS); go_simp; try with_reducible rfl)
                try simp only [Act.put, lyA, ly0, ly1]
                refine Gz.tk (i := 7) (oi := ⟨some 59, .load 80 (.tmp 58), 80, _, _, none⟩) (v := _) rfl (by kernel_rfl) (fun _ _ _ h => h) (yieldsIf_load_mid (by rfl) _ _ rfl (b1) (o1 + q * 33) rfl (lcell x) _ (fun W hW => range_kept HR1.out hW hb1 trivial) Try.underlying80 rfl (ix)) (Kept.refl _ _).drew ?_
                try simp only [Act.put, lyA, ly0, ly1]
                refine Gz.tk (i := 8) (oi := ⟨some 60, .move (.tmp 1), 71, _, _, none⟩) (v := ?_) rfl (by kernel_rfl) (fun _ _ _ h => h) (Or.inl ⟨by rfl, ?hy8⟩) (Kept.refl _ _).drew ?_
                case hy8 => (intro W hS; (try dsimp only at hS); go_simp; try with_reducible rfl)
                try simp only [Act.put, lyA, ly0, ly1]
                refine Gz.tk (i := 9) (oi := ⟨some 61, .move (.tmp 10), 3, _, _, none⟩) (v := ?_) rfl (by kernel_rfl) (fun _ _ _ h => h) (Or.inl ⟨by rfl, ?hy9⟩) (Kept.refl _ _).drew ?_
                case hy9 => (intro W hS; (try dsimp only at hS); go_simp; try with_reducible rfl)
                try simp only [Act.put, lyA, ly0, ly1]
                refine Gz.tk (i := 10) (oi := ⟨some 62, .indexAddr 71 (.tmp 60) (.tmp 61), 0, _, _, none⟩) (v := ?_) rfl (by kernel_rfl) (fun _ _ _ h => h) (Or.inl ⟨by rfl, ?hy10⟩) (Kept.refl _ _).drew ?_
                case hy10 => (intro W hS; (try dsimp only at hS); go_simp; try with_reducible rfl)
                try simp only [Act.put, lyA, ly0, ly1]
                refine Gz.tk (i := 11) (oi := ⟨some 63, .fieldAddr 77 (.tmp 62) 0, 0, _, _, none⟩) (v := ?_) rfl (by kernel_rfl) (fun _ _ _ h => h) (Or.inl ⟨by rfl, ?hy11⟩) (Kept.refl _ _).drew ?_
                case hy11 => (intro W hS; (try dsimp only at hS); go_simp; try with_reducible rfl)
                try simp only [Act.put, lyA, ly0, ly1]
                refine Gz.tk (i := 12) (oi := ⟨some 64, .load 65 (.tmp 63), 65, _, _, none⟩) (v := ?_) rfl (by kernel_rfl) (fun _ _ _ h => h) (Or.inl ⟨by rfl, ?hy12⟩) (Kept.refl _ _).drew ?_
                case hy12 => (intro W hS; (try dsimp only at hS); go_simp; try with_reducible rfl)
                try simp only [Act.put, lyA, ly0, ly1]
                refine Gz.tk (i := 13) (oi := ⟨some 65, .move (.tmp 11), 3, _, _, none⟩) (v := ?_) rfl (by kernel_rfl) (fun _ _ _ h => h) (Or.inl ⟨by rfl, ?hy13⟩) (Kept.refl _ _).drew ?_
                case hy13 => (intro W hS; (try dsimp only at hS); go_simp; try with_reducible rfl)
                try simp only [Act.put, lyA, ly0, ly1]
                refine Gz.tk (i := 14) (oi := ⟨some 66, .indexAddr 65 (.tmp 64) (.tmp 65), 0, _, _, none⟩) (v := ?_) rfl (by kernel_rfl) (fun _ _ _ h => h) (Or.inl ⟨by rfl, ?hy14⟩) (Kept.refl _ _).drew ?_
                case hy14 => (intro W hS; (try dsimp only at hS); go_simp; try with_reducible rfl)
                try simp only [Act.put, lyA, ly0, ly1]
                refine Gz.tk (i := 15) (oi := ⟨some 67, .load 80 (.tmp 66), 80, _, _, none⟩) (v := _) rfl (by kernel_rfl) (fun _ _ _ h => h) (yieldsIf_load_mid (by rfl) _ _ rfl (b2) (o2 + q * 33) rfl (lcell y) _ (fun W hW => range_kept HR2.out hW hb2 trivial) Try.underlying80 rfl (iy)) (Kept.refl _ _).drew ?_
                try simp only [Act.put, lyA, ly0, ly1]
                refine Gz.tk (i := 16) (oi := ⟨some 68, .binOp BinOp.neq 80 (.tmp 59) (.tmp 67) 80, 4, _, _, none⟩) (v := ?_) rfl (by kernel_rfl) (fun _ _ _ h => h) (Or.inl ⟨by rfl, ?hy16⟩) (Kept.refl _ _).drew ?_
                case hy16 => (intro W hS; (try dsimp only at hS); go_simp; try with_reducible rfl)
                try simp only [Act.put, lyA, ly0, ly1]
                refine Gz.done (by kernel_rfl) ?_ _
                by_cases hz1 : z < 0
                · have HBn : Hid (Bst A (lkO xs) (samO cl i) (k + 1) q) := HB.out.less HSame.out (by rw [HLk.out]; exact HDq.out) (by rw [HLk.out]; exact HND.out) (.inl hz1)
                  go_wp2_with fail
                  go_roundw
                  case rel => first | exact ⟨k + 1, q, by have := HI.out; omega, by go_num, rfl, HBn.out, HKQ.out.drew⟩ | exact ⟨k + 1, by have := HI.out; omega, by go_num, HBn.out, HKQ.out.drew⟩
                  case measure => have := HI.out; simp [intOf]; omega
                · by_cases hz2 : (q : Int) < z
                  · have HBn : Hid (Bst A (lkO xs) (samO cl i) (k + 1) q) := HB.out.less HSame.out (by rw [HLk.out]; exact HDq.out) (by rw [HLk.out]; exact HND.out) (.inr hz2)
                    go_wp2_with fail
                    go_roundw
                    case rel => first | exact ⟨k + 1, q, by have := HI.out; omega, by go_num, rfl, HBn.out, HKQ.out.drew⟩ | exact ⟨k + 1, by have := HI.out; omega, by go_num, HBn.out, HKQ.out.drew⟩
                    case measure => have := HI.out; simp [intOf]; omega
                  · have HBn : Hid (Bst A (lkO xs) (samO cl i) (k + 1) z) := HB.out.more (q := q) (by rw [HLk.out]; exact HND.out) ⟨hz1, hz2⟩
                    go_wp2_with fail
                    go_roundw
                    case rel => first | exact ⟨k + 1, z, by have := HI.out; omega, by go_num, rfl, HBn.out, HKQ.out.drew⟩ | exact ⟨k + 1, by have := HI.out; omega, by go_num, HBn.out, HKQ.out.drew⟩
                    case measure => have := HI.out; simp [intOf]; omega
              · have HEq : Hid (¬ Df A C q) := HNd.out (hN.out.1 hxy)
                rw [hxy] at he
                clear hxy hqa hqc
                go_wp2_with fail
                refine Gz.begin (fun W => Kept (fun _ => True) wQ W) (fun _ => false) (by kernel_rfl) ?_
                refine Gz.tk (i := 0) (oi := ⟨some 52, .move (.tmp 1), 71, _, _, none⟩) (v := ?_) rfl (by kernel_rfl) (fun _ _ _ h => h) (Or.inl ⟨by rfl, ?hy0⟩) (Kept.refl _ _).drew ?_
                case hy0 => (intro W hS; (try dsimp only at hS); go_simp; try with_reducible rfl)
                try simp only [Act.put, lyA, ly0, ly1]
                refine Gz.tk (i := 1) (oi := ⟨some 53, .move (.tmp 3), 3, _, _, none⟩) (v := ?_) rfl (by kernel_rfl) (fun _ _ _ h => h) (Or.inl ⟨by rfl, ?hy1⟩) (Kept.refl _ _).drew ?_
                case hy1 => (intro W hS; (try dsimp only at hS); go_simp; try with_reducible rfl)
                try simp only [Act.put, lyA, ly0, ly1]
                refine Gz.tk (i := 2) (oi := ⟨some 54, .indexAddr 71 (.tmp 52) (.tmp 53), 0, _, _, none⟩) (v := ?_) rfl (by kernel_rfl) (fun _ _ _ h => h) (Or.inl ⟨by rfl, ?hy2⟩) (Kept.refl _ _).drew ?_
                case hy2 => (intro W hS; (try dsimp only at hS); go_simp; try with_reducible rfl)
                try simp only [Act.put, lyA, ly0, ly1]
                refine Gz.tk (i := 3) (oi := ⟨some 55, .fieldAddr 77 (.tmp 54) 0, 0, _, _, none⟩) (v := ?_) rfl (by kernel_rfl) (fun _ _ _ h => h) (Or.inl ⟨by rfl, ?hy3⟩) (Kept.refl _ _).drew ?_
                case hy3 => (intro W hS; (try dsimp only at hS); go_simp; try with_reducible rfl)
                try simp only [Act.put, lyA, ly0, ly1]
                refine Gz.tk (i := 4) (oi := ⟨some 56, .load 65 (.tmp 55), 65, _, _, none⟩) (v := ?_) rfl (by kernel_rfl) (fun _ _ _ h => h) (Or.inl ⟨by rfl, ?hy4⟩) (Kept.refl _ _).drew ?_
                case hy4 => (intro W hS; (try dsimp only at hS); go_simp; try with_reducible rfl)
                try simp only [Act.put, lyA, ly0, ly1]
                refine Gz.tk (i := 5) (oi := ⟨some 57, .move (.tmp 11), 3, _, _, none⟩) (v := ?_) rfl (by kernel_rfl) (fun _ _ _ h => h) (Or.inl ⟨by rfl, ?hy5⟩) (Kept.refl _ _).drew ?_
                case hy5 => (intro W hS; (try dsimp only at hS); go_simp; try with_reducible rfl)
                try simp only [Act.put, lyA, ly0, ly1]
                refine Gz.tk (i := 6) (oi := ⟨some 58, .indexAddr 65 (.tmp 56) (.tmp 57), 0, _, _, none⟩) (v := ?_) rfl (by kernel_rfl) (fun _ _ _ h => h) (Or.inl ⟨by rfl, ?hy6⟩) (Kept.refl _ _).drew ?_
                case hy6 => (intro W hS; (try dsimp only at hS); go_simp; try with_reducible rfl)
                try simp only [Act.put, lyA, ly0, ly1]
                refine Gz.tk (i := 7) (oi := ⟨some 59, .load 80 (.tmp 58), 80, _, _, none⟩) (v := _) rfl (by kernel_rfl) (fun _ _ _ h => h) (yieldsIf_load_mid (by rfl) _ _ rfl (b1) (o1 + q * 33) rfl (lcell x) _ (fun W hW => range_kept HR1.out hW hb1 trivial) Try.underlying80 rfl (ix)) (Kept.refl _ _).drew ?_
                try simp only [Act.put, lyA, ly0, ly1]
                refine Gz.tk (i := 8) (oi := ⟨some 60, .move (.tmp 1), 71, _, _, none⟩) (v := ?_) rfl (by kernel_rfl) (fun _ _ _ h => h) (Or.inl ⟨by rfl, ?hy8⟩) (Kept.refl _ _).drew ?_
                case hy8 => (intro W hS; (try dsimp only at hS); go_simp; try with_reducible rfl)
                try simp only [Act.put, lyA, ly0, ly1]
                refine Gz.tk (i := 9) (oi := ⟨some 61, .move (.tmp 10), 3, _, _, none⟩) (v := ?_) rfl (by kernel_rfl) (fun _ _ _ h => h) (Or.inl ⟨by rfl, ?hy9⟩) (Kept.refl _ _).drew ?_
                case hy9 => (intro W hS; (try dsimp only at hS); go_simp; try with_reducible rfl)
                try simp only [Act.put, lyA, ly0, ly1]
                refine Gz.tk (i := 10) (oi := ⟨some 62, .indexAddr 71 (.tmp 60) (.tmp 61), 0, _, _, none⟩) (v := ?_) rfl (by kernel_rfl) (fun _ _ _ h => h) (Or.inl ⟨by rfl, ?hy10⟩) (Kept.refl _ _).drew ?_
                case hy10 => (intro W hS; (try dsimp only at hS); go_simp; try with_reducible rfl)
                try simp only [Act.put, lyA, ly0, ly1]
                refine Gz.tk (i := 11) (oi := ⟨some 63, .fieldAddr 77 (.tmp 62) 0, 0, _, _, none⟩) (v := ?_) rfl (by kernel_rfl) (fun _ _ _ h => h) (Or.inl ⟨by rfl, ?hy11⟩) (Kept.refl _ _).drew ?_
                case hy11 => (intro W hS; (try dsimp only at hS); go_simp; try with_reducible rfl)
                try simp only [Act.put, lyA, ly0, ly1]
                refine Gz.tk (i := 12) (oi := ⟨some 64, .load 65 (.tmp 63), 65, _, _, none⟩) (v := ?_) rfl (by kernel_rfl) (fun _ _ _ h => h) (Or.inl ⟨by rfl, ?hy12⟩) (Kept.refl _ _).drew ?_
                case hy12 => (intro W hS; (try dsimp only at hS); go_simp; try with_reducible rfl)
                try simp only [Act.put, lyA, ly0, ly1]
                refine Gz.tk (i := 13) (oi := ⟨some 65, .move (.tmp 11), 3, _, _, none⟩) (v := ?_) rfl (by kernel_rfl) (fun _ _ _ h => h) (Or.inl ⟨by rfl, ?hy13⟩) (Kept.refl _ _).drew ?_
                case hy13 => (intro W hS; (try dsimp only at hS); go_simp; try with_reducible rfl)
                try simp only [Act.put, lyA, ly0, ly1]
                refine Gz.tk (i := 14) (oi := ⟨some 66, .indexAddr 65 (.tmp 64) (.tmp 65), 0, _, _, none⟩) (v := ?_) rfl (by kernel_rfl) (fun _ _ _ h => h) (Or.inl ⟨by rfl, ?hy14⟩) (Kept.refl _ _).drew ?_
                case hy14 => (intro W hS; (try dsimp only at hS); go_simp; try with_reducible rfl)
                try simp only [Act.put, lyA, ly0, ly1]
                refine Gz.tk (i := 15) (oi := ⟨some 67, .load 80 (.tmp 66), 80, _, _, none⟩) (v := _) rfl (by kernel_rfl) (fun _ _ _ h => h) (yieldsIf_load_mid (by rfl) _ _ rfl (b2) (o2 + q * 33) rfl (lcell y) _ (fun W hW => range_kept HR2.out hW hb2 trivial) Try.underlying80 rfl (iy)) (Kept.refl _ _).drew ?_
                try simp only [Act.put, lyA, ly0, ly1]
                refine Gz.tk (i := 16) (oi := ⟨some 68, .binOp BinOp.neq 80 (.tmp 59) (.tmp 67) 80, 4, _, _, none⟩) (v := ?_) rfl (by kernel_rfl) (fun _ _ _ h => h) (Or.inl ⟨by rfl, ?hy16⟩) (Kept.refl _ _).drew ?_
                case hy16 => (intro W hS; (try dsimp only at hS); go_simp; try with_reducible rfl)
                try simp only [Act.put, lyA, ly0, ly1]
                refine Gz.done (by kernel_rfl) ?_ _
                go_wp2_with fail
                go_roundw
                case rel =>
                  refine ⟨q + 1, by have := HQI.out; omega, by go_num, rfl, fun p hp => ?_, HKMQ.out.drew⟩
                  by_cases e : p = q
                  · subst e; exact HEq.out
                  · exact HND.out p (by omega)
                case measure => have := HQI.out; simp [intOf]; omega
            · have q1 : (q : Int) < (A.length : Int) := by omega
              have q2 : ¬ (q : Int) < (C.length : Int) := by omega
              have HBn : Hid (Bst A (lkO xs) (samO cl i) (k + 1) z) := HB.out.skip (fun _ p hd => by
                rw [HLk.out] at hd
                exact HND.out p (by have := hd.2.1; omega) hd)
              clear hq hqa hqc hkq
              go_wp2_with fail
              go_roundw
              case rel => first | exact ⟨k + 1, z, by have := HI.out; omega, by go_num, rfl, HBn.out, HKQ.out⟩ | exact ⟨k + 1, by have := HI.out; omega, by go_num, HBn.out, HKQ.out⟩
              case measure => have := HI.out; simp [intOf]; omega
          · have q1 : ¬ (q : Int) < (A.length : Int) := by omega
            have HBn : Hid (Bst A (lkO xs) (samO cl i) (k + 1) z) := HB.out.skip (fun _ p hd => by
              rw [HLk.out] at hd
              exact HND.out p (by have := hd.1; omega) hd)
            clear hq hqa hkq
            go_wp2_with fail
            go_roundw
            case rel => first | exact ⟨k + 1, z, by have := HI.out; omega, by go_num, rfl, HBn.out, HKQ.out⟩ | exact ⟨k + 1, by have := HI.out; omega, by go_num, HBn.out, HKQ.out⟩
            case measure => have := HI.out; simp [intOf]; omega
      · have hne : (gK != gI) = true := bne_iff_ne.2 hg
        have HBn : Hid (Bst A (lkO xs) (samO cl i) (k + 1) z) := HB.out.skip (fun hs => absurd (HS.out.1 hs) hg)
        clear hg
        go_wp2_with fail
        refine Gz.begin (fun W => Kept (fun _ => True) wK W) (fun _ => false) (by kernel_rfl) ?_
        refine Gz.tk (i := 0) (oi := ⟨some 21, .move (.tmp 0), 39, _, _, none⟩) (v := ?_) rfl (by kernel_rfl) (fun _ _ _ h => h) (Or.inl ⟨by rfl, ?hy0⟩) (Kept.refl _ _).drew ?_
        case hy0 => (intro W hS; (try dsimp only at hS); go_simp; try with_reducible rfl)
        try simp only [Act.put, lyA, ly0, ly1]
        refine Gz.tk (i := 1) (oi := ⟨some 22, .move (.tmp 10), 3, _, _, none⟩) (v := ?_) rfl (by kernel_rfl) (fun _ _ _ h => h) (Or.inl ⟨by rfl, ?hy1⟩) (Kept.refl _ _).drew ?_
        case hy1 => (intro W hS; (try dsimp only at hS); go_simp; try with_reducible rfl)
        try simp only [Act.put, lyA, ly0, ly1]
        refine Gz.tk (i := 2) (oi := ⟨some 23, .indexAddr 39 (.tmp 21) (.tmp 22), 0, _, _, none⟩) (v := ?_) rfl (by kernel_rfl) (fun _ _ _ h => h) (Or.inl ⟨by rfl, ?hy2⟩) (Kept.refl _ _).drew ?_
        case hy2 => (intro W hS; (try dsimp only at hS); go_simp; try with_reducible rfl)
        try simp only [Act.put, lyA, ly0, ly1]
        refine Gz.tk (i := 3) (oi := ⟨some 24, .fieldAddr 74 (.tmp 23) 0, 0, _, _, none⟩) (v := ?_) rfl (by kernel_rfl) (fun _ _ _ h => h) (Or.inl ⟨by rfl, ?hy3⟩) (Kept.refl _ _).drew ?_
        case hy3 => (intro W hS; (try dsimp only at hS); go_simp; try with_reducible rfl)
        try simp only [Act.put, lyA, ly0, ly1]
        refine Gz.tk (i := 4) (oi := ⟨some 25, .load 3 (.tmp 24), 3, _, _, none⟩) (v := ?_) rfl (by kernel_rfl) (fun _ _ _ h => h) (Or.inl ⟨by rfl, ?hy4⟩) (Kept.refl _ _).drew ?_
        case hy4 => (intro W hS; (try dsimp only at hS); go_simp; try with_reducible rfl)
        try simp only [Act.put, lyA, ly0, ly1]
        refine Gz.tk (i := 5) (oi := ⟨some 26, .move (.tmp 0), 39, _, _, none⟩) (v := ?_) rfl (by kernel_rfl) (fun _ _ _ h => h) (Or.inl ⟨by rfl, ?hy5⟩) (Kept.refl _ _).drew ?_
        case hy5 => (intro W hS; (try dsimp only at hS); go_simp; try with_reducible rfl)
        try simp only [Act.put, lyA, ly0, ly1]
        refine Gz.tk (i := 6) (oi := ⟨some 27, .move (.tmp 3), 3, _, _, none⟩) (v := ?_) rfl (by kernel_rfl) (fun _ _ _ h => h) (Or.inl ⟨by rfl, ?hy6⟩) (Kept.refl _ _).drew ?_
        case hy6 => (intro W hS; (try dsimp only at hS); go_simp; try with_reducible rfl)
        try simp only [Act.put, lyA, ly0, ly1]
        refine Gz.tk (i := 7) (oi := ⟨some 28, .indexAddr 39 (.tmp 26) (.tmp 27), 0, _, _, none⟩) (v := ?_) rfl (by kernel_rfl) (fun _ _ _ h => h) (Or.inl ⟨by rfl, ?hy7⟩) (Kept.refl _ _).drew ?_
        case hy7 => (intro W hS; (try dsimp only at hS); go_simp; try with_reducible rfl)
        try simp only [Act.put, lyA, ly0, ly1]
        refine Gz.tk (i := 8) (oi := ⟨some 29, .fieldAddr 74 (.tmp 28) 0, 0, _, _, none⟩) (v := ?_) rfl (by kernel_rfl) (fun _ _ _ h => h) (Or.inl ⟨by rfl, ?hy8⟩) (Kept.refl _ _).drew ?_
        case hy8 => (intro W hS; (try dsimp only at hS); go_simp; try with_reducible rfl)
        try simp only [Act.put, lyA, ly0, ly1]
        refine Gz.tk (i := 9) (oi := ⟨some 30, .load 3 (.tmp 29), 3, _, _, none⟩) (v := ?_) rfl (by kernel_rfl) (fun _ _ _ h => h) (Or.inl ⟨by rfl, ?hy9⟩) (Kept.refl _ _).drew ?_
        case hy9 => (intro W hS; (try dsimp only at hS); go_simp; try with_reducible rfl)
        try simp only [Act.put, lyA, ly0, ly1]
        refine Gz.tk (i := 10) (oi := ⟨some 31, .binOp BinOp.neq 3 (.tmp 25) (.tmp 30) 3, 4, _, _, none⟩) (v := ?_) rfl (by kernel_rfl) (fun _ _ _ h => h) (Or.inl ⟨by rfl, ?hy10⟩) (Kept.refl _ _).drew ?_
        case hy10 => (intro W hS; (try dsimp only at hS); go_simp; try with_reducible rfl)
        try simp only [Act.put, lyA, ly0, ly1]
        refine Gz.done (by kernel_rfl) ?_ _
        go_wp2_with fail
        go_roundw
        case rel => first | exact ⟨k + 1, z, by have := HI.out; omega, by go_num, rfl, HBn.out, HKr.out.drew⟩ | exact ⟨k + 1, by have := HI.out; omega, by go_num, HBn.out, HKr.out.drew⟩
        case measure => have := HI.out; simp [intOf]; omega
    · obtain rfl : k = i := by omega
      have l3 : ¬ ((k : Nat) : Int) < (k : Int) := by omega
      clear hlt hk hkr
      go_wp2_with fail
      go_ret
      exact ⟨⟨z, rfl, HB.out⟩, HKr.out⟩

end Go.Proofs.Ytmcaoimgmgjjiaa
