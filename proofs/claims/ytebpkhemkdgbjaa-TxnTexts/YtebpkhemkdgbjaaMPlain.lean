/-
  Ranges plainly: parts of hashes, how they are joined, and that a right row of parts is told by who owns which hash.
-/
import Derived.Test.YtebpkhemkdgbjaaSB
namespace Go.Proofs.Ytebpkhemkdgbjaa
open Go.RowKit

/-- A part. -/
structure Pa where
  lo : Int
  hi : Int
  g : Int

def isG (g : Int) : Bool := decide (0 ≤ g) && decide (g < 3)
theorem isG_iff {g : Int} : isG g = true ↔ 0 ≤ g ∧ g < 3 := by simp [isG]

/-- Right, of the parts behind one that ended at e and was l's. -/
def rgtE : Int → Int → List Pa → Bool
  | e, _, [] => decide (e = 256)
  | e, l, p :: ps => decide (p.lo = e) && decide (p.lo < p.hi) && isG p.g && !decide (p.g = l) && rgtE p.hi p.g ps
def rgt (ep : Int) (ps : List Pa) : Bool := decide (1 ≤ ep) && decide (ep ≤ 1073741824) && rgtE 0 (-1) ps
theorem rgt_iff {ep : Int} {ps : List Pa} : rgt ep ps = true ↔ 1 ≤ ep ∧ ep ≤ 1073741824 ∧ rgtE 0 (-1) ps = true := by simp [rgt, and_assoc]
theorem rgtE_cons {e l : Int} {p : Pa} {ps : List Pa} : rgtE e l (p :: ps) = true ↔ p.lo = e ∧ p.lo < p.hi ∧ isG p.g = true ∧ p.g ≠ l ∧ rgtE p.hi p.g ps = true := by simp [rgtE, and_assoc]

/-- Whose h is. -/
def ownH : List Pa → Nat → Int
  | [], _ => 0
  | p :: ps, h => if (h : Int) < p.hi then p.g else ownH ps h

/-- A part behind parts. -/
def jn (ps : List Pa) (p : Pa) : List Pa :=
  if p.hi ≤ p.lo then ps
  else match ps.getLast? with
    | none => [p]
    | some q => if q.g = p.g then ps.dropLast ++ [⟨q.lo, p.hi, q.g⟩] else ps ++ [p]
theorem jn_none (ps : List Pa) (p : Pa) (h : p.hi ≤ p.lo) : jn ps p = ps := by simp [jn, h]
theorem jn_nil (p : Pa) (h : p.lo < p.hi) : jn [] p = [p] := by simp [jn, show ¬ p.hi ≤ p.lo by omega]
theorem jn_same (xs : List Pa) (q p : Pa) (h : p.lo < p.hi) (hg : q.g = p.g) : jn (xs ++ [q]) p = xs ++ [⟨q.lo, p.hi, q.g⟩] := by simp [jn, show ¬ p.hi ≤ p.lo by omega, hg]
theorem jn_new (xs : List Pa) (q p : Pa) (h : p.lo < p.hi) (hg : q.g ≠ p.g) : jn (xs ++ [q]) p = xs ++ [q] ++ [p] := by simp [jn, show ¬ p.hi ≤ p.lo by omega, hg]
theorem jn_most (ps : List Pa) (p : Pa) : (jn ps p).length ≤ ps.length + 1 := by
  unfold jn
  split
  · omega
  · split
    · simp
    · split
      · simp
        try omega
      · simp
theorem snoc_or (ps : List Pa) : ps = [] ∨ ∃ xs q, ps = xs ++ [q] := by
  rcases List.eq_nil_or_concat ps with h | ⟨xs, q, h⟩
  · exact .inl h
  · exact .inr ⟨xs, q, by rw [h, List.concat_eq_append]⟩
theorem jn_jn (ps : List Pa) (a b c g : Int) (h : a < b) (h' : b < c) : jn (jn ps ⟨a, b, g⟩) ⟨b, c, g⟩ = jn ps ⟨a, c, g⟩ := by
  rcases snoc_or ps with rfl | ⟨xs, q, rfl⟩
  · rw [jn_nil _ h, jn_nil _ (by show a < c; omega)]
    have := jn_same [] ⟨a, b, g⟩ ⟨b, c, g⟩ h' rfl
    simpa using this
  · by_cases hq : q.g = g
    · rw [jn_same xs q _ h hq, jn_same xs _ _ h' hq, jn_same xs q _ (by show a < c; omega) hq]
    · rw [jn_new xs q _ h hq, jn_new xs q _ (by show a < c; omega) hq, jn_same (xs ++ [q]) ⟨a, b, g⟩ ⟨b, c, g⟩ h' rfl]

/-- The parts that tell f, up to n. -/
def pcs (f : Nat → Int) : Nat → List Pa
  | 0 => []
  | n + 1 => jn (pcs f n) ⟨n, n + 1, f n⟩
theorem pcs_jn (f : Nat → Int) (a : Nat) (g : Int) : ∀ b, a < b → (∀ h, a ≤ h → h < b → f h = g) → jn (pcs f a) ⟨a, b, g⟩ = pcs f b
  | 0, h, _ => by omega
  | b + 1, h, hf => by
    by_cases e : a = b
    · subst e
      have := hf a (Nat.le_refl _) (by omega)
      subst this
      simp [pcs]
    · have ih := pcs_jn f a g b (by omega) (fun x h1 h2 => hf x h1 (by omega))
      have := hf b (by omega) (by omega)
      rw [pcs, ← ih, this, jn_jn _ _ _ _ _ (by omega) (by omega)]
      simp
theorem pcs_most (f : Nat → Int) : ∀ n, (pcs f n).length ≤ n
  | 0 => by simp [pcs]
  | n + 1 => by
    have := pcs_most f n
    have := jn_most (pcs f n) ⟨n, n + 1, f n⟩
    rw [pcs]
    omega
theorem pcs_congr {f f' : Nat → Int} : ∀ n, (∀ h, h < n → f h = f' h) → pcs f n = pcs f' n
  | 0, _ => rfl
  | n + 1, hf => by rw [pcs, pcs, pcs_congr n (fun h hh => hf h (by omega)), hf n (by omega)]

/-- The parts lie one behind the other from a to b, and tell f. -/
def Lays (f : Nat → Int) : Nat → List Pa → Nat → Prop
  | a, [], b => a = b
  | a, p :: ps, b => p.lo = a ∧ ∃ c : Nat, p.hi = c ∧ a < c ∧ (∀ h, a ≤ h → h < c → f h = p.g) ∧ Lays f c ps b
theorem Lays.le {f : Nat → Int} : ∀ {ps : List Pa} {a b : Nat}, Lays f a ps b → a ≤ b
  | [], _, _, h => Nat.le_of_eq h
  | _ :: _, _, _, ⟨_, _, _, h1, _, h⟩ => by have := h.le; omega
theorem Lays.congr {f f' : Nat → Int} : ∀ {ps : List Pa} {a b : Nat}, Lays f a ps b → (∀ h, a ≤ h → h < b → f h = f' h) → Lays f' a ps b
  | [], _, _, h, _ => h
  | p :: ps, a, b, ⟨h0, c, h1, h2, h3, h⟩, hf => by
    have := h.le
    exact ⟨h0, c, h1, h2, fun x a1 a2 => (hf x a1 (by omega)).symm.trans (h3 x a1 a2), h.congr (fun x a1 a2 => hf x (by omega) a2)⟩
theorem Lays.own {f : Nat → Int} : ∀ {ps : List Pa} {a b : Nat}, Lays f a ps b → ∀ h, a ≤ h → h < b → Proofs.Ytebpkhemkdgbjaa.ownH ps h = f h
  | [], _, _, h, x, a1, a2 => by have : _ = _ := h; omega
  | p :: ps, a, b, ⟨h0, c, h1, h2, h3, h⟩, x, a1, a2 => by
    unfold Proofs.Ytebpkhemkdgbjaa.ownH
    by_cases hx : x < c
    · rw [if_pos (by omega)]
      exact (h3 x a1 hx).symm
    · rw [if_neg (by omega)]
      exact h.own x (by omega) a2
theorem Lays.snoc {f : Nat → Int} {p : Pa} : ∀ {ps : List Pa} {a b : Nat}, Lays f a (ps ++ [p]) b ↔ ∃ c, Lays f a ps c ∧ Lays f c [p] b
  | [], a, b => by
    constructor
    · intro h; exact ⟨a, rfl, h⟩
    · rintro ⟨c, h, h'⟩
      have : a = c := h
      subst this
      exact h'
  | q :: ps, a, b => by
    constructor
    · rintro ⟨h0, c, h1, h2, h3, h⟩
      obtain ⟨d, k1, k2⟩ := (Lays.snoc (ps := ps)).1 h
      exact ⟨d, ⟨h0, c, h1, h2, h3, k1⟩, k2⟩
    · rintro ⟨d, ⟨h0, c, h1, h2, h3, k1⟩, k2⟩
      exact ⟨h0, c, h1, h2, h3, (Lays.snoc (ps := ps)).2 ⟨d, k1, k2⟩⟩
theorem pcs_lays (f : Nat → Int) : ∀ n, Lays f 0 (pcs f n) n
  | 0 => rfl
  | n + 1 => by
    have ih := pcs_lays f n
    have h0 : ((n : Int)) < (n : Int) + 1 := by omega
    rw [pcs]
    rcases snoc_or (pcs f n) with e | ⟨xs, q, e⟩
    · rw [e] at ih ⊢
      have : 0 = n := ih
      subst this
      rw [jn_nil _ h0]
      exact ⟨rfl, 1, by simp, by omega, fun h a1 a2 => (by rw [show h = 0 by omega]), rfl⟩
    · rw [e] at ih ⊢
      obtain ⟨c, k1, k2, d, k3, k4, k5, k6⟩ := Lays.snoc.1 ih
      have : d = n := k6
      subst this
      by_cases hq : q.g = f d
      · rw [jn_same xs q _ h0 hq]
        refine Lays.snoc.2 ⟨c, k1, k2, d + 1, by simp, by omega, fun h a1 a2 => ?_, rfl⟩
        by_cases e : h = d
        · subst e; exact hq.symm
        · exact k5 h a1 (by omega)
      · rw [jn_new xs q _ h0 hq]
        refine Lays.snoc.2 ⟨d, ih, rfl, d + 1, by simp, by omega, fun h a1 a2 => (by rw [show h = d by omega]), rfl⟩
theorem own_pcs (f : Nat → Int) (n h : Nat) (hh : h < n) : ownH (pcs f n) h = f h := (pcs_lays f n).own h (Nat.zero_le _) hh

/-- Right up to b. -/
def rgtT : Int → Int → List Pa → Int → Prop
  | e, _, [], b => e = b
  | e, l, p :: ps, b => p.lo = e ∧ p.lo < p.hi ∧ isG p.g = true ∧ p.g ≠ l ∧ rgtT p.hi p.g ps b
def lastG : Int → List Pa → Int
  | l, [] => l
  | _, p :: ps => lastG p.g ps
theorem lastG_snoc (q : Pa) : ∀ (xs : List Pa) (l : Int), lastG l (xs ++ [q]) = q.g
  | [], _ => rfl
  | x :: xs, _ => lastG_snoc q xs x.g
theorem rgtT_E : ∀ (ps : List Pa) (e l : Int), rgtT e l ps 256 → rgtE e l ps = true
  | [], _, _, h => by
    have : _ = _ := h
    subst this
    rfl
  | p :: ps, e, l, ⟨h0, h1, h2, h3, h⟩ => rgtE_cons.2 ⟨h0, h1, h2, h3, rgtT_E ps _ _ h⟩
theorem rgtT_snoc {p : Pa} {b : Int} : ∀ {ps : List Pa} {e l : Int}, rgtT e l (ps ++ [p]) b ↔ rgtT e l ps p.lo ∧ p.lo < p.hi ∧ isG p.g = true ∧ p.g ≠ lastG l ps ∧ p.hi = b
  | [], e, l => by
    constructor
    · rintro ⟨h0, h1, h2, h3, h4⟩
      exact ⟨h0.symm, h1, h2, h3, h4⟩
    · rintro ⟨h0, h1, h2, h3, h4⟩
      exact ⟨Eq.symm h0, h1, h2, h3, h4⟩
  | q :: ps, e, l => by
    constructor
    · rintro ⟨h0, h1, h2, h3, h4⟩
      obtain ⟨k0, k⟩ := (rgtT_snoc (ps := ps)).1 h4
      exact ⟨⟨h0, h1, h2, h3, k0⟩, k⟩
    · rintro ⟨⟨h0, h1, h2, h3, k0⟩, k⟩
      exact ⟨h0, h1, h2, h3, (rgtT_snoc (ps := ps)).2 ⟨k0, k⟩⟩
/-- f tells groups. -/
def Gs (f : Nat → Int) : Prop := ∀ h, h < 256 → 0 ≤ f h ∧ f h < 3
theorem pcs_rgt (f : Nat → Int) (n : Nat) (hf : ∀ h, h < n → 0 ≤ f h ∧ f h < 3) : rgtT 0 (-1) (pcs f n) n := by
  induction n with
  | zero => rfl
  | succ n ih =>
    have ih := ih (fun h hh => hf h (by omega))
    have hn := hf n (by omega)
    have h0 : ((n : Int)) < (n : Int) + 1 := by omega
    rw [pcs]
    rcases snoc_or (pcs f n) with e | ⟨xs, q, e⟩
    · rw [e] at ih ⊢
      have : (0 : Int) = n := ih
      obtain rfl : n = 0 := by omega
      rw [jn_nil _ h0]
      exact ⟨rfl, h0, isG_iff.2 hn, by show f 0 ≠ -1; omega, by simp [rgtT]⟩
    · rw [e] at ih ⊢
      obtain ⟨k0, k1, k2, k3, k4⟩ := rgtT_snoc.1 ih
      by_cases hq : q.g = f n
      · rw [jn_same xs q _ h0 hq]
        exact rgtT_snoc.2 ⟨k0, by show q.lo < (n : Int) + 1; omega, k2, k3, by simp⟩
      · rw [jn_new xs q _ h0 hq]
        refine rgtT_snoc.2 ⟨ih, h0, isG_iff.2 hn, ?_, by simp⟩
        rw [lastG_snoc]
        exact Ne.symm hq
set_option maxRecDepth 100000 in
theorem rgt_pcs {f : Nat → Int} (hf : Gs f) : rgtE 0 (-1) (pcs f 256) = true := by
  have h := pcs_rgt f 256 hf
  generalize pcs f 256 = ps at h ⊢
  exact rgtT_E ps 0 (-1) h

theorem rgtE_lays : ∀ (ps : List Pa) (a : Nat) (l : Int), rgtE a l ps = true → Lays (ownH ps) a ps 256
  | [], a, l, h => by
    have : (a : Int) = 256 := by simpa [rgtE] using h
    show a = 256
    omega
  | p :: ps, a, l, h => by
    obtain ⟨h0, h1, h2, h3, h4⟩ := rgtE_cons.1 h
    obtain ⟨c, hc⟩ : ∃ c : Nat, p.hi = c := ⟨p.hi.toNat, by omega⟩
    rw [hc] at h4
    refine ⟨h0, c, hc, by omega, fun x a1 a2 => by unfold ownH; rw [if_pos (by omega)], (rgtE_lays ps c p.g h4).congr (fun x a1 a2 => ?_)⟩
    rw [ownH, if_neg (by omega)]
theorem rgtE_groups : ∀ (ps : List Pa) (a : Nat) (l : Int), rgtE a l ps = true → ∀ h, a ≤ h → h < 256 → 0 ≤ ownH ps h ∧ ownH ps h < 3
  | [], a, l, h, x, a1, a2 => by
    have : (a : Int) = 256 := by simpa [rgtE] using h
    omega
  | p :: ps, a, l, h, x, a1, a2 => by
    obtain ⟨h0, h1, h2, h3, h4⟩ := rgtE_cons.1 h
    obtain ⟨c, hc⟩ : ∃ c : Nat, p.hi = c := ⟨p.hi.toNat, by omega⟩
    rw [hc] at h4
    unfold ownH
    split
    · exact isG_iff.1 h2
    · exact rgtE_groups ps c p.g h4 x (by omega) a2
theorem jns_lays {f : Nat → Int} : ∀ {ps : List Pa} {a b : Nat}, Lays f a ps b → ps.foldl jn (pcs f a) = pcs f b
  | [], _, _, h => by
    have : _ = _ := h
    subst this
    rfl
  | p :: ps, a, b, ⟨h0, c, h1, h2, h3, h⟩ => by
    obtain ⟨lo, hi, g⟩ := p
    simp only at h0 h1 h3
    subst h0 h1
    rw [List.foldl_cons, pcs_jn f a g c h2 h3]
    exact jns_lays h
theorem jns_rgt : ∀ (ps xs : List Pa) (e l : Int), rgtE e l ps = true → (xs = [] ∨ ∃ ys q, xs = ys ++ [q] ∧ q.g = l) → ps.foldl jn xs = xs ++ ps
  | [], xs, e, l, _, _ => by simp
  | p :: ps, xs, e, l, h, hx => by
    obtain ⟨h0, h1, h2, h3, h4⟩ := rgtE_cons.1 h
    rw [List.foldl_cons]
    have e1 : jn xs p = xs ++ [p] := by
      rcases hx with rfl | ⟨ys, q, rfl, hq⟩
      · exact jn_nil p h1
      · exact jn_new ys q p h1 (by rw [hq]; exact Ne.symm h3)
    rw [e1, jns_rgt ps (xs ++ [p]) p.hi p.g h4 (.inr ⟨xs, p, rfl, rfl⟩)]
    simp
/-- A right row of parts is told by who owns which hash. -/
theorem rgt_told {ps : List Pa} (h : rgtE 0 (-1) ps = true) : ps = pcs (ownH ps) 256 := by
  have h1 := jns_lays (rgtE_lays ps 0 (-1) h)
  have h2 := jns_rgt ps [] 0 (-1) h (.inl rfl)
  rw [show pcs (ownH ps) 0 = [] from rfl, h2] at h1
  simpa using h1
theorem rgt_gs {ps : List Pa} (h : rgtE 0 (-1) ps = true) : Gs (ownH ps) := fun x hx => rgtE_groups ps 0 (-1) h x (Nat.zero_le _) hx

/-- Move. -/
def mvs (lo hi g : Int) (acc : List Pa) (p : Pa) : List Pa := jn (jn (jn acc ⟨p.lo, min p.hi lo, p.g⟩) ⟨max p.lo lo, min p.hi hi, g⟩) ⟨max p.lo hi, p.hi, p.g⟩
def upd (f : Nat → Int) (lo hi g : Int) (h : Nat) : Int := if lo ≤ (h : Int) ∧ (h : Int) < hi then g else f h
theorem upd_gs {f : Nat → Int} {lo hi g : Int} (hf : Gs f) (h0 : 0 ≤ g) (h1 : g < 3) : Gs (upd f lo hi g) := by
  intro h hh
  unfold upd
  split
  · exact ⟨h0, h1⟩
  · exact hf h hh
/-- One join, told by what f tells. -/
theorem jn_to (f : Nat → Int) (a b : Nat) (x y g : Int) (h : (y ≤ x ∧ a = b) ∨ (x = a ∧ y = b ∧ a < b ∧ ∀ h, a ≤ h → h < b → f h = g)) : jn (pcs f a) ⟨x, y, g⟩ = pcs f b := by
  rcases h with ⟨h, rfl⟩ | ⟨rfl, rfl, h, hf⟩
  · exact jn_none _ _ h
  · exact pcs_jn f a g b h hf
theorem mvs_lays {f : Nat → Int} {lo hi g : Int} (h0 : 0 ≤ lo) (h1 : lo < hi) : ∀ {ps : List Pa} {a b : Nat}, Lays f a ps b → ps.foldl (mvs lo hi g) (pcs (upd f lo hi g) a) = pcs (upd f lo hi g) b
  | [], _, _, h => by
    have : _ = _ := h
    subst this
    rfl
  | p :: ps, a, b, ⟨k0, c, k1, k2, k3, k⟩ => by
    obtain ⟨plo, phi, pg⟩ := p
    simp only at k0 k1 k3
    subst k0 k1
    rw [List.foldl_cons]
    have e : mvs lo hi g (pcs (upd f lo hi g) a) ⟨a, c, pg⟩ = pcs (upd f lo hi g) c := by
      unfold mvs
      simp only
      have A : ∀ h : Nat, (h : Int) < lo → upd f lo hi g h = f h := fun h hh => by unfold upd; rw [if_neg (by omega)]
      have B : ∀ h : Nat, hi ≤ (h : Int) → upd f lo hi g h = f h := fun h hh => by unfold upd; rw [if_neg (by omega)]
      have C : ∀ h : Nat, lo ≤ (h : Int) → (h : Int) < hi → upd f lo hi g h = g := fun h h1 h2 => by unfold upd; rw [if_pos ⟨h1, h2⟩]
      have e1 : jn (pcs (upd f lo hi g) a) ⟨a, min c lo, pg⟩ = pcs (upd f lo hi g) (max a (min c lo.toNat)) := by
        refine jn_to _ _ _ _ _ _ ?_
        by_cases q : lo ≤ a
        · exact .inl ⟨by omega, by omega⟩
        · exact .inr ⟨rfl, by omega, by omega, fun h a1 a2 => by rw [A h (by omega)]; exact k3 h a1 (by omega)⟩
      have e2 : jn (pcs (upd f lo hi g) (max a (min c lo.toNat))) ⟨max a lo, min c hi, g⟩ = pcs (upd f lo hi g) (max a (min c hi.toNat)) := by
        refine jn_to _ _ _ _ _ _ ?_
        by_cases q : min (c : Int) hi ≤ max (a : Int) lo
        · exact .inl ⟨q, by omega⟩
        · exact .inr ⟨by omega, by omega, by omega, fun h a1 a2 => C h (by omega) (by omega)⟩
      have e3 : jn (pcs (upd f lo hi g) (max a (min c hi.toNat))) ⟨max a hi, c, pg⟩ = pcs (upd f lo hi g) c := by
        refine jn_to _ _ _ _ _ _ ?_
        by_cases q : (c : Int) ≤ max (a : Int) hi
        · exact .inl ⟨q, by omega⟩
        · exact .inr ⟨by omega, rfl, by omega, fun h a1 a2 => by rw [B h (by omega)]; exact k3 h (by omega) a2⟩
      rw [e1, e2, e3]
    rw [e]
    exact mvs_lays h0 h1 k
/-- A Move of a right row. -/
theorem mvs_told {ps : List Pa} {lo hi g : Int} (h : rgtE 0 (-1) ps = true) (h0 : 0 ≤ lo) (h1 : lo < hi) : ps.foldl (mvs lo hi g) [] = pcs (upd (ownH ps) lo hi g) 256 := mvs_lays (a := 0) h0 h1 (rgtE_lays ps 0 (-1) h)
theorem mvs_most (lo hi g : Int) (acc : List Pa) (p : Pa) : (mvs lo hi g acc p).length ≤ acc.length + 3 := by
  have h1 := jn_most acc ⟨p.lo, min p.hi lo, p.g⟩
  have h2 := jn_most (jn acc ⟨p.lo, min p.hi lo, p.g⟩) ⟨max p.lo lo, min p.hi hi, g⟩
  have h3 := jn_most (jn (jn acc ⟨p.lo, min p.hi lo, p.g⟩) ⟨max p.lo lo, min p.hi hi, g⟩) ⟨max p.lo hi, p.hi, p.g⟩
  unfold mvs
  omega
theorem rgt_most {ps : List Pa} (h : rgtE 0 (-1) ps = true) : ps.length ≤ 256 := by
  rw [rgt_told h]
  exact pcs_most _ _

end Go.Proofs.Ytebpkhemkdgbjaa
