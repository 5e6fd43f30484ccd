/-
  What PaxosAdopts holds in memory, and its proposers plainly.
-/
import Derived.Test.YtpgoedpodfidjaaPAgree
namespace Go.Proofs.Ytpgoedpodfidjaa
open Go.RowKit

/-- Several acceptors. -/
structure Acs (w0 w : World) (N : Nat) (T : Tm) : Prop where
  ac : ∀ i, i < N → Ac w (T.A i) (T.M i) (T.c i) (T.pa i) (T.f i)
  kept : Kept (fun _ => True) w0 w
  a0 : ∀ i, i < N → w0.heap.size ≤ T.A i ∧ w0.heap.size ≤ T.M i
  sa : ∀ i j, i < N → j < N → i ≠ j → T.A i ≠ T.A j ∧ T.M i ≠ T.M j
section
variable {w0 w w' : World} {N : Nat} {T : Tm}
theorem Acs.none (w : World) (T : Tm) : Acs w w 0 T := ⟨fun i hi => by omega, Kept.refl _ _, fun i hi => by omega, fun i j hi => by omega⟩
theorem Acs.ahead (h : Acs w0 w N T) (k : Kept (fun _ => True) w w') : Acs w0 w' N T := ⟨fun i hi => (h.ac i hi).all k, h.kept.trans k, h.a0, h.sa⟩
theorem Acs.off (h : Acs w0 w N T) {i X : Nat} (hi : i < N) (hX : Side w X) : X ≠ T.A i ∧ X ≠ T.M i := ac_off_side (h.ac i hi) hX
theorem Acs.side {q : Nat → Prop} (h : Acs w0 w N T) (k : Kept q w w') (hq : ∀ i, ¬ q i → Side w i ∧ w0.heap.size ≤ i) : Acs w0 w' N T := by
  have key : ∀ X, ¬ Side w X → q X := fun X hX => Classical.byContradiction fun e => hX (hq X e).1
  refine ⟨fun i hi => ?_, h.kept.then k (fun i hi _ => ?_), h.a0, h.sa⟩
  · exact (h.ac i hi).kept k (key _ (fun e => (h.off hi e).1 rfl)) (key _ (fun e => (h.off hi e).2 rfl))
  · exact Classical.byContradiction fun e => by have := (hq i e).2; omega
theorem Acs.acc (h : Acs w0 w N T) {i : Nat} (hi : i < N) {c' : Nat} {p' : Bl} {f' : Vs} (h' : Ac w' (T.A i) (T.M i) c' p' f') (k : Kept (fun x => x ≠ T.A i ∧ x ≠ T.M i) w w') :
    Acs w0 w' N { T with c := up T.c i c', pa := up T.pa i p', f := up T.f i f' } := by
  refine ⟨fun j hj => ?_, h.kept.then k (fun j hj _ => ?_), h.a0, h.sa⟩
  · by_cases e : j = i
    · subst e
      show Ac w' _ _ (up T.c j c' j) (up T.pa j p' j) (up T.f j f' j)
      rw [up_at, up_at, up_at]
      exact h'
    · show Ac w' _ _ (up T.c i c' j) (up T.pa i p' j) (up T.f i f' j)
      rw [up_ne _ _ e, up_ne _ _ e, up_ne _ _ e]
      have s := h.sa j i hj hi e
      exact (h.ac j hj).kept k ⟨s.1, ac_cross (h.ac j hj) (h.ac i hi)⟩ ⟨Ne.symm (ac_cross (h.ac i hi) (h.ac j hj)), s.2⟩
  · have := h.a0 i hi
    exact ⟨by omega, by omega⟩
theorem Acs.prop (h : Acs w0 w N T) {P n : Nat} {v v' : Value} {x : Pr} (hp : PM w0 w P v n x) (k : PS w w' P v v') : Acs w0 w' N T := by
  refine ⟨fun j hj => ?_, h.kept.then k.kept (fun j hj _ => ?_), h.a0, h.sa⟩
  · have s := ac_po (h.ac j hj) hp.po
    exact (h.ac j hj).kept k.kept ⟨Ne.symm s.1.1, fun e => (s.2 _ e).1 rfl⟩ ⟨Ne.symm s.1.2, fun e => (s.2 _ e).2 rfl⟩
  · have := hp.p0
    exact ⟨by omega, fun e => by have := hp.v0 j e; omega⟩
theorem Acs.add (h : Acs w0 w N T) {A M c : Nat} {p : Bl} {f : Vs} (k : Kept (fun _ => True) w w') (ha : Ac w' A M c p f) (hA : w.heap.size ≤ A) (hM : w.heap.size ≤ M) :
    Acs w0 w' (N + 1) { T with A := up T.A N A, M := up T.M N M, c := up T.c N c, pa := up T.pa N p, f := up T.f N f } := by
  have hs := h.kept.size
  refine ⟨fun j hj => ?_, h.kept.trans k, fun j hj => ?_, fun a b ha' hb' hab => ?_⟩
  · by_cases e : j = N
    · subst e; simp only [up_at]; exact ha
    · simp only [up_ne _ _ e]; exact (h.ac j (by omega)).all k
  · by_cases e : j = N
    · subst e; simp only [up_at]; omega
    · simp only [up_ne _ _ e]; exact h.a0 j (by omega)
  · by_cases ea : a = N
    · subst ea
      have eb : b ≠ a := Ne.symm hab
      simp only [up_at, up_ne _ _ eb]
      have := (h.ac b (by omega)).lt
      have := (h.ac b (by omega)).mlt
      omega
    · simp only [up_ne _ _ ea]
      by_cases eb : b = N
      · subst eb
        simp only [up_at]
        have := (h.ac a (by omega)).lt
        have := (h.ac a (by omega)).mlt
        omega
      · simp only [up_ne _ _ eb]
        exact h.sa a b (by omega) (by omega) hab
end

/-- The law's all. -/
structure AD (w0 w : World) (N : Nat) (va : Value) (T : Tm) (P P' : Nat) (v v' : Value) (n n' : Nat) (x x' : Pr) (B C : Nat) (rb nb rc nc : Int) : Prop where
  acs : Acs w0 w N T
  p : PM w0 w P v n x
  q : PM w0 w P' v' n' x'
  pq : P ≠ P' ∧ ∀ k, v.ownBlock = some k → v'.ownBlock ≠ some k
  row : Row w w0.heap.size 46 va N T.A
  tb : Two w B rb nb
  sb : Side w B
  tc : Two w C rc nc
  sc : Side w C
section
variable {w0 w w' : World} {N : Nat} {va : Value} {T : Tm} {P P' : Nat} {v v' v1 : Value} {n n' n1 : Nat} {x x' x1 : Pr} {B C : Nat} {rb nb rc nc : Int}
theorem AD.ahead (h : AD w0 w N va T P P' v v' n n' x x' B C rb nb rc nc) (k : Kept (fun _ => True) w w') : AD w0 w' N va T P P' v v' n n' x x' B C rb nb rc nc :=
  ⟨h.acs.ahead k, h.p.ahead k, h.q.ahead k, h.pq, h.row.all k, h.tb.kept k trivial, h.sb.kept k trivial, h.tc.kept k trivial, h.sc.kept k trivial⟩
theorem AD.acc (h : AD w0 w N va T P P' v v' n n' x x' B C rb nb rc nc) {i : Nat} (hi : i < N) {c' : Nat} {p' : Bl} {f' : Vs} (h' : Ac w' (T.A i) (T.M i) c' p' f') (k : Kept (fun x => x ≠ T.A i ∧ x ≠ T.M i) w w') :
    AD w0 w' N va { T with c := up T.c i c', pa := up T.pa i p', f := up T.f i f' } P P' v v' n n' x x' B C rb nb rc nc := by
  have s1 := ac_po (h.acs.ac i hi) h.p.po
  have s2 := ac_po (h.acs.ac i hi) h.q.po
  have ha := h.acs.acc hi h' k
  exact ⟨ha, ⟨h.p.po.kept k s1.1 s1.2, ha.kept, h.p.p0, h.p.v0⟩, ⟨h.q.po.kept k s2.1 s2.2, ha.kept, h.q.p0, h.q.v0⟩, h.pq, h.row.kept k (fun z hz => h.acs.off hi (h.row.side side_pa z hz)), h.tb.kept k (h.acs.off hi h.sb), h.sb.kept k (h.acs.off hi h.sb), h.tc.kept k (h.acs.off hi h.sc), h.sc.kept k (h.acs.off hi h.sc)⟩
theorem AD.pstep (h : AD w0 w N va T P P' v v' n n' x x' B C rb nb rc nc) (h' : Po w' P v1 n1 x1) (k : PS w w' P v v1) : AD w0 w' N va T P P' v1 v' n1 n' x1 x' B C rb nb rc nc := by
  have ha := h.acs.prop h.p k
  refine ⟨ha, h.p.step h' k, ⟨h.q.po.kept k.kept ⟨Ne.symm h.pq.1, po_cross h.p.po h.q.po⟩ (fun z hz => ⟨fun e => po_cross h.q.po h.p.po (e ▸ hz), fun e => h.pq.2 z e hz⟩), ha.kept, h.q.p0, h.q.v0⟩, ⟨h.pq.1, fun z hz hz2 => ?_⟩, h.row.kept k.kept (fun z hz => po_off_side h.p.po (h.row.side side_pa z hz)), h.tb.kept k.kept (po_off_side h.p.po h.sb), h.sb.kept k.kept (po_off_side h.p.po h.sb), h.tc.kept k.kept (po_off_side h.p.po h.sc), h.sc.kept k.kept (po_off_side h.p.po h.sc)⟩
  rcases k.own z hz with e | e
  · exact h.pq.2 z e hz2
  · have := h.q.po.own_lt hz2
    omega
theorem AD.qstep (h : AD w0 w N va T P P' v v' n n' x x' B C rb nb rc nc) (h' : Po w' P' v1 n1 x1) (k : PS w w' P' v' v1) : AD w0 w' N va T P P' v v1 n n1 x x1 B C rb nb rc nc := by
  have ha := h.acs.prop h.q k
  refine ⟨ha, ⟨h.p.po.kept k.kept ⟨h.pq.1, po_cross h.q.po h.p.po⟩ (fun z hz => ⟨fun e => po_cross h.p.po h.q.po (e ▸ hz), fun e => h.pq.2 z hz e⟩), ha.kept, h.p.p0, h.p.v0⟩, h.q.step h' k, ⟨h.pq.1, fun z hz hz2 => ?_⟩, h.row.kept k.kept (fun z hz => po_off_side h.q.po (h.row.side side_pa z hz)), h.tb.kept k.kept (po_off_side h.q.po h.sb), h.sb.kept k.kept (po_off_side h.q.po h.sb), h.tc.kept k.kept (po_off_side h.q.po h.sc), h.sc.kept k.kept (po_off_side h.q.po h.sc)⟩
  rcases k.own z hz2 with e | e
  · exact h.pq.2 z hz e
  · have := h.p.po.own_lt hz
    omega
end
theorem PS.begun {w w' : World} {P : Nat} {v : Value} (k : Kept (· ≠ P) w w') : PS w w' P v (.slice none 0 0) := ⟨k.mono (fun _ _ q => q.1), fun z hz => by simp [Value.ownBlock] at hz⟩

/-- The nodes from a on, i of them, as bits. -/
def mk (N a : Nat) : Nat → Nat
  | 0 => 0
  | i + 1 => mk N a i ||| 2 ^ ((a + i) % N)
theorem mk_facts : ∀ N : Nat, N < 6 → ∀ a : Nat, a < N → ∀ i : Nat, i < N + 1 → mk N a i < 32 ∧ ones (mk N a i) = i ∧ (i < N → (mk N a i).testBit ((a + i) % N) = false) := by decide +kernel
theorem mk_low : ∀ N : Nat, N < 6 → ∀ a : Nat, a < N → ∀ i : Nat, i < N + 1 → ∀ n : Nat, n < 5 → (mk N a i).testBit n = true → n < N := by decide +kernel

def chosenS : ByteArray := ⟨#[99, 104, 111, 115, 101, 110]⟩
def pj (N fst M slot : Nat) (q : Pl) : Pr := ⟨fst, N, 1, ⟨1, fst⟩, 0, M, fun s => if s = slot then q else zeroPl⟩
def qc (A : Nat) : Pl := ⟨false, ⟨0, ⟨0, 0⟩, .empty⟩, true, chosenS, A⟩
theorem pj_begin (N fst slot : Nat) : (Pr.new fst N).begins 0 = pj N fst 0 slot zeroPl := by
  unfold Pr.begins Pr.new pj
  congr 1
  funext s
  simp
theorem pj_promise {N fst M k slot : Nat} {q : Pl} (hk : k < N) (hb : M.testBit k = false) : (pj N fst M slot q).promise k ⟨1, fst⟩ [] = pj N fst (M ||| 2 ^ k) slot q := by
  have e : (pj N fst M slot q).sees 1 = pj N fst M slot q := by
    unfold Pr.sees pj
    congr 1
  unfold Pr.promise
  rw [show (⟨1, fst⟩ : Bl).r = 1 from rfl, e, if_pos (by simp [Pr.counts, Pr.mine, Pr.isNode, pj, hb, hk])]
  simp [pj]
theorem pj_pick {N fst M slot : Nat} (h : N < 2 * ones M) (hs : slot < 512) : (pj N fst M slot zeroPl).may slot = true ∧ (pj N fst M slot zeroPl).pick slot chosenS = pj N fst M slot (qc 0) ∧ (pj N fst M slot zeroPl).picks slot chosenS = chosenS := by
  have hm : (pj N fst M slot zeroPl).may slot = true := by
    simp [Pr.may, Pr.led, Pr.most, Pr.asked, pj, h]
    omega
  refine ⟨hm, ?_, ?_⟩
  · unfold Pr.pick
    rw [if_pos hm]
    unfold Pr.put pj
    congr 1
    funext s
    by_cases e : s = slot
    · subst e; simp [qc, zeroPl, Pl.would]
    · simp [e]
  · unfold Pr.picks
    rw [if_pos hm]
    simp [pj, zeroPl, Pl.would]
theorem pj_accept {N fst M A k slot : Nat} (hk : k < N) : (pj N fst M slot (qc A)).accept k ⟨1, fst⟩ slot = pj N fst M slot (qc (A ||| 2 ^ k)) ∧ (pj N fst M slot (qc A)).accepts k ⟨1, fst⟩ slot = decide (N < 2 * ones (A ||| 2 ^ k)) := by
  have ht : (pj N fst M slot (qc A)).took k ⟨1, fst⟩ slot = true := by simp [Pr.took, Pr.mine, Pr.isNode, pj, qc, hk]
  refine ⟨?_, ?_⟩
  · unfold Pr.accept
    rw [if_pos ht]
    unfold Pr.put pj
    congr 1
    funext s
    by_cases e : s = slot
    · subst e; simp [qc]
    · simp [e]
  · unfold Pr.accepts
    rw [ht]
    simp [Pr.most, pj, qc]

/-- What the second proposer knows. -/
structure Qs (N snd fst slot D : Nat) (pa : Nat → Bl) (x : Pr) : Prop where
  nodes : x.nodes = N
  b : x.b = ⟨2, snd⟩
  frm : x.frm = 0
  seen : x.seen = 2
  bits : ∀ n, x.prom.testBit n = true → n < N ∧ pa n = ⟨2, snd⟩
  picked : (x.pl slot).picked = false
  best : ((x.pl slot).best.b = ⟨0, 0⟩ ∧ ∀ n, x.prom.testBit n = true → D.testBit n = false) ∨ (x.pl slot).best = ⟨slot, ⟨1, fst⟩, chosenS⟩
theorem Qs.start (N snd fst slot D : Nat) (pa : Nat → Bl) : Qs N snd fst slot D pa (((Pr.new snd N).sees 1).begins 0) := by
  refine ⟨rfl, ?_, rfl, ?_, fun n hn => ?_, rfl, .inl ⟨rfl, fun n hn => ?_⟩⟩
  · show (⟨min (max 0 (min 1 1073741824) + 1) 1073741824, (snd : Int)⟩ : Bl) = _
    congr 1
  · show min (max 0 (min 1 1073741824) + 1) 1073741824 = (2 : Int)
    decide
  · simp [Pr.begins] at hn
  · simp [Pr.begins] at hn
theorem Qs.promise {N snd fst slot D : Nat} {pa : Nat → Bl} {x : Pr} (h : Qs N snd fst slot D pa x) (hs : slot < 512) {n : Nat} (hn : n < N) (hl : less (pa n) ⟨2, snd⟩ = true) {f : Vs} (hf : f slot = if D.testBit n = true then some (⟨1, fst⟩, chosenS) else none) :
    Qs N snd fst slot D (up pa n ⟨2, snd⟩) (x.promise n ⟨2, snd⟩ (votesUp f 0 512)) := by
  have hnb : x.prom.testBit n = false := by
    cases hq : x.prom.testBit n
    · rfl
    · rw [(h.bits n hq).2, less_self] at hl; cases hl
  have e1 : x.sees 2 = x := by
    unfold Pr.sees
    rw [h.seen, show max (2 : Int) (min 2 1073741824) = 2 by decide]
    have := h.seen
    cases x
    simp only at this
    subst this
    rfl
  have e2 : x.promise n ⟨2, snd⟩ (votesUp f 0 512) = { x with prom := x.prom ||| 2 ^ n, pl := fun s => if s < 512 then addVote (x.pl s) s (f s) else x.pl s } := by
    unfold Pr.promise
    rw [show (⟨2, snd⟩ : Bl).r = 2 from rfl, e1, if_pos]
    · refine Eq.trans (fold_votes { x with prom := x.prom ||| 2 ^ ((n : Int)).toNat } h.frm f 512 (Nat.le_refl _)) ?_
      simp
    · simp [Pr.counts, Pr.mine, Pr.isNode, h.b, h.nodes, hnb, hn]
  rw [e2]
  have hps : (if slot < 512 then addVote (x.pl slot) slot (f slot) else x.pl slot) = addVote (x.pl slot) slot (f slot) := if_pos hs
  refine ⟨h.nodes, h.b, h.frm, h.seen, fun m hm => ?_, ?_, ?_⟩
  · simp only [bit_at, Bool.or_eq_true, decide_eq_true_eq] at hm
    by_cases e : m = n
    · subst e; exact ⟨hn, up_at _ _ _⟩
    · rw [up_ne _ _ e]
      rcases hm with hm | hm
      · exact h.bits m hm
      · exact (e hm.symm).elim
  · simp only [hps]
    rw [(addVote_same _ _ _).2.1]
    exact h.picked
  · simp only [hps]
    rw [hf]
    cases hD : D.testBit n
    · simp only [Bool.false_eq_true, if_false, addVote]
      rcases h.best with ⟨h1, h2⟩ | h1
      · refine .inl ⟨h1, fun m hm => ?_⟩
        simp only [bit_at, Bool.or_eq_true, decide_eq_true_eq] at hm
        rcases hm with hm | hm
        · exact h2 m hm
        · subst hm; exact hD
      · exact .inr h1
    · simp only [if_true, addVote]
      refine .inr ?_
      have hne : ¬ ((⟨1, fst⟩ : Bl) = ⟨0, 0⟩) := by simp
      rcases h.best with ⟨h1, _⟩ | h1
      · simp only [bestOf, if_neg hne, h1, true_or, if_true]
      · rw [show bestOf (x.pl slot) ⟨slot, ⟨1, fst⟩, chosenS⟩ = ⟨slot, ⟨1, fst⟩, chosenS⟩ from by
          simp only [bestOf, if_neg hne, h1, less_self]
          simp]
theorem Qs.pick {N snd fst slot D : Nat} {pa : Nat → Bl} {x : Pr} (h : Qs N snd fst slot D pa x) (hN : N ≤ 5) (hs : slot < 512) (hD : N < 2 * ones D) (hDl : ∀ n, D.testBit n = true → n < N) (hl : x.led = true) (w : ByteArray) : x.may slot = true ∧ x.picks slot w = chosenS := by
  have hm : x.may slot = true := by
    unfold Pr.may
    rw [hl]
    simp [Pr.asked, h.frm]
    omega
  refine ⟨hm, ?_⟩
  have hq : N < 2 * ones x.prom := by
    have := hl
    simp [Pr.led, Pr.most, h.nodes] at this
    exact this
  obtain ⟨n, h1, h2⟩ := meet hN (fun n hn => (h.bits n hn).1) hDl hq hD
  unfold Pr.picks
  rw [if_pos hm]
  simp only [Int.toNat_natCast]
  unfold Pl.would
  rw [if_neg (by simp [h.picked])]
  rcases h.best with ⟨_, h3⟩ | h3
  · rw [h3 n h1] at h2; cases h2
  · rw [h3]
    simp

end Go.Proofs.Ytpgoedpodfidjaa
