/-
  The steps of proposers and acceptors keep what holds.
-/
import Derived.Test.YtpgoedpodfidjaaPxSafe
namespace Go.Proofs.Ytpgoedpodfidjaa
open Go.RowKit

theorem up_same {α : Type} (g : Nat → α) (k : Nat) : up g k (g k) = g := by
  funext j
  unfold up
  split
  · rename_i h; rw [h]
  · rfl

theorem Knows.raise {N : Nat} {pa pa' : Nat → Bl} {V : Vh} {K : Kh} {x : Pr} (h : Knows N pa V K x) (hp : ∀ n, less (pa' n) (pa n) = false) : Knows N pa' V K x :=
  ⟨fun n hn => ⟨(h.prb n hn).1, less_le (h.prb n hn).2 (hp n)⟩, h.acb, h.be0, h.be1, h.pk1, h.pk0, h.zero⟩
theorem SafeAt.raise {N : Nat} {pa pa' : Nat → Bl} {V : Vh} {K : Kh} {s : Nat} {b : Bl} {v : ByteArray} (h : SafeAt N pa V K s b v) (hp : ∀ n, less (pa' n) (pa n) = false) : SafeAt N pa' V K s b v := by
  obtain ⟨S, h1, h2, h3⟩ := h
  exact ⟨S, h1, fun n hn => ⟨(h2 n hn).1, less_le (h2 n hn).2 (hp n)⟩, h3⟩
theorem raised {pa : Nat → Bl} {n : Nat} {b : Bl} (h : less b (pa n) = false) : ∀ m, less (up pa n b m) (pa m) = false := by
  intro m
  by_cases e : m = n
  · subst e; rw [up_at]; exact h
  · rw [up_ne _ _ e]; exact less_self _

section
variable {N i : Nat} {pa : Nat → Bl} {f : Nat → Vs} {pr : Nat → Pr} {V : Vh} {K : Kh}

theorem Inv.later_step (h : Inv N i pa f pr V K) {j : Nat} (hj : i ≤ j) : Inv N j pa f pr V K :=
  { h with seen := fun k hk => by have := h.seen k hk; omega, pab := fun n hn => by have := h.pab n hn; exact ⟨this.1, by omega⟩ }

theorem Inv.begin (h : Inv N i pa f pr V K) (hi : i < 1000000) {k : Nat} (hk : k < N) : Inv N (i + 1) pa f (up pr k ((pr k).begins 0)) V K := by
  have hs := h.seen k hk
  have hb := h.bs k hk
  have hn := h.nd k hk
  have e1 : ((pr k).begins 0).b = ⟨(pr k).seen + 1, k⟩ := by
    show (⟨min ((pr k).seen + 1) 1073741824, (pr k).me⟩ : Bl) = _
    rw [hn.1]
    congr 1
    omega
  have e2 : ((pr k).begins 0).seen = (pr k).seen + 1 := by
    show min ((pr k).seen + 1) 1073741824 = _
    omega
  have hnone : ∀ s, K s ((pr k).begins 0).b = none := by
    intro s
    cases hq : K s ((pr k).begins 0).b with
    | none => rfl
    | some v =>
      obtain ⟨_, k', _, q1, q2⟩ := h.kf s _ v hq
      rw [e1] at q1 q2
      simp only at q1 q2
      have : k' = k := by omega
      subst this
      omega
  refine ⟨h.five, fun j hj => ?_, fun j hj => ?_, fun j hj => ?_, fun j hj => ?_, fun n hn => ?_, fun j hj => ?_, fun s b v hv => ?_, h.safe, h.vk, h.vp, h.cur1, h.cur2⟩
  · by_cases e : j = k
    · subst e; rw [up_at]; exact ⟨hn.1, hn.2.1, rfl⟩
    · rw [up_ne _ _ e]; exact h.nd j hj
  · by_cases e : j = k
    · subst e; rw [up_at, e2]; omega
    · rw [up_ne _ _ e]; have := h.seen j hj; omega
  · by_cases e : j = k
    · subst e; rw [up_at, e1]; exact .inr ⟨rfl, by show 1 ≤ (pr j).seen + 1; omega⟩
    · rw [up_ne _ _ e]; exact h.bk j hj
  · by_cases e : j = k
    · subst e; rw [up_at, e1, e2]; exact Int.le_refl _
    · rw [up_ne _ _ e]; exact h.bs j hj
  · have := h.pab n hn; exact ⟨this.1, by omega⟩
  · by_cases e : j = k
    · subst e
      rw [up_at]
      refine ⟨fun n hn => ?_, fun s n hn => ?_, fun s _ _ n hn => ?_, fun s _ hne => ?_, fun s hp => ?_, fun s _ => hnone s, fun _ => rfl⟩
      · simp [Pr.begins] at hn
      · simp [Pr.begins, zeroPl] at hn
      · simp [Pr.begins] at hn
      · exact (hne rfl).elim
      · simp [Pr.begins, zeroPl] at hp
    · rw [up_ne _ _ e]; exact h.kn j hj
  · obtain ⟨q1, k', q2, q3, q4⟩ := h.kf s b v hv
    refine ⟨q1, k', q2, q3, ?_⟩
    by_cases e : k' = k
    · subst e; rw [up_at, e1]; show b.r ≤ (pr k').seen + 1; omega
    · rw [up_ne _ _ e]; exact q4

theorem Inv.sees (h : Inv N i pa f pr V K) {k : Nat} (hk : k < N) {r : Int} (hr : r ≤ i) : Inv N i pa f (up pr k ((pr k).sees r)) V K := by
  have hs := h.seen k hk
  have hb := h.bs k hk
  have e2 : ((pr k).sees r).seen = max (pr k).seen (min r 1073741824) := rfl
  refine ⟨h.five, fun j hj => ?_, fun j hj => ?_, fun j hj => ?_, fun j hj => ?_, h.pab, fun j hj => ?_, fun s b v hv => ?_, h.safe, h.vk, h.vp, h.cur1, h.cur2⟩
  · by_cases e : j = k
    · subst e; rw [up_at]; exact h.nd j hj
    · rw [up_ne _ _ e]; exact h.nd j hj
  · by_cases e : j = k
    · subst e; rw [up_at, e2]; omega
    · rw [up_ne _ _ e]; exact h.seen j hj
  · by_cases e : j = k
    · subst e; rw [up_at]; exact h.bk j hj
    · rw [up_ne _ _ e]; exact h.bk j hj
  · by_cases e : j = k
    · subst e; rw [up_at, e2]; show (pr j).b.r ≤ _; omega
    · rw [up_ne _ _ e]; exact h.bs j hj
  · by_cases e : j = k
    · subst e
      rw [up_at]
      have q := h.kn j hj
      exact ⟨q.prb, q.acb, q.be0, q.be1, q.pk1, q.pk0, q.zero⟩
    · rw [up_ne _ _ e]; exact h.kn j hj
  · obtain ⟨q1, k', q2, q3, q4⟩ := h.kf s b v hv
    refine ⟨q1, k', q2, q3, ?_⟩
    by_cases e : k' = k
    · subst e; rw [up_at]; exact q4
    · rw [up_ne _ _ e]; exact q4

/-- A place with another vote. -/
def addVote (q : Pl) (s : Nat) (o : Option (Bl × ByteArray)) : Pl :=
  match o with
  | none => q
  | some (c, u) => { q with voted := true, best := bestOf q ⟨s, c, u⟩ }
theorem addVote_same (q : Pl) (s : Nat) (o : Option (Bl × ByteArray)) : (addVote q s o).acc = q.acc ∧ (addVote q s o).picked = q.picked ∧ (addVote q s o).value = q.value := by
  cases o with
  | none => exact ⟨rfl, rfl, rfl⟩
  | some x => exact ⟨rfl, rfl, rfl⟩
theorem fold_votes (y : Pr) (hf : y.frm = 0) (g : Vs) : ∀ m, m ≤ 512 → (votesUp g 0 m).foldl Pr.vote y = { y with pl := fun s => if s < m then addVote (y.pl s) s (g s) else y.pl s } := by
  intro m
  induction m with
  | zero => intro _; simp [votesUp_none]
  | succ m ih =>
    intro hm
    rw [votesUp_step _ (Nat.zero_le _), List.foldl_append, ih (by omega)]
    unfold voteAt
    cases hg : g m with
    | none =>
      simp only [Option.map_none, Option.toList_none, List.foldl_nil]
      congr 1
      funext s
      by_cases e : s = m
      · subst e
        simp [hg, addVote]
      · by_cases e2 : s < m
        · rw [if_pos e2, if_pos (by omega)]
        · rw [if_neg e2, if_neg (by omega)]
    | some x =>
      simp only [Option.map_some, Option.toList_some, List.foldl_cons, List.foldl_nil]
      unfold Pr.vote
      rw [if_pos (by simp [Pr.asked, hf]; omega)]
      unfold Pr.put
      simp only [Int.toNat_natCast]
      congr 1
      funext s
      by_cases e : s = m
      · subst e
        simp [hg, addVote]
      · rw [if_neg e]
        by_cases e2 : s < m
        · rw [if_pos e2, if_pos (by omega)]
        · rw [if_neg e2, if_neg (by omega)]

theorem Inv.promised (h : Inv N i pa f pr V K) {k n : Nat} (hk : k < N) (hn : n < N) (hl : less (pa n) (pr k).b = true) :
    (pr k).promise n (pr k).b (votesUp (f n) 0 512) = { pr k with prom := (pr k).prom ||| 2 ^ n, pl := fun s => if s < 512 then addVote ((pr k).pl s) s (f n s) else (pr k).pl s } := by
  have hs := h.seen k hk
  have hb := h.bs k hk
  have e1 : (pr k).sees (pr k).b.r = pr k := by
    unfold Pr.sees
    rw [show max (pr k).seen (min (pr k).b.r 1073741824) = (pr k).seen by omega]
  unfold Pr.promise
  rw [e1, if_pos]
  · refine Eq.trans (fold_votes { pr k with prom := (pr k).prom ||| 2 ^ ((n : Int)).toNat } (h.nd k hk).2.2 (f n) 512 (Nat.le_refl _)) ?_
    simp
  · have h0 := (h.pab n hn).1
    have hne : (pr k).b ≠ ⟨0, 0⟩ := by
      intro e
      rw [e, h0] at hl
      cases hl
    have hnb : (pr k).prom.testBit n = false := by
      cases hq : (pr k).prom.testBit n
      · rfl
      · have := ((h.kn k hk).prb n hq).2
        rw [hl] at this
        cases this
    simp [Pr.counts, Pr.mine, Pr.isNode, hne, hnb, (h.nd k hk).2.1, hn]

theorem Inv.promise (h : Inv N i pa f pr V K) {k n : Nat} (hk : k < N) (hn : n < N) (hl : less (pa n) (pr k).b = true) :
    Inv N i (up pa n (pr k).b) f (up pr k ((pr k).promise n (pr k).b (votesUp (f n) 0 512))) V K := by
  rw [h.promised hk hn hl]
  have hra := raised (less_asym hl)
  have q := h.kn k hk
  have h0 := (h.pab n hn).1
  refine ⟨h.five, fun j hj => ?_, fun j hj => ?_, fun j hj => ?_, fun j hj => ?_, fun m hm => ?_, fun j hj => ?_, fun s b v hv => ?_, fun s b v hv => (h.safe s b v hv).raise hra, h.vk, fun n s b v hv => less_le (h.vp n s b v hv) (hra n), h.cur1, h.cur2⟩
  · by_cases e : j = k
    · subst e; rw [up_at]; exact h.nd j hj
    · rw [up_ne _ _ e]; exact h.nd j hj
  · by_cases e : j = k
    · subst e; rw [up_at]; exact h.seen j hj
    · rw [up_ne _ _ e]; exact h.seen j hj
  · by_cases e : j = k
    · subst e; rw [up_at]; exact h.bk j hj
    · rw [up_ne _ _ e]; exact h.bk j hj
  · by_cases e : j = k
    · subst e; rw [up_at]; exact h.bs j hj
    · rw [up_ne _ _ e]; exact h.bs j hj
  · refine ⟨less_le (h.pab m hm).1 (hra m), ?_⟩
    by_cases e : m = n
    · subst e; rw [up_at]; have := h.bs k hk; have := h.seen k hk; omega
    · rw [up_ne _ _ e]; exact (h.pab m hm).2
  · by_cases e : j = k
    · subst e
      rw [up_at]
      have hfn : ∀ s c, f n s = none → V n s c = none := by
        intro s c hf
        cases hv : V n s c with
        | none => rfl
        | some v =>
          obtain ⟨c', u', hf', _⟩ := h.cur2 n s c v hv
          rw [hf] at hf'; cases hf'
      have hfs : ∀ s c u, f n s = some (c, u) → K s c = some u ∧ less c (pr j).b = true ∧ c ≠ ⟨0, 0⟩ ∧ ∀ d, less c d = true → V n s d = none := by
        intro s c u hf
        have hv := h.cur1 n s c u hf
        have hkc := h.vk n s c u hv
        refine ⟨hkc, less_of_not (h.vp n s c u hv) hl, ?_, ?_⟩
        · intro e
          have := (h.kf s c u hkc).1
          rw [e] at this
          simp at this
        · intro d hd
          cases hv' : V n s d with
          | none => rfl
          | some v =>
            obtain ⟨c', u', hf', hl'⟩ := h.cur2 n s d v hv'
            rw [hf] at hf'
            cases hf'
            rw [hd] at hl'
            cases hl'
      have hpl : ∀ s, s < 512 → (if s < 512 then addVote ((pr j).pl s) s (f n s) else (pr j).pl s) = addVote ((pr j).pl s) s (f n s) := fun s hs => if_pos hs
      have hsame : ∀ s, (if s < 512 then addVote ((pr j).pl s) s (f n s) else (pr j).pl s).acc = ((pr j).pl s).acc ∧ (if s < 512 then addVote ((pr j).pl s) s (f n s) else (pr j).pl s).picked = ((pr j).pl s).picked ∧ (if s < 512 then addVote ((pr j).pl s) s (f n s) else (pr j).pl s).value = ((pr j).pl s).value := by
        intro s
        split
        · exact addVote_same _ _ _
        · exact ⟨rfl, rfl, rfl⟩
      refine ⟨fun m hm => ?_, fun s m hm => ?_, fun s hs hb m hm c hc => ?_, fun s hs hb => ?_, fun s hp => ?_, fun s hp => ?_, fun hz => ?_⟩
      · simp only [bit_at, Bool.or_eq_true, decide_eq_true_eq] at hm
        by_cases e : m = n
        · subst e; rw [up_at]; exact ⟨hn, less_self _⟩
        · rw [up_ne _ _ e]
          rcases hm with hm | hm
          · exact q.prb m hm
          · exact (e hm.symm).elim
      · simp only at hm ⊢
        rw [(hsame s).1] at hm
        rw [(hsame s).2.1, (hsame s).2.2]
        exact q.acb s m hm
      · simp only [bit_at, Bool.or_eq_true, decide_eq_true_eq] at hm
        simp only [hpl s hs] at hb
        cases hf : f n s with
        | none =>
          rw [hf] at hb
          rcases hm with hm | hm
          · exact q.be0 s hs hb m hm c hc
          · subst hm; exact hfn s c hf
        | some x =>
          obtain ⟨c', u'⟩ := x
          obtain ⟨g1, g2, g3, g4⟩ := hfs s c' u' hf
          rw [hf] at hb
          simp only [addVote, bestOf, if_neg g3] at hb
          split at hb
          · exact (g3 hb).elim
          · rename_i hno
            exact (hno (.inl hb)).elim
      · simp only [hpl s hs] at hb ⊢
        cases hf : f n s with
        | none =>
          rw [hf] at hb
          simp only [addVote] at hb ⊢
          obtain ⟨g1, g2, g3⟩ := q.be1 s hs hb
          refine ⟨g1, g2, fun m hm d hd hd2 => ?_⟩
          simp only [bit_at, Bool.or_eq_true, decide_eq_true_eq] at hm
          rcases hm with hm | hm
          · exact g3 m hm d hd hd2
          · subst hm; exact hfn s d hf
        | some x =>
          obtain ⟨c', u'⟩ := x
          obtain ⟨g1, g2, g3, g4⟩ := hfs s c' u' hf
          simp only [addVote, bestOf, if_neg g3]
          by_cases hc : ((pr j).pl s).best.b = ⟨0, 0⟩ ∨ less ((pr j).pl s).best.b c' = true
          · rw [if_pos hc]
            refine ⟨g2, g1, fun m hm d hd hd2 => ?_⟩
            simp only [bit_at, Bool.or_eq_true, decide_eq_true_eq] at hm
            rcases hm with hm | hm
            · by_cases hz : ((pr j).pl s).best.b = ⟨0, 0⟩
              · exact q.be0 s hs hz m hm d hd2
              · rcases hc with hc | hc
                · exact (hz hc).elim
                · exact (q.be1 s hs hz).2.2 m hm d (less_trans hc hd) hd2
            · subst hm; exact g4 d hd
          · rw [if_neg hc]
            have hz : ((pr j).pl s).best.b ≠ ⟨0, 0⟩ := fun e => hc (.inl e)
            have hnl : less ((pr j).pl s).best.b c' = false := by
              cases hq : less ((pr j).pl s).best.b c'
              · rfl
              · exact (hc (.inr hq)).elim
            obtain ⟨r1, r2, r3⟩ := q.be1 s hs hz
            refine ⟨r1, r2, fun m hm d hd hd2 => ?_⟩
            simp only [bit_at, Bool.or_eq_true, decide_eq_true_eq] at hm
            rcases hm with hm | hm
            · exact r3 m hm d hd hd2
            · subst hm; exact g4 d (less_of_not hnl hd)
      · simp only at hp ⊢
        rw [(hsame s).2.1] at hp
        rw [(hsame s).2.2]
        exact q.pk1 s hp
      · simp only at hp ⊢
        rw [(hsame s).2.1] at hp
        exact q.pk0 s hp
      · simp only at hz
        rw [hz, h0] at hl
        cases hl
    · rw [up_ne _ _ e]; exact (h.kn j hj).raise hra
  · obtain ⟨q1, k', q2, q3, q4⟩ := h.kf s b v hv
    refine ⟨q1, k', q2, q3, ?_⟩
    by_cases e : k' = k
    · subst e; rw [up_at]; exact q4
    · rw [up_ne _ _ e]; exact q4

/-- One more pick. -/
def upK (K : Kh) (s : Nat) (b : Bl) (w : ByteArray) : Kh := fun s' b' => letI := blDec; if s' = s ∧ b' = b then some w else K s' b'
theorem upK_at (K : Kh) (s : Nat) (b : Bl) (w : ByteArray) : upK K s b w s b = some w := if_pos ⟨rfl, rfl⟩
theorem upK_ne (K : Kh) {s s' : Nat} {b b' : Bl} (w : ByteArray) (h : ¬ (s' = s ∧ b' = b)) : upK K s b w s' b' = K s' b' := if_neg h
theorem upK_grow {K : Kh} {s : Nat} {b : Bl} {w : ByteArray} (hn : K s b = none) : ∀ s' b' v, K s' b' = some v → upK K s b w s' b' = some v := by
  intro s' b' v hv
  rw [upK_ne]
  · exact hv
  · rintro ⟨rfl, rfl⟩
    rw [hn] at hv; cases hv

theorem Inv.pick (h : Inv N i pa f pr V K) {k s : Nat} (hk : k < N) (v0 : ByteArray) (hm : (pr k).may s = true) :
    ∃ K', Inv N i pa f (up pr k ((pr k).pick s v0)) V K' ∧ K' s (pr k).b = some ((pr k).picks s v0) ∧ (((pr k).pick s v0).pl s).picked = true ∧ (((pr k).pick s v0).pl s).value = (pr k).picks s v0 := by
  have e1 : (pr k).pick s v0 = (pr k).put s { (pr k).pl s with picked := true, value := ((pr k).pl s).would v0 } := if_pos hm
  have e2 : (pr k).picks s v0 = ((pr k).pl s).would v0 := if_pos hm
  have q := h.kn k hk
  have hmay : (pr k).led = true ∧ (pr k).asked s = true := by simpa [Pr.may] using hm
  have hs : s < 512 := by
    have := hmay.2
    simp [Pr.asked] at this
    omega
  have hled : N < 2 * ones (pr k).prom := by
    have := hmay.1
    simp [Pr.led, Pr.most, (h.nd k hk).2.1] at this
    exact this
  cases hp : ((pr k).pl s).picked
  · have hb0 : (pr k).b ≠ ⟨0, 0⟩ := by
      intro e
      obtain ⟨n, hn⟩ := some_bit hled
      rw [q.zero e] at hn
      simp at hn
    have hbk : (pr k).b.n = k ∧ 1 ≤ (pr k).b.r := (h.bk k hk).resolve_left hb0
    generalize hw : ((pr k).pl s).would v0 = w at *
    letI := blDec
    have hw' : w = if ((pr k).pl s).best.b = ⟨0, 0⟩ then v0 else ((pr k).pl s).best.v := by
      rw [← hw]
      unfold Pl.would
      rw [if_neg (by simp [hp])]
    have hkn := q.pk0 s hp
    have gr := upK_grow (w := w) hkn
    have hput : ∀ s', s' ≠ s → ((pr k).put s { (pr k).pl s with picked := true, value := w }).pl s' = (pr k).pl s' := fun s' hs' => if_neg hs'
    have hat : ((pr k).put s { (pr k).pl s with picked := true, value := w }).pl s = { (pr k).pl s with picked := true, value := w } := if_pos rfl
    refine ⟨upK K s (pr k).b w, ?_, by rw [upK_at, e2], by rw [e1, hat], by rw [e1, hat, e2]⟩
    rw [e1]
    refine ⟨h.five, fun j hj => ?_, fun j hj => ?_, fun j hj => ?_, fun j hj => ?_, h.pab, fun j hj => ?_, fun s' b v hv => ?_, fun s' b v hv => ?_, fun n s' b v hv => gr _ _ _ (h.vk n s' b v hv), h.vp, h.cur1, h.cur2⟩
    · by_cases e : j = k
      · subst e; rw [up_at]; exact h.nd j hj
      · rw [up_ne _ _ e]; exact h.nd j hj
    · by_cases e : j = k
      · subst e; rw [up_at]; exact h.seen j hj
      · rw [up_ne _ _ e]; exact h.seen j hj
    · by_cases e : j = k
      · subst e; rw [up_at]; exact h.bk j hj
      · rw [up_ne _ _ e]; exact h.bk j hj
    · by_cases e : j = k
      · subst e; rw [up_at]; exact h.bs j hj
      · rw [up_ne _ _ e]; exact h.bs j hj
    · by_cases e : j = k
      · subst e
        rw [up_at]
        have hbest : ∀ s', (((pr j).put s { (pr j).pl s with picked := true, value := w }).pl s').best = ((pr j).pl s').best := by
          intro s'
          by_cases e : s' = s
          · subst e; rw [hat]
          · rw [hput s' e]
        refine ⟨q.prb, fun s' n hn => ?_, fun s' hs' hb => ?_, fun s' hs' hb => ?_, fun s' hp' => ?_, fun s' hp' => ?_, q.zero⟩
        · by_cases e : s' = s
          · subst e
            rw [hat] at hn
            have := (q.acb s' n hn).2.1
            rw [hp] at this
            cases this
          · rw [hput s' e] at hn ⊢
            exact q.acb s' n hn
        · rw [hbest] at hb
          exact q.be0 s' hs' hb
        · rw [hbest] at hb ⊢
          obtain ⟨g1, g2, g3⟩ := q.be1 s' hs' hb
          exact ⟨g1, gr _ _ _ g2, g3⟩
        · by_cases e : s' = s
          · subst e
            rw [hat]
            exact upK_at _ _ _ _
          · rw [hput s' e] at hp' ⊢
            exact gr _ _ _ (q.pk1 s' hp')
        · by_cases e : s' = s
          · subst e
            rw [hat] at hp'
            cases hp'
          · rw [hput s' e] at hp'
            show upK K s (pr j).b w s' (pr j).b = none
            rw [upK_ne _ _ (fun q => e q.1)]
            exact q.pk0 s' hp'
      · rw [up_ne _ _ e]
        have q' := h.kn j hj
        refine ⟨q'.prb, q'.acb, q'.be0, fun s' hs' hb => ?_, fun s' hp' => gr _ _ _ (q'.pk1 s' hp'), fun s' hp' => ?_, q'.zero⟩
        · obtain ⟨g1, g2, g3⟩ := q'.be1 s' hs' hb
          exact ⟨g1, gr _ _ _ g2, g3⟩
        · rw [upK_ne]
          · exact q'.pk0 s' hp'
          · rintro ⟨-, eb⟩
            rcases h.bk j hj with z | z
            · exact hb0 (eb ▸ z)
            · rw [eb] at z
              have := z.1
              omega
    · by_cases e : s' = s ∧ b = (pr k).b
      · obtain ⟨rfl, rfl⟩ := e
        exact ⟨hbk.2, k, hk, hbk.1, by rw [up_at]; exact Int.le_refl _⟩
      · rw [upK_ne _ _ e] at hv
        obtain ⟨q1, k', q2, q3, q4⟩ := h.kf s' b v hv
        refine ⟨q1, k', q2, q3, ?_⟩
        by_cases e : k' = k
        · subst e; rw [up_at]; exact q4
        · rw [up_ne _ _ e]; exact q4
    · by_cases e : s' = s ∧ b = (pr k).b
      · obtain ⟨rfl, rfl⟩ := e
        rw [upK_at] at hv
        cases hv
        refine ⟨(pr k).prom, hled, q.prb, ?_⟩
        by_cases hz : ((pr k).pl s').best.b = ⟨0, 0⟩
        · exact .inl (fun n hn c hc => q.be0 s' hs hz n hn c hc)
        · obtain ⟨g1, g2, g3⟩ := q.be1 s' hs hz
          refine .inr ⟨_, g1, gr _ _ _ ?_, g3⟩
          rw [hw', if_neg hz]
          exact g2
      · rw [upK_ne _ _ e] at hv
        obtain ⟨S, g1, g2, g3⟩ := h.safe s' b v hv
        refine ⟨S, g1, g2, ?_⟩
        rcases g3 with g3 | ⟨c, c1, c2, c3⟩
        · exact .inl g3
        · exact .inr ⟨c, c1, gr _ _ _ c2, c3⟩
  · have hw : ((pr k).pl s).would v0 = ((pr k).pl s).value := by
      unfold Pl.would
      rw [if_pos hp]
    have hsm : (pr k).put s { (pr k).pl s with picked := true, value := ((pr k).pl s).would v0 } = pr k := by
      rw [hw]
      have : ({ (pr k).pl s with picked := true, value := ((pr k).pl s).value } : Pl) = (pr k).pl s := by
        generalize (pr k).pl s = z at *
        obtain ⟨a, b, c, d, e⟩ := z
        simp only at hp
        subst hp
        rfl
      rw [this]
      unfold Pr.put
      have : (fun j => if j = s then (pr k).pl s else (pr k).pl j) = (pr k).pl := by
        funext j
        split
        · rename_i e; rw [e]
        · rfl
      rw [this]
    rw [e1, hsm, e2, hw, up_same]
    exact ⟨K, h, q.pk1 s hp, hp, rfl⟩

/-- One more vote. -/
def upV (V : Vh) (n s : Nat) (b : Bl) (v : ByteArray) : Vh := fun n' s' b' => letI := blDec; if n' = n ∧ s' = s ∧ b' = b then some v else V n' s' b'
theorem upV_at (V : Vh) (n s : Nat) (b : Bl) (v : ByteArray) : upV V n s b v n s b = some v := if_pos ⟨rfl, rfl, rfl⟩
theorem upV_ne (V : Vh) {n s n' s' : Nat} {b b' : Bl} (v : ByteArray) (h : ¬ (n' = n ∧ s' = s ∧ b' = b)) : upV V n s b v n' s' b' = V n' s' b' := if_neg h

theorem Inv.accept (h : Inv N i pa f pr V K) {k n s : Nat} (hk : k < N) (hn : n < N) {v : ByteArray} (hK : K s (pr k).b = some v) (hl : less (pr k).b (pa n) = false) :
    ∃ V', Inv N i (up pa n (pr k).b) (up f n (upd (f n) s (pr k).b v)) pr V' K ∧ (∀ n s b v, V n s b = some v → V' n s b = some v) ∧ V' n s (pr k).b = some v := by
  generalize hb : (pr k).b = b at *
  have hbi : b.r ≤ i := by
    have := h.bs k hk
    have := h.seen k hk
    rw [hb] at *
    omega
  have hra := raised hl
  have gr : ∀ n' s' b' v', V n' s' b' = some v' → upV V n s b v n' s' b' = some v' := by
    intro n' s' b' v' hv
    by_cases e : n' = n ∧ s' = s ∧ b' = b
    · obtain ⟨rfl, rfl, rfl⟩ := e
      rw [upV_at]
      have := h.vk _ _ _ _ hv
      rw [hK] at this
      exact this
    · rw [upV_ne _ _ e]; exact hv
  have lo : ∀ n' s' c d, less (pa n') d = false → less c d = true → V n' s' c = none → upV V n s b v n' s' c = none := by
    intro n' s' c d hd hc hv
    rw [upV_ne]
    · exact hv
    · rintro ⟨rfl, -, rfl⟩
      have h2 := less_le hd hl
      rw [hc] at h2
      cases h2
  refine ⟨upV V n s b v, ⟨h.five, h.nd, h.seen, h.bk, h.bs, fun m hm => ⟨less_le (h.pab m hm).1 (hra m), ?_⟩, fun j hj => ?_, h.kf, fun s' b' v' hv => ?_, fun n' s' b' v' hv => ?_, fun n' s' b' v' hv => ?_, fun n' s' c u hf => ?_, fun n' s' b' v' hv => ?_⟩, gr, upV_at _ _ _ _ _⟩
  · by_cases e : m = n
    · subst e; rw [up_at]; exact hbi
    · rw [up_ne _ _ e]; exact (h.pab m hm).2
  · have q := h.kn j hj
    refine Knows.raise ⟨q.prb, fun s' n' hn' => ?_, fun s' hs' hz n' hn' c hc => ?_, fun s' hs' hz => ?_, q.pk1, q.pk0, q.zero⟩ hra
    · obtain ⟨g1, g2, g3⟩ := q.acb s' n' hn'
      exact ⟨g1, g2, gr _ _ _ _ g3⟩
    · exact lo _ _ _ _ (q.prb n' hn').2 hc (q.be0 s' hs' hz n' hn' c hc)
    · obtain ⟨g1, g2, g3⟩ := q.be1 s' hs' hz
      exact ⟨g1, g2, fun n' hn' d hd hd2 => lo _ _ _ _ (q.prb n' hn').2 hd2 (g3 n' hn' d hd hd2)⟩
  · obtain ⟨S, g1, g2, g3⟩ := h.safe s' b' v' hv
    refine SafeAt.raise ⟨S, g1, g2, ?_⟩ hra
    rcases g3 with g3 | ⟨c, c1, c2, c3⟩
    · exact .inl (fun n' hn' c hc => lo _ _ _ _ (g2 n' hn').2 hc (g3 n' hn' c hc))
    · exact .inr ⟨c, c1, c2, fun n' hn' d hd hd2 => lo _ _ _ _ (g2 n' hn').2 hd2 (c3 n' hn' d hd hd2)⟩
  · by_cases e : n' = n ∧ s' = s ∧ b' = b
    · obtain ⟨rfl, rfl, rfl⟩ := e
      rw [upV_at] at hv
      cases hv
      exact hK
    · rw [upV_ne _ _ e] at hv; exact h.vk _ _ _ _ hv
  · by_cases e : n' = n ∧ s' = s ∧ b' = b
    · obtain ⟨rfl, rfl, rfl⟩ := e
      rw [up_at]; exact less_self _
    · rw [upV_ne _ _ e] at hv; exact less_le (h.vp _ _ _ _ hv) (hra n')
  · by_cases e : n' = n
    · subst e
      rw [up_at] at hf
      unfold upd at hf
      split at hf
      · rename_i e2
        subst e2
        cases hf
        exact upV_at _ _ _ _ _
      · exact gr _ _ _ _ (h.cur1 _ _ _ _ hf)
    · rw [up_ne _ _ e] at hf
      exact gr _ _ _ _ (h.cur1 _ _ _ _ hf)
  · by_cases e : n' = n
    · subst e
      rw [up_at]
      unfold upd
      by_cases e2 : s' = s
      · subst e2
        refine ⟨b, v, if_pos rfl, ?_⟩
        by_cases e3 : b' = b
        · subst e3; exact less_self _
        · rw [upV_ne _ _ (fun q => e3 q.2.2)] at hv
          exact less_le (h.vp _ _ _ _ hv) hl
      · rw [if_neg e2]
        rw [upV_ne _ _ (fun q => e2 q.2.1)] at hv
        exact h.cur2 _ _ _ _ hv
    · rw [up_ne _ _ e]
      rw [upV_ne _ _ (fun q => e q.1)] at hv
      exact h.cur2 _ _ _ _ hv

theorem Inv.accepted (h : Inv N i pa f pr V K) {k n s : Nat} (hk : k < N) (hn : n < N) {v : ByteArray} (hp : ((pr k).pl s).picked = true) (hv : ((pr k).pl s).value = v) (hV : V n s (pr k).b = some v) :
    Inv N i pa f (up pr k ((pr k).put s { (pr k).pl s with acc := ((pr k).pl s).acc ||| 2 ^ n })) V K ∧ ((pr k).most (((pr k).pl s).acc ||| 2 ^ n) = true → Chosen N V s (pr k).b v) := by
  have q := h.kn k hk
  have hput : ∀ s', s' ≠ s → ((pr k).put s { (pr k).pl s with acc := ((pr k).pl s).acc ||| 2 ^ n }).pl s' = (pr k).pl s' := fun s' hs' => if_neg hs'
  have hat : ((pr k).put s { (pr k).pl s with acc := ((pr k).pl s).acc ||| 2 ^ n }).pl s = { (pr k).pl s with acc := ((pr k).pl s).acc ||| 2 ^ n } := if_pos rfl
  have hrest : ∀ s', (((pr k).put s { (pr k).pl s with acc := ((pr k).pl s).acc ||| 2 ^ n }).pl s').best = ((pr k).pl s').best ∧ (((pr k).put s { (pr k).pl s with acc := ((pr k).pl s).acc ||| 2 ^ n }).pl s').picked = ((pr k).pl s').picked ∧ (((pr k).put s { (pr k).pl s with acc := ((pr k).pl s).acc ||| 2 ^ n }).pl s').value = ((pr k).pl s').value := by
    intro s'
    by_cases e : s' = s
    · subst e; rw [hat]; exact ⟨rfl, rfl, rfl⟩
    · rw [hput s' e]; exact ⟨rfl, rfl, rfl⟩
  have hbits : ∀ m, (((pr k).pl s).acc ||| 2 ^ n).testBit m = true → m < N ∧ V m s (pr k).b = some v := by
    intro m hm
    simp only [bit_at, Bool.or_eq_true, decide_eq_true_eq] at hm
    rcases hm with hm | hm
    · obtain ⟨g1, g2, g3⟩ := q.acb s m hm
      exact ⟨g1, hv ▸ g3⟩
    · subst hm; exact ⟨hn, hV⟩
  refine ⟨⟨h.five, fun j hj => ?_, fun j hj => ?_, fun j hj => ?_, fun j hj => ?_, h.pab, fun j hj => ?_, fun s' b v hv => ?_, h.safe, h.vk, h.vp, h.cur1, h.cur2⟩, fun hm => ⟨_, ?_, hbits⟩⟩
  · by_cases e : j = k
    · subst e; rw [up_at]; exact h.nd j hj
    · rw [up_ne _ _ e]; exact h.nd j hj
  · by_cases e : j = k
    · subst e; rw [up_at]; exact h.seen j hj
    · rw [up_ne _ _ e]; exact h.seen j hj
  · by_cases e : j = k
    · subst e; rw [up_at]; exact h.bk j hj
    · rw [up_ne _ _ e]; exact h.bk j hj
  · by_cases e : j = k
    · subst e; rw [up_at]; exact h.bs j hj
    · rw [up_ne _ _ e]; exact h.bs j hj
  · by_cases e : j = k
    · subst e
      rw [up_at]
      refine ⟨q.prb, fun s' m hm => ?_, fun s' hs' hb => ?_, fun s' hs' hb => ?_, fun s' hp' => ?_, fun s' hp' => ?_, q.zero⟩
      · by_cases e : s' = s
        · subst e
          rw [hat] at hm ⊢
          obtain ⟨g1, g2⟩ := hbits m hm
          exact ⟨g1, hp, hv ▸ g2⟩
        · rw [hput s' e] at hm ⊢
          exact q.acb s' m hm
      · rw [(hrest s').1] at hb
        exact q.be0 s' hs' hb
      · rw [(hrest s').1] at hb ⊢
        exact q.be1 s' hs' hb
      · rw [(hrest s').2.1] at hp'
        rw [(hrest s').2.2]
        exact q.pk1 s' hp'
      · rw [(hrest s').2.1] at hp'
        exact q.pk0 s' hp'
    · rw [up_ne _ _ e]; exact h.kn j hj
  · obtain ⟨q1, k', q2, q3, q4⟩ := h.kf s' b v hv
    refine ⟨q1, k', q2, q3, ?_⟩
    by_cases e : k' = k
    · subst e; rw [up_at]; exact q4
    · rw [up_ne _ _ e]; exact q4
  · simp [Pr.most, (h.nd k hk).2.1] at hm
    exact hm
end

end Go.Proofs.Ytpgoedpodfidjaa
