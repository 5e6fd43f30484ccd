/-
  Proposers and acceptors, plainly: what is chosen at a slot is one thing.
-/
import Derived.Test.YtpgoedpodfidjaaPPlain
namespace Go.Proofs.Ytpgoedpodfidjaa
open Go.RowKit

/-- Another thing at k. -/
def up {α : Type} (g : Nat → α) (k : Nat) (y : α) : Nat → α := fun j => if j = k then y else g j
theorem up_at {α : Type} (g : Nat → α) (k : Nat) (y : α) : up g k y k = y := if_pos rfl
theorem up_ne {α : Type} (g : Nat → α) {k j : Nat} (y : α) (h : j ≠ k) : up g k y j = g j := if_neg h

theorem filter_two (l : List Nat) (p q r : Nat → Bool) (hp : ∀ k, p k = true → r k = true) (hq : ∀ k, q k = true → r k = true) (hd : ∀ k, p k = true → q k = true → False) : (l.filter p).length + (l.filter q).length ≤ (l.filter r).length := by
  induction l with
  | nil => simp
  | cons a l ih =>
    cases h1 : p a <;> cases h2 : q a
    · cases h3 : r a <;> simp [h1, h2, h3] <;> omega
    · have := hq a h2
      simp [h1, h2, this]; omega
    · have := hp a h1
      simp [h1, h2, this]; omega
    · exact (hd a h1 h2).elim
theorem below_five : ∀ N, N ≤ 5 → ((List.range 5).filter (fun k => decide (k < N))).length = N := by decide
/-- Of two who are more than half there is one in both. -/
theorem meet {N S T : Nat} (hN : N ≤ 5) (hS : ∀ n, S.testBit n = true → n < N) (hT : ∀ n, T.testBit n = true → n < N) (h1 : N < 2 * ones S) (h2 : N < 2 * ones T) : ∃ n, S.testBit n = true ∧ T.testBit n = true := by
  apply Classical.byContradiction
  intro hno
  have := filter_two (List.range 5) S.testBit T.testBit (fun k => decide (k < N)) (fun k hk => by simpa using hS k hk) (fun k hk => by simpa using hT k hk) (fun k a b => hno ⟨k, a, b⟩)
  rw [below_five N hN] at this
  unfold ones at h1 h2
  omega
theorem some_bit {N S : Nat} (h : N < 2 * ones S) : ∃ n, S.testBit n = true := by
  apply Classical.byContradiction
  intro hno
  have : ones S = 0 := by
    unfold ones
    rw [List.length_eq_zero_iff, List.filter_eq_nil_iff]
    intro a _ ha
    exact hno ⟨a, ha⟩
  omega
theorem bit_at (m n j : Nat) : (m ||| 2 ^ n).testBit j = (m.testBit j || decide (n = j)) := by
  rw [Nat.testBit_or, Nat.testBit_two_pow]

/-- Votes of all times, by node, slot and ballot; picks, by slot and ballot. -/
abbrev Vh := Nat → Nat → Bl → Option ByteArray
abbrev Kh := Nat → Bl → Option ByteArray

/-- What makes b's pick v at s safe. -/
def SafeAt (N : Nat) (pa : Nat → Bl) (V : Vh) (K : Kh) (s : Nat) (b : Bl) (v : ByteArray) : Prop :=
  ∃ S : Nat, N < 2 * ones S ∧ (∀ n, S.testBit n = true → n < N ∧ less (pa n) b = false) ∧
    ((∀ n, S.testBit n = true → ∀ c, less c b = true → V n s c = none) ∨ ∃ c, less c b = true ∧ K s c = some v ∧ ∀ n, S.testBit n = true → ∀ d, less c d = true → less d b = true → V n s d = none)

/-- What a proposer knows of a slot is so. -/
structure Knows (N : Nat) (pa : Nat → Bl) (V : Vh) (K : Kh) (x : Pr) : Prop where
  prb : ∀ n, x.prom.testBit n = true → n < N ∧ less (pa n) x.b = false
  acb : ∀ s n, (x.pl s).acc.testBit n = true → n < N ∧ (x.pl s).picked = true ∧ V n s x.b = some (x.pl s).value
  be0 : ∀ s, s < 512 → (x.pl s).best.b = ⟨0, 0⟩ → ∀ n, x.prom.testBit n = true → ∀ c, less c x.b = true → V n s c = none
  be1 : ∀ s, s < 512 → (x.pl s).best.b ≠ ⟨0, 0⟩ → less (x.pl s).best.b x.b = true ∧ K s (x.pl s).best.b = some (x.pl s).best.v ∧ ∀ n, x.prom.testBit n = true → ∀ d, less (x.pl s).best.b d = true → less d x.b = true → V n s d = none
  pk1 : ∀ s, (x.pl s).picked = true → K s x.b = some (x.pl s).value
  pk0 : ∀ s, (x.pl s).picked = false → K s x.b = none
  zero : x.b = ⟨0, 0⟩ → x.prom = 0

/-- All together, behind i steps. -/
structure Inv (N i : Nat) (pa : Nat → Bl) (f : Nat → Vs) (pr : Nat → Pr) (V : Vh) (K : Kh) : Prop where
  five : N ≤ 5
  nd : ∀ k, k < N → (pr k).me = k ∧ (pr k).nodes = N ∧ (pr k).frm = 0
  seen : ∀ k, k < N → 0 ≤ (pr k).seen ∧ (pr k).seen ≤ i
  bk : ∀ k, k < N → (pr k).b = ⟨0, 0⟩ ∨ ((pr k).b.n = k ∧ 1 ≤ (pr k).b.r)
  bs : ∀ k, k < N → (pr k).b.r ≤ (pr k).seen
  pab : ∀ n, n < N → less (pa n) ⟨0, 0⟩ = false ∧ (pa n).r ≤ i
  kn : ∀ k, k < N → Knows N pa V K (pr k)
  kf : ∀ s b v, K s b = some v → 1 ≤ b.r ∧ ∃ k, k < N ∧ b.n = (k : Nat) ∧ b.r ≤ (pr k).b.r
  safe : ∀ s b v, K s b = some v → SafeAt N pa V K s b v
  vk : ∀ n s b v, V n s b = some v → K s b = some v
  vp : ∀ n s b v, V n s b = some v → less (pa n) b = false
  cur1 : ∀ n s c u, f n s = some (c, u) → V n s c = some u
  cur2 : ∀ n s b v, V n s b = some v → ∃ c u, f n s = some (c, u) ∧ less c b = false

def rank (b : Bl) : Nat := b.r.toNat * 6 + b.n.toNat
theorem rank_lt {a b : Bl} (h : less a b = true) (ha : 1 ≤ a.r) (hn : 0 ≤ a.n) (h5 : a.n < 6) : rank a < rank b := by
  rw [less_iff] at h
  unfold rank
  omega

/-- More than half have voted for v at s for b. -/
def Chosen (N : Nat) (V : Vh) (s : Nat) (b : Bl) (v : ByteArray) : Prop := ∃ S : Nat, N < 2 * ones S ∧ ∀ n, S.testBit n = true → n < N ∧ V n s b = some v

section
variable {N i : Nat} {pa : Nat → Bl} {f : Nat → Vs} {pr : Nat → Pr} {V : Vh} {K : Kh}

theorem Inv.later (h : Inv N i pa f pr V K) {s : Nat} {b : Bl} {v : ByteArray} (hc : Chosen N V s b v) : ∀ m c u, rank c = m → K s c = some u → less c b = false → u = v := by
  intro m
  induction m using Nat.strongRecOn with
  | _ m ih =>
    intro c u hm hk hl
    obtain ⟨S, hS, hSv⟩ := hc
    obtain ⟨n0, hn0⟩ := some_bit hS
    cases hl2 : less b c
    · have e := less_total hl2 hl
      subst e
      have h1 := h.vk _ _ _ _ (hSv n0 hn0).2
      rw [hk] at h1
      exact (Option.some.inj h1)
    · obtain ⟨T, hT, hTp, hcase⟩ := h.safe s c u hk
      obtain ⟨n, hnS, hnT⟩ := meet h.five (fun n hn => (hSv n hn).1) (fun n hn => (hTp n hn).1) hS hT
      have hv := (hSv n hnS).2
      rcases hcase with hcase | ⟨d, hd, hkd, hdn⟩
      · rw [hcase n hnT b hl2] at hv; cases hv
      · cases hbd : less d b
        · obtain ⟨hd1, k, hk5, hkn, _⟩ := h.kf s d u hkd
          have := h.five
          exact ih (rank d) (by rw [← hm]; exact rank_lt hd hd1 (by omega) (by omega)) d u rfl hkd hbd
        · rw [hdn n hnT b hbd hl2] at hv; cases hv
/-- What is chosen is one thing. -/
theorem Inv.one (h : Inv N i pa f pr V K) {s : Nat} {b c : Bl} {v u : ByteArray} (h1 : Chosen N V s b v) (h2 : Chosen N V s c u) : u = v := by
  have key : ∀ {b c : Bl} {v u : ByteArray}, Chosen N V s b v → Chosen N V s c u → less c b = false → u = v := by
    intro b c v u h1 h2 hl
    obtain ⟨T, hT, hTv⟩ := h2
    obtain ⟨n, hn⟩ := some_bit hT
    exact h.later h1 _ c u rfl (h.vk _ _ _ _ (hTv n hn).2) hl
  cases hl : less c b
  · exact key h1 h2 hl
  · exact (key h2 h1 (less_asym hl)).symm
/-- Who has voted for what was chosen votes for it now. -/
theorem Inv.now (h : Inv N i pa f pr V K) {s : Nat} {b : Bl} {v : ByteArray} (hc : Chosen N V s b v) {n : Nat} (hv : V n s b = some v) : ∃ c, f n s = some (c, v) := by
  obtain ⟨c, u, hf, hl⟩ := h.cur2 n s b v hv
  have := h.later hc _ c u rfl (h.vk _ _ _ _ (h.cur1 n s c u hf)) hl
  subst this
  exact ⟨c, hf⟩
end

theorem Chosen.mono {N : Nat} {V V' : Vh} {s : Nat} {b : Bl} {v : ByteArray} (h : Chosen N V s b v) (hV : ∀ n s b v, V n s b = some v → V' n s b = some v) : Chosen N V' s b v := by
  obtain ⟨S, h1, h2⟩ := h
  exact ⟨S, h1, fun n hn => ⟨(h2 n hn).1, hV _ _ _ _ (h2 n hn).2⟩⟩

end Go.Proofs.Ytpgoedpodfidjaa
