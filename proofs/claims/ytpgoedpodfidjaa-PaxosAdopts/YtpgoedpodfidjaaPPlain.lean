/-
  Proposers, plainly; places as cells; nodes as bits.
-/
import Derived.Test.YtpgoedpodfidjaaBPlain
namespace Go.Proofs.Ytpgoedpodfidjaa
open Go.RowKit

/-- Whether two ballots are one. -/
def blDec (a b : Bl) : Decidable (a = b) :=
  if h : a.r = b.r ∧ a.n = b.n then .isTrue (by obtain ⟨_, _⟩ := a; obtain ⟨_, _⟩ := b; simp at h; rw [h.1, h.2]) else .isFalse (fun e => h (by rw [e]; exact ⟨rfl, rfl⟩))

/-- What is known of a slot. -/
structure Pl where
  voted : Bool
  best : Vo
  picked : Bool
  value : ByteArray
  acc : Nat
def zeroPl : Pl := ⟨false, ⟨0, ⟨0, 0⟩, .empty⟩, false, .empty, 0⟩
/-- A proposer. -/
structure Pr where
  me : Int
  nodes : Nat
  seen : Int
  b : Bl
  frm : Nat
  prom : Nat
  pl : Nat → Pl

/-- How many of five are told by bits. -/
def ones (m : Nat) : Nat := ((List.range 5).filter m.testBit).length

def Pr.new (me : Int) (nodes : Nat) : Pr := ⟨me, nodes, 0, ⟨0, 0⟩, 0, 0, fun _ => zeroPl⟩
def Pr.sees (x : Pr) (r : Int) : Pr := { x with seen := max x.seen (min r 1073741824) }
def Pr.begins (x : Pr) (a : Int) : Pr := { x with seen := min (x.seen + 1) 1073741824, b := ⟨min (x.seen + 1) 1073741824, x.me⟩, frm := a.toNat, prom := 0, pl := fun _ => zeroPl }
def Pr.mine (x : Pr) (b : Bl) : Bool := (letI := blDec b x.b; decide (b = x.b)) && !(letI := blDec b ⟨0, 0⟩; decide (b = ⟨0, 0⟩))
def Pr.isNode (x : Pr) (n : Int) : Bool := decide (0 ≤ n) && decide (n < x.nodes)
def Pr.asked (x : Pr) (s : Int) : Bool := decide ((x.frm : Int) ≤ s) && decide (s < 512)
def Pr.most (x : Pr) (m : Nat) : Bool := decide (x.nodes < 2 * ones m)
def Pr.led (x : Pr) : Bool := x.most x.prom
def Pr.put (x : Pr) (s : Nat) (q : Pl) : Pr := { x with pl := fun k => if k = s then q else x.pl k }
def bestOf (q : Pl) (v : Vo) : Vo := letI := blDec; if v.b = ⟨0, 0⟩ then q.best else if q.best.b = ⟨0, 0⟩ ∨ less q.best.b v.b = true then v else q.best
def Pr.vote (x : Pr) (v : Vo) : Pr := if x.asked v.s = true then x.put v.s.toNat { x.pl v.s.toNat with voted := true, best := bestOf (x.pl v.s.toNat) v } else x
def Pr.counts (x : Pr) (n : Int) (b : Bl) : Bool := x.mine b && x.isNode n && !x.prom.testBit n.toNat
def Pr.promise (x : Pr) (n : Int) (b : Bl) (l : List Vo) : Pr :=
  if (x.sees b.r).counts n b = true then l.foldl Pr.vote { x.sees b.r with prom := (x.sees b.r).prom ||| 2 ^ n.toNat } else x.sees b.r
def Pr.may (x : Pr) (s : Int) : Bool := x.led && x.asked s
def Pl.would (q : Pl) (v : ByteArray) : ByteArray := letI := blDec; if q.picked = true then q.value else if q.best.b = ⟨0, 0⟩ then v else q.best.v
def Pr.pick (x : Pr) (s : Int) (v : ByteArray) : Pr := if x.may s = true then x.put s.toNat { x.pl s.toNat with picked := true, value := (x.pl s.toNat).would v } else x
def Pr.picks (x : Pr) (s : Int) (v : ByteArray) : ByteArray := if x.may s = true then (x.pl s.toNat).would v else .empty
def Pr.took (x : Pr) (n : Int) (b : Bl) (s : Int) : Bool := x.mine b && x.isNode n && (decide (0 ≤ s) && (x.pl s.toNat).picked)
def Pr.accept (x : Pr) (n : Int) (b : Bl) (s : Int) : Pr := if x.took n b s = true then x.put s.toNat { x.pl s.toNat with acc := (x.pl s.toNat).acc ||| 2 ^ n.toNat } else x
def Pr.accepts (x : Pr) (n : Int) (b : Bl) (s : Int) : Bool := x.took n b s && x.most ((x.pl s.toNat).acc ||| 2 ^ n.toNat)
def Pr.isOpen (x : Pr) (s : Nat) : Bool := ((x.pl s).voted || (x.pl s).picked) && !x.most (x.pl s).acc
def Pr.opens (x : Pr) : List Nat := (List.range 512).filter x.isOpen

/-- What every proposer keeps. -/
structure Pr.Ok (x : Pr) : Prop where
  one : 1 ≤ x.nodes
  five : x.nodes ≤ 5
  seen0 : 0 ≤ x.seen
  seen1 : x.seen ≤ 1073741824
  prom : x.prom < 32
  acc : ∀ s, (x.pl s).acc < 32
  frm : x.frm ≤ 9223372036854775807

theorem Pr.Ok.sees {x : Pr} (h : x.Ok) (r : Int) : (x.sees r).Ok :=
  ⟨h.one, h.five, by have := h.seen0; show 0 ≤ max _ _; omega, by have := h.seen1; show max _ _ ≤ _; omega, h.prom, h.acc, h.frm⟩
theorem Pr.Ok.begins {x : Pr} (h : x.Ok) {a : Int} (ha : a ≤ 9223372036854775807) : (x.begins a).Ok :=
  ⟨h.one, h.five, by have := h.seen0; show 0 ≤ min _ _; omega, by have := h.seen1; show min _ _ ≤ _; omega, (by decide : 0 < 32), fun _ => (by decide : 0 < 32), by show a.toNat ≤ _; omega⟩
theorem Pr.Ok.put {x : Pr} (h : x.Ok) (s : Nat) {q : Pl} (hq : q.acc < 32) : (x.put s q).Ok :=
  ⟨h.one, h.five, h.seen0, h.seen1, h.prom, fun k => by show (if k = s then q else x.pl k).acc < 32; split; exact hq; exact h.acc k, h.frm⟩
theorem bit_or {m k : Nat} (hm : m < 32) (hk : k < 5) : m ||| 2 ^ k < 32 :=
  Nat.or_lt_two_pow (n := 5) hm (Nat.pow_lt_pow_right (by decide) hk)
theorem Pr.Ok.promised {x : Pr} (h : x.Ok) {n : Nat} (hn : n < 5) : ({ x with prom := x.prom ||| 2 ^ n } : Pr).Ok :=
  ⟨h.one, h.five, h.seen0, h.seen1, bit_or h.prom hn, h.acc, h.frm⟩

def pcells (q : Pl) : List Value := [.bool q.voted, .int .i64 q.best.s, .int .i64 q.best.b.r, .int .i64 q.best.b.n, .string q.best.v, .bool q.picked, .string q.value, .int .u64 q.acc]
def prow (f : Nat → Pl) (n : Nat) : List Value := (List.range n).flatMap fun k => pcells (f k)

theorem prow_succ (f : Nat → Pl) (n : Nat) : prow f (n + 1) = prow f n ++ pcells (f n) := by simp [prow, List.range_succ]
theorem prow_length (f : Nat → Pl) (n : Nat) : (prow f n).length = n * 8 := by
  induction n with
  | zero => rfl
  | succ n ih => rw [prow_succ, List.length_append, ih]; simp [pcells]; omega
theorem prow_at (f : Nat → Pl) (n : Nat) : ∀ i, i < n * 8 → (prow f n)[i]? = (pcells (f (i / 8)))[i % 8]? := by
  induction n with
  | zero => intro i hi; omega
  | succ n ih =>
    intro i hi
    rw [prow_succ]
    by_cases h : i < n * 8
    · rw [List.getElem?_append_left (by rw [prow_length]; exact h), ih i h]
    · rw [List.getElem?_append_right (by rw [prow_length]; omega), prow_length, show i / 8 = n by omega, show i - n * 8 = i % 8 by omega]
theorem prow_get (f : Nat → Pl) {n k : Nat} (hk : k < n) (j : Nat) (hj : j < 8) : (prow f n)[k * 8 + j]? = (pcells (f k))[j]? := by
  rw [prow_at f n _ (by omega), show (k * 8 + j) / 8 = k by omega, show (k * 8 + j) % 8 = j by omega]
theorem prow_congr {f g : Nat → Pl} {n : Nat} (h : ∀ k, k < n → f k = g k) : prow f n = prow g n := by
  induction n with
  | zero => rfl
  | succ n ih => rw [prow_succ, prow_succ, ih (fun k hk => h k (by omega)), h n (by omega)]
theorem prow_set {f g : Nat → Pl} {n k j : Nat} {u : Value} (_ : k < n) (hj : j < 8) (hg : pcells (g k) = (pcells (f k)).set j u) (ho : ∀ i, i ≠ k → g i = f i) : (prow f n).set (k * 8 + j) u = prow g n := by
  apply List.ext_getElem?
  intro i
  by_cases hi : i < n * 8
  · rw [prow_at g n i hi]
    by_cases e : i = k * 8 + j
    · subst e
      rw [List.getElem?_set_self (by rw [prow_length]; exact hi), show (k * 8 + j) / 8 = k by omega, show (k * 8 + j) % 8 = j by omega, hg, List.getElem?_set_self (by simpa [pcells] using hj)]
    · rw [List.getElem?_set_ne (Ne.symm e), prow_at f n i hi]
      by_cases e2 : i / 8 = k
      · rw [e2, hg, List.getElem?_set_ne (by omega)]
      · rw [ho _ e2]
  · rw [List.getElem?_eq_none (by rw [List.length_set, prow_length]; omega), List.getElem?_eq_none (by rw [prow_length]; omega)]
theorem pcells_one (q : Pl) : ∀ u ∈ pcells q, u.oneCell' = true := by
  intro u hu
  simp [pcells] at hu
  rcases hu with rfl | rfl | rfl | rfl | rfl | rfl | rfl | rfl <;> rfl

theorem has_bit : ∀ m : Nat, m < 32 → ∀ k, k < 5 → (bits .and .u64 ((m : Int) / 2 ^ k) 1 == 1) = m.testBit k := by decide +kernel
theorem add_bit : ∀ m : Nat, m < 32 → ∀ k, k < 5 → bits .or .u64 (m : Int) (2 ^ k) = ((m ||| 2 ^ k : Nat) : Int) := by decide +kernel
theorem wrap_bit : ∀ k : Nat, k < 5 → IntKind.u64.wrap (2 ^ k) = 2 ^ k := by decide +kernel

end Go.Proofs.Ytpgoedpodfidjaa
