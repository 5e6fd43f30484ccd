/-
  Chains plainly: links, what Make answers, which link is the first that is wrong, their bytes, what is read of bytes.
-/
import Derived.Test.YtflleblcliobdaaSumPlain
import Derived.Test.YtflleblcliobdaaPlain
namespace Go.Proofs.Ytflleblcliobdaa

theorem sha_len (bs : List UInt8) : (shaOf bs).length = 32 := by
  have h : ∀ l : List Nat, (l.flatMap fun w => bytesOf w 4).length = 4 * l.length := by
    intro l
    induction l with
    | nil => rfl
    | cons x l ih =>
      simp only [List.flatMap_cons, List.length_append, bytesOf_length, List.length_cons]
      omega
  unfold shaOf
  rw [h]
  rfl

/-- A link: its text and its head. -/
structure Li where
  t : List UInt8
  h : List UInt8
  len : h.length = 32
theorem Li.ext' {x y : Li} (ht : x.t = y.t) (hh : x.h = y.h) : x = y := by
  obtain ⟨a, b, c⟩ := x
  obtain ⟨a', b', c'⟩ := y
  simp only at ht hh
  subst ht hh
  rfl

/-- The head of a text behind a head. -/
def nxt (h t : List UInt8) : List UInt8 := shaOf (h ++ t)
theorem nxt_len (h t : List UInt8) : (nxt h t).length = 32 := sha_len _
def zero32 : List UInt8 := List.replicate 32 0
theorem zero32_len : zero32.length = 32 := rfl
/-- The head behind the first k texts. -/
def hAt (h : List UInt8) (ts : List (List UInt8)) (k : Nat) : List UInt8 := (ts.take k).foldl nxt h
theorem fold_len : ∀ (ts : List (List UInt8)) (h : List UInt8), h.length = 32 → (ts.foldl nxt h).length = 32
  | [], _, hl => hl
  | t :: ts, h, _ => fold_len ts (nxt h t) (nxt_len h t)
theorem hAt_len {h : List UInt8} (hl : h.length = 32) (ts : List (List UInt8)) (k : Nat) : (hAt h ts k).length = 32 := fold_len _ _ hl
theorem hAt_zero (h : List UInt8) (ts : List (List UInt8)) : hAt h ts 0 = h := rfl
theorem hAt_succ (h : List UInt8) (ts : List (List UInt8)) (k : Nat) (hk : k < ts.length) : hAt h ts (k + 1) = nxt (hAt h ts k) ts[k] := by
  unfold hAt
  rw [List.take_succ_eq_append_getElem hk, List.foldl_append]
  rfl
theorem hAt_take (h : List UInt8) (ts : List (List UInt8)) (k m : Nat) (hk : k ≤ m) : hAt h (ts.take m) k = hAt h ts k := by
  unfold hAt
  rw [List.take_take, Nat.min_eq_left hk]
theorem hAt_append (h : List UInt8) (ts us : List (List UInt8)) (k : Nat) (hk : k ≤ ts.length) : hAt h (ts ++ us) k = hAt h ts k := by
  unfold hAt
  rw [List.take_append_of_le_length hk]

/-- The chain of the texts behind the head h. -/
def mkF (h : List UInt8) : List (List UInt8) → List Li
  | [] => []
  | t :: ts => ⟨t, nxt h t, nxt_len h t⟩ :: mkF (nxt h t) ts
def mkC (ts : List (List UInt8)) : List Li := mkF zero32 ts
theorem mkF_length : ∀ (ts : List (List UInt8)) (h : List UInt8), (mkF h ts).length = ts.length
  | [], _ => rfl
  | t :: ts, h => by rw [mkF, List.length_cons, List.length_cons, mkF_length ts]
theorem mkC_length (ts : List (List UInt8)) : (mkC ts).length = ts.length := mkF_length ts _
theorem mkF_append : ∀ (ts us : List (List UInt8)) (h : List UInt8), mkF h (ts ++ us) = mkF h ts ++ mkF (ts.foldl nxt h) us
  | [], _, _ => rfl
  | t :: ts, us, h => by
    rw [List.cons_append, mkF, mkF_append ts us, mkF]
    rfl
theorem mkC_snoc (ts : List (List UInt8)) (t : List UInt8) : mkC (ts ++ [t]) = mkC ts ++ [⟨t, nxt (hAt zero32 ts ts.length) t, nxt_len _ _⟩] := by
  unfold mkC
  rw [mkF_append]
  unfold hAt
  rw [List.take_length]
  rfl
theorem mkC_take_succ (ts : List (List UInt8)) (k : Nat) (hk : k < ts.length) : mkC (ts.take (k + 1)) = mkC (ts.take k) ++ [⟨ts[k], nxt (hAt zero32 ts k) ts[k], nxt_len _ _⟩] := by
  rw [List.take_succ_eq_append_getElem hk, mkC_snoc]
  congr 2
  apply Li.ext'
  · rfl
  · simp only [List.length_take, Nat.min_eq_left (Nat.le_of_lt hk)]
    rw [hAt_take _ _ _ _ (Nat.le_refl _)]
theorem mkF_take : ∀ (ts : List (List UInt8)) (h : List UInt8) (k : Nat), (mkF h ts).take k = mkF h (ts.take k)
  | [], h, k => by simp [mkF]
  | t :: ts, h, 0 => by simp [mkF]
  | t :: ts, h, k + 1 => by rw [mkF, List.take_succ_cons, List.take_succ_cons, mkF, mkF_take ts]
theorem mkC_take (ts : List (List UInt8)) (k : Nat) : (mkC ts).take k = mkC (ts.take k) := mkF_take ts _ k
theorem mkF_get : ∀ (ts : List (List UInt8)) (h : List UInt8) (k : Nat) (hk : k < ts.length) (hk' : k < (mkF h ts).length), (mkF h ts)[k].t = ts[k] ∧ (mkF h ts)[k].h = hAt h ts (k + 1)
  | t :: ts, h, 0, _, _ => ⟨rfl, rfl⟩
  | t :: ts, h, k + 1, hk, hk' => by
    have := mkF_get ts (nxt h t) k (by simpa using hk) (by simpa [mkF] using hk')
    exact this
theorem mkC_get (ts : List (List UInt8)) (k : Nat) (hk : k < ts.length) : (mkC ts)[k]'(by rw [mkC_length]; exact hk) = ⟨ts[k], hAt zero32 ts (k + 1), hAt_len zero32_len _ _⟩ := by
  obtain ⟨h1, h2⟩ := mkF_get ts zero32 k hk (by rw [mkF_length]; exact hk)
  exact Li.ext' h1 h2
/-- The texts of links. -/
def txs (xs : List Li) : List (List UInt8) := xs.map (·.t)
theorem txs_length (xs : List Li) : (txs xs).length = xs.length := by simp [txs]
theorem txs_get (xs : List Li) (k : Nat) (hk : k < xs.length) : (txs xs)[k]'(by rw [txs_length]; exact hk) = xs[k].t := by simp [txs]
theorem txs_take (xs : List Li) (k : Nat) : txs (xs.take k) = (txs xs).take k := by simp [txs]
theorem txs_mkF : ∀ (ts : List (List UInt8)) (h : List UInt8), txs (mkF h ts) = ts
  | [], _ => rfl
  | t :: ts, h => by
    show t :: txs (mkF (nxt h t) ts) = _
    rw [txs_mkF ts]
theorem txs_mkC (ts : List (List UInt8)) : txs (mkC ts) = ts := txs_mkF ts _

/-- Is the head of link k right? -/
def okL (xs : List Li) (k : Nat) (_hk : k < xs.length) : Prop := xs[k].h = hAt zero32 (txs xs) (k + 1)
/-- n is the first link whose head is wrong, or how many there are. -/
structure IsChk (xs : List Li) (n : Nat) : Prop where
  le : n ≤ xs.length
  ok : ∀ k (_ : k < n) (h : k < xs.length), okL xs k h
  no : ∀ h : n < xs.length, ¬ okL xs n h
theorem IsChk.one {xs : List Li} {n m : Nat} (h : IsChk xs n) (k : IsChk xs m) : n = m := by
  rcases Nat.lt_trichotomy n m with hl | e | hl
  · have := k.le
    exact absurd (k.ok n hl (by omega)) (h.no (by omega))
  · exact e
  · have := h.le
    exact absurd (h.ok m hl (by omega)) (k.no (by omega))
theorem IsChk.mk' (ts : List (List UInt8)) : IsChk (mkC ts) ts.length := by
  refine ⟨by rw [mkC_length]; exact Nat.le_refl _, fun k hk h => ?_, fun h => absurd h (by rw [mkC_length]; omega)⟩
  unfold okL
  rw [txs_mkC]
  exact congrArg Li.h (mkC_get ts k hk)

/-- The bytes of one link, and of several. -/
def encI (x : Li) : List UInt8 := enc (x.t.length : Nat) 4 ++ x.t ++ x.h
def encB (xs : List Li) : List UInt8 := xs.flatMap encI
def encL (xs : List Li) : List UInt8 := enc (xs.length : Nat) 4 ++ encB xs
theorem encI_len (x : Li) : (encI x).length = x.t.length + 36 := by
  unfold encI
  simp only [List.length_append, enc_length, x.len]
  omega
theorem encB_snoc (xs : List Li) (x : Li) : encB (xs ++ [x]) = encB xs ++ encI x := by simp [encB]
theorem encB_take_succ (xs : List Li) (k : Nat) (hk : k < xs.length) : encB (xs.take (k + 1)) = encB (xs.take k) ++ encI xs[k] := by
  rw [List.take_succ_eq_append_getElem hk, encB_snoc]
/-- How many bytes they are. -/
def wgt (xs : List Li) : Nat := (xs.map fun x => x.t.length + 36).sum
theorem encB_len : ∀ xs : List Li, (encB xs).length = wgt xs
  | [] => rfl
  | x :: xs => by
    show (encI x ++ encB xs).length = _
    rw [List.length_append, encI_len, encB_len xs]
    rfl
theorem encL_len (xs : List Li) : (encL xs).length = wgt xs + 4 := by
  unfold encL
  rw [List.length_append, enc_length, encB_len]
  omega
theorem wgt_take_le : ∀ (xs : List Li) (k : Nat), wgt (xs.take k) ≤ wgt xs
  | [], k => by simp [wgt]
  | x :: xs, 0 => by simp [wgt]
  | x :: xs, k + 1 => by
    have := wgt_take_le xs k
    simp only [wgt, List.take_succ_cons, List.map_cons, List.sum_cons] at this ⊢
    omega
theorem wgt_few {M : Nat} : ∀ xs : List Li, (∀ x ∈ xs, x.t.length ≤ M) → wgt xs ≤ xs.length * (M + 36)
  | [], _ => by simp [wgt]
  | x :: xs, h => by
    have := wgt_few xs (fun y hy => h y (by simp [hy]))
    have hx := h x (by simp)
    simp only [wgt, List.map_cons, List.sum_cons, List.length_cons] at this ⊢
    rw [Nat.add_mul, Nat.one_mul]
    omega

/-- The next n bytes. -/
def RS.raw (s : RS) (bs : List UInt8) (n : Nat) : List UInt8 × RS :=
  if s.why = 0 then (if s.pos + n ≤ bs.length then ((bs.drop s.pos).take n, ⟨s.pos + n, 0⟩) else ([], ⟨bs.length, 10⟩)) else ([], s)
theorem RS.raw_pos (s : RS) (bs : List UInt8) (n : Nat) (h : s.pos ≤ bs.length) : (s.raw bs n).2.pos ≤ bs.length := by
  unfold RS.raw
  split
  · split <;> simp <;> omega
  · exact h
/-- A head out of so many bytes: noughts behind. -/
def pad32 (l : List UInt8) : List UInt8 := (l ++ zero32).take 32
theorem pad32_len (l : List UInt8) : (pad32 l).length = 32 := by
  unfold pad32
  rw [List.length_take, List.length_append, zero32_len]
  omega
theorem pad32_self {l : List UInt8} (h : l.length = 32) : pad32 l = l := by
  unfold pad32
  rw [← h, List.take_left]
/-- One link that is read, and the Reader behind it. -/
def rdOne (bs : List UInt8) (s : RS) : Li × RS := (⟨(s.text bs 4000).1, pad32 ((s.text bs 4000).2.raw bs 32).1, pad32_len _⟩, ((s.text bs 4000).2.raw bs 32).2)
/-- n links that are read: as long as nothing is refused. -/
def rdN (bs : List UInt8) : Nat → RS → List Li → List Li × RS
  | 0, s, xs => (xs, s)
  | n + 1, s, xs => if s.why ≠ 0 then (xs, s) else rdN bs n (rdOne bs s).2 (xs ++ [(rdOne bs s).1])
theorem rdN_no (bs : List UInt8) (n : Nat) (s : RS) (xs : List Li) (h : s.why ≠ 0) : rdN bs n s xs = (xs, s) := by
  cases n with
  | zero => rfl
  | succ n => rw [rdN, if_pos h]
/-- What is read of the bytes, ahead of all judging. -/
def rdAll (bs : List UInt8) : List Li × RS := rdN bs ((⟨0, 0⟩ : RS).count bs 4096).1 ((⟨0, 0⟩ : RS).count bs 4096).2 []
/-- What Decode answers: the links, why not and where. -/
structure IsDec (bs : List UInt8) (xs : List Li) (why at_ : Int) : Prop where
  no : ((rdAll bs).2.end_ bs).1 ≠ 0 → xs = [] ∧ why = ((rdAll bs).2.end_ bs).1 ∧ at_ = ((rdAll bs).2.end_ bs).2
  yes : ((rdAll bs).2.end_ bs).1 = 0 → ∃ n, IsChk (rdAll bs).1 n ∧ ((n < (rdAll bs).1.length → xs = [] ∧ why = 12 ∧ at_ = ((encL ((rdAll bs).1.take n)).length : Nat)) ∧ (n = (rdAll bs).1.length → xs = (rdAll bs).1 ∧ why = 0 ∧ at_ = 0))
theorem IsDec.one {bs : List UInt8} {xs ys : List Li} {y z a b : Int} (h : IsDec bs xs y a) (k : IsDec bs ys z b) : xs = ys ∧ y = z ∧ a = b := by
  by_cases e : ((rdAll bs).2.end_ bs).1 = 0
  · obtain ⟨n, i1, h1, h2⟩ := h.yes e
    obtain ⟨m, i2, k1, k2⟩ := k.yes e
    obtain rfl := i1.one i2
    rcases Nat.lt_or_ge n (rdAll bs).1.length with hl | hl
    · obtain ⟨rfl, rfl, rfl⟩ := h1 hl
      obtain ⟨rfl, rfl, rfl⟩ := k1 hl
      exact ⟨rfl, rfl, rfl⟩
    · have e2 : n = (rdAll bs).1.length := Nat.le_antisymm i1.le hl
      obtain ⟨rfl, rfl, rfl⟩ := h2 e2
      obtain ⟨rfl, rfl, rfl⟩ := k2 e2
      exact ⟨rfl, rfl, rfl⟩
  · obtain ⟨rfl, rfl, rfl⟩ := h.no e
    obtain ⟨rfl, rfl, rfl⟩ := k.no e
    exact ⟨rfl, rfl, rfl⟩

end Go.Proofs.Ytflleblcliobdaa
