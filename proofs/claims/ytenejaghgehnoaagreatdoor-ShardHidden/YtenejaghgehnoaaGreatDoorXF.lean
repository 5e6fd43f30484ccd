/-
  Texts of the proofs, 6 of 6.
-/
import Derived.Test.YtenejaghgehnoaaGreatDoorXE
import Derived.Test.YtenejaghgehnoaaGreatDoorXC
import Derived.Deep.CutBlock
import Derived.Laws.Runes
import Derived.Laws.Cover4
import Derived.Test.YtenejaghgehnoaaGreatDoorXB
import Derived.BigQuiet
import Derived.Test.YtenejaghgehnoaaGreatDoorXA
import Derived.SizedLaws
import Derived.ProofKit
import Derived.OpenShut
import Derived.ChangeMaps5
import Derived.Below
import Derived.Test.YtenejaghgehnoaaGreatDoorRows
import Derived.Deep.Slices
import Derived.Deep.Grids
import Derived.Lib.SmallJoins
import Derived.Lib.LaidTab
import Derived.Lay
import Derived.LaidHandle
import Derived.MakeChecks
import Derived.Stop.LaidErr
namespace Go.Proofs.YtenejaghgehnoaaGreatDoor
open Go.RowKit Go.Maps

/-- Nothing is prepared, decided or locked. -/
structure Idle (s : Sh) : Prop where
  ps : s.ps = []
  outs : s.outs = []
  lk : s.lk = []
theorem Idle.start (ts : List Ty) (lo hi : Int) : Idle (newS ts lo hi) := ⟨rfl, rfl, rfl⟩
theorem once_rest (s : Sh) (c : Cm) : (onceP s c).2 = { s with cs := (onceP s c).2.cs } := by
  unfold onceP
  by_cases h1 : staleP s c.ops = true
  · rw [if_pos h1]
  · rw [if_neg h1]
    by_cases h2 : busyP s.lk [] c.ops = true
    · rw [if_pos h2]
    · rw [if_neg h2]
      by_cases h3 : (runP s.types 32 c.ops s.cs [] 0).why = 0
      · simp only [if_pos h3]
      · simp only [if_neg h3]
theorem do_once_eq {s : Sh} {c : Cm} (hk : c.kind = 1) : (doP s c).2 = { s with cs := (doP s c).2.cs } := by
  unfold doP
  by_cases h : formedP c = false
  · rw [if_pos h]
  · rw [if_neg h, if_pos hk]
    exact once_rest s c
theorem Idle.once {s : Sh} (h : Idle s) {c : Cm} (hk : c.kind = 1) : Idle (doP s c).2 := by
  rw [do_once_eq hk]
  exact ⟨h.ps, h.outs, h.lk⟩
theorem tame_formed (c : Cm) {k : Int} (hk : k = 1 ∨ k = 2 ∨ k = 3 ∨ k = 4) : formedP { tameP c with kind := k } = true := by
  have h1 := tameL_len c.ops
  have ho : opsOk { tameP c with kind := k } = true := by
    unfold opsOk tameP
    simp only [List.length_nil, decide_true, Bool.true_or, Bool.and_true, Bool.and_eq_true, decide_eq_true_eq, List.all_eq_true]
    exact ⟨⟨by omega, by omega⟩, fun o h => ⟨(tameL_mem h).2.1, (tameL_mem h).2.2⟩⟩
  have ht : (tameP c).tx ≠ [] := fun e => by
    have : (tameP c).tx.length = 1 := txT_len _
    rw [e] at this
    cases this
  unfold formedP
  rcases hk with rfl | rfl | rfl | rfl
  · rw [if_pos rfl]; exact ho
  · rw [if_neg (by dsimp only; decide), if_pos rfl, ho]; simp [ht]
  · rw [if_neg (by dsimp only; decide), if_neg (by dsimp only; decide), if_pos (.inl rfl)]; simp [ht]
  · rw [if_neg (by dsimp only; decide), if_neg (by dsimp only; decide), if_pos (.inr rfl)]; simp [ht]
theorem end_formed (k : Int) {x : List UInt8} (hk : k = 3 ∨ k = 4) (hx : x ≠ []) : formedP (cmdE k x) = true := by
  unfold formedP cmdE
  rcases hk with rfl | rfl
  · rw [if_neg (by dsimp only; decide), if_neg (by dsimp only; decide), if_pos (.inl rfl)]; simp [hx]
  · rw [if_neg (by dsimp only; decide), if_neg (by dsimp only; decide), if_pos (.inr rfl)]; simp [hx]
theorem do_prepare {s : Sh} {c : Cm} (hf : formedP c = true) (hk : c.kind = 2) : doP s c = prepareP s c := by
  unfold doP
  rw [if_neg (by simp [hf]), if_neg (by rw [hk]; decide), if_pos hk]
theorem do_commit {s : Sh} {x : List UInt8} (hx : x ≠ []) : doP s (cmdE 3 x) = commitP s x := by
  unfold doP
  rw [if_neg (by rw [end_formed 3 (.inl rfl) hx]; decide), if_neg (by unfold cmdE; dsimp only; decide), if_neg (by unfold cmdE; dsimp only; decide), if_pos (by rfl)]
  rfl
theorem do_abort {s : Sh} {x : List UInt8} (hx : x ≠ []) : doP s (cmdE 4 x) = abortP s x := by
  unfold doP
  rw [if_neg (by rw [end_formed 4 (.inr rfl) hx]; decide), if_neg (by unfold cmdE; dsimp only; decide), if_neg (by unfold cmdE; dsimp only; decide), if_neg (by unfold cmdE; dsimp only; decide), if_pos (by rfl)]
  rfl
/-- What a Prepare makes of a shard where nothing is prepared. -/
theorem prepare_idle {s : Sh} (h : Idle s) (c : Cm) : ((prepareP s c).1.kind = 1 ∧ (runP s.types 32 c.ops s.cs [] 0).why = 0 ∧ prepareP s c = (⟨1, (runP s.types 32 c.ops s.cs [] 0).texts, 0, 0⟩, { s with lk := lgives s.lk c.tx (wantsP c.ops), ps := [(c.tx, c.ops)] })) ∨ ((prepareP s c).1.kind ≠ 1 ∧ (prepareP s c).2 = s) := by
  have e : look s.ps c.tx = none := by rw [h.ps]; rfl
  have e2 : look s.outs c.tx = none := by rw [h.outs]; rfl
  unfold prepareP
  simp only [e, e2, ne_eq, not_true_eq_false, if_false]
  by_cases h1 : staleP s c.ops = true
  · rw [if_pos h1]
    exact .inr ⟨(by show (4 : Nat) ≠ 1; decide), rfl⟩
  · rw [if_neg h1]
    by_cases h2 : busyP s.lk c.tx c.ops = true
    · rw [if_pos h2]
      exact .inr ⟨(by show (3 : Nat) ≠ 1; decide), rfl⟩
    · rw [if_neg h2]
      by_cases h3 : (runP s.types 32 c.ops s.cs [] 0).why = 0
      · refine .inl ⟨?_, h3, ?_⟩
        · show (ranP _ _).kind = 1
          unfold ranP
          rw [if_pos h3]
        · unfold ranP
          rw [if_pos h3, if_pos h3, h.ps]
          rfl
      · refine .inr ⟨?_, ?_⟩
        · show (ranP _ _).kind ≠ 1
          unfold ranP
          rw [if_neg h3]
          show (2 : Nat) ≠ 1
          decide
        · show (if _ then _ else _) = s
          rw [if_neg h3]
/-- Prepare again: the same. -/
theorem prep_twice {s : Sh} (h : Idle s) (c : Cm) : prepareP (prepareP s c).2 c = prepareP s c := by
  rcases prepare_idle h c with ⟨_, h2, h3⟩ | ⟨_, h2⟩
  · rw [h3]
    unfold prepareP
    have e : look [(c.tx, c.ops)] c.tx = some c.ops := by unfold look; rw [if_pos rfl]
    simp only [e]
    unfold againP
    rw [run_wide (show 32 ≤ boundless by decide) h2]
  · rw [h2]

/-- What is so behind the end of a transaction: the answer, the cases, what comes next. -/
structure Ended (x : List UInt8) (k : Int) (kd : Nat) (cs : Css) (r : Sh) : Prop where
  cases : r.cs = cs
  mode : (k = 4 ∧ kd = 5 ∧ look r.outs x = some 2 ∧ look r.ps x = none) ∨ (k = 3 ∧ kd = 5 ∧ look r.outs x = some 1 ∧ look r.ps x = none) ∨ (k = 3 ∧ kd = 6 ∧ Idle r)
theorem look_del_self {α : Type} (l : List (List UInt8 × α)) (x : List UInt8) : look (delL l x) x = none := by
  rw [look_none]
  unfold nams delL
  intro h
  obtain ⟨p, hp, e⟩ := List.mem_map.1 h
  have := (List.mem_filter.1 hp).2
  simp only [decide_eq_true_eq] at this
  exact this e
theorem Ended.again {x : List UInt8} {k : Int} {kd : Nat} {cs : Css} {r : Sh} (h : Ended x k kd cs r) (hx : x ≠ []) : (doP r (cmdE k x)).1.kind = kd ∧ Ended x k kd cs (doP r (cmdE k x)).2 := by
  rcases h.mode with ⟨rfl, rfl, h1, h2⟩ | ⟨rfl, rfl, h1, h2⟩ | ⟨rfl, rfl, hi⟩
  · rw [do_abort hx]
    unfold abortP
    rw [if_neg (by rw [h1]; decide)]
    refine ⟨rfl, h.cases, .inl ⟨rfl, rfl, ?_, look_del_self _ _⟩⟩
    show look (putL r.outs x 2) x = some 2
    rw [look_put, if_pos rfl]
  · rw [do_commit hx]
    unfold commitP
    simp only [h2]
    rw [if_pos h1]
    exact ⟨rfl, h.cases, .inr (.inl ⟨rfl, rfl, h1, h2⟩)⟩
  · rw [do_commit hx]
    unfold commitP
    have e : look r.ps x = none := by rw [hi.ps]; rfl
    have e2 : ¬ look r.outs x = some 1 := by rw [hi.outs]; intro q; cases q
    simp only [e]
    rw [if_neg e2]
    exact ⟨rfl, h.cases, .inr (.inr ⟨rfl, rfl, hi⟩)⟩
theorem Ended.prepare {x : List UInt8} {k : Int} {kd : Nat} {cs : Css} {r : Sh} (h : Ended x k kd cs r) (h5 : kd ≠ 6) {c : Cm} (hc : c.tx = x) : (prepareP r c).1.kind = 5 := by
  have key : ∀ {j : Nat}, look r.outs x = some j → look r.ps x = none → (prepareP r c).1.kind = 5 := by
    intro j h1 h2
    unfold prepareP
    rw [← hc] at h1 h2
    simp only [h2, h1]
    rw [if_pos (by simp)]
    rfl
  rcases h.mode with ⟨_, _, h1, h2⟩ | ⟨_, _, h1, h2⟩ | ⟨_, h6, _⟩
  · exact key h1 h2
  · exact key h1 h2
  · exact absurd h6 h5
/-- The first end, behind a Prepare. -/
theorem Ended.first {s : Sh} (h : Idle s) (c : Cm) (hx : c.tx ≠ []) (b : Bool) {k : Int} (hk : k = if b = true then 3 else 4) :
    Ended c.tx k (if b = true ∧ (prepareP s c).1.kind ≠ 1 then 6 else 5) (doP (prepareP s c).2 (cmdE k c.tx)).2.cs (doP (prepareP s c).2 (cmdE k c.tx)).2 ∧ (doP (prepareP s c).2 (cmdE k c.tx)).1.kind = (if b = true ∧ (prepareP s c).1.kind ≠ 1 then 6 else 5) := by
  cases b with
  | false =>
    obtain rfl : k = 4 := by simpa using hk
    rw [do_abort hx, if_neg (by simp)]
    have e : ¬ look (prepareP s c).2.outs c.tx = some 1 := by
      rcases prepare_idle h c with ⟨_, _, h3⟩ | ⟨_, h2⟩
      · rw [h3]; show ¬ look s.outs c.tx = some 1; rw [h.outs]; intro q; cases q
      · rw [h2, h.outs]; intro q; cases q
    unfold abortP
    rw [if_neg e]
    refine ⟨⟨rfl, .inl ⟨rfl, rfl, ?_, look_del_self _ _⟩⟩, rfl⟩
    show look (putL _ _ _) _ = _
    rw [look_put, if_pos rfl]
  | true =>
    obtain rfl : k = 3 := by simpa using hk
    rw [do_commit hx]
    rcases prepare_idle h c with ⟨h1, _, h3⟩ | ⟨h1, h2⟩
    · rw [if_neg (by simp [h1]), h3]
      unfold commitP
      have e : look [(c.tx, c.ops)] c.tx = some c.ops := by unfold look; rw [if_pos rfl]
      simp only [e]
      refine ⟨⟨rfl, .inr (.inl ⟨rfl, rfl, ?_, look_del_self _ _⟩)⟩, rfl⟩
      show look (putL _ _ _) _ = _
      rw [look_put, if_pos rfl]
    · rw [if_pos ⟨rfl, h1⟩, h2]
      unfold commitP
      have e : look s.ps c.tx = none := by rw [h.ps]; rfl
      have e2 : ¬ look s.outs c.tx = some 1 := by rw [h.outs]; intro q; cases q
      simp only [e]
      rw [if_neg e2]
      exact ⟨⟨rfl, .inr (.inr ⟨rfl, rfl, h⟩)⟩, rfl⟩

theorem run_tlen {ts : List Ty} {most : Nat} : ∀ {ops : List Oq} {l : Css} {xs : List (List UInt8)} {i : Nat}, (runP ts most ops l xs i).texts.length ≤ xs.length + ops.length
  | [], l, xs, i => by unfold runP; simp
  | o :: os, l, xs, i => by
    unfold runP
    by_cases h : (stepP ts most l o).2.2 = 0
    · rw [if_pos h]
      refine Nat.le_trans run_tlen ?_
      simp only [List.length_append, List.length_cons, List.length_nil]
      omega
    · rw [if_neg h]
      exact Nat.zero_le _
theorem prep_texts {s : Sh} (h : Idle s) {c : Cm} (hk : (prepareP s c).1.kind = 1) : (prepareP s c).1.texts.length ≤ c.ops.length := by
  rcases prepare_idle h c with ⟨_, _, h3⟩ | ⟨h1, _⟩
  · rw [h3]
    refine Nat.le_trans run_tlen ?_
    simp
  · exact absurd hk h1

end Go.Proofs.YtenejaghgehnoaaGreatDoor

namespace Go.Proofs.YtenejaghgehnoaaGreatDoor
open Go.RowKit Go.Maps

theorem own_oth {w w' : World} {b sz n : Nat} {v : Value} {xs : List Value} {e : TypeId} (h : w.ownsRow b e sz v n xs) (ot : Oth w w') (he : e ≠ 117) : w'.ownsRow b e sz v n xs := by
  refine ⟨h.1, ?_⟩
  rcases h.2 with h0 | ⟨g, cap, cur, rfl, hb, hh, rest⟩
  · exact .inl h0
  · exact .inr ⟨g, cap, cur, rfl, hb, ot.block hh he, rest⟩
/-- The operations of a tame command. -/
def TmO (w : World) (b : Nat) (o : Option Addr) (cp : Nat) (c : Cm) : Prop := w.ownsRow b 61 4 (.slice o (tameL c.ops).length cp) (tameL c.ops).length (orow (tameL c.ops))
theorem TmO.all {w w' : World} {b : Nat} {o : Option Addr} {cp : Nat} {c : Cm} (h : TmO w b o cp c) (k : Kept (fun _ => True) w w') : TmO w' b o cp c := own_keep h k (fun _ _ => trivial)
theorem TmO.oth {w w' : World} {b : Nat} {o : Option Addr} {cp : Nat} {c : Cm} (h : TmO w b o cp c) (k : Oth w w') : TmO w' b o cp c := own_oth h k (by decide)
theorem do_tame {w0 w : World} {S n b cp : Nat} {s : Sh} {c : Cm} {o : Option Addr} (m : Shd w0 w S n s) (hw : w0.heap.size ≤ w.heap.size) (own : TmO w b o cp c) (k : Int) (hk : k = 1 ∨ k = 2 ∨ k = 3 ∨ k = 4) (hn : n ≤ 800000) :
    Calls Tryz.prog 13 #[.pointer (some ⟨S, 0, none⟩), .agg #[.int .i64 k, .string ⟨(tameP c).tx.toArray⟩, .slice o (tameL c.ops).length cp, .slice none 0 0, .int .i64 c.lo, .int .i64 c.hi, .slice none 0 0]]
      w fun e w' => DoT w0 w w' S (n + 10) (doP s { tameP c with kind := k }) w.heap.size e := by
  have hl := tameL_len c.ops
  have hv : CmV w { tameP c with kind := k } (.slice o (tameL c.ops).length cp) (.slice none 0 0) := by
    refine ⟨own_ov own (show (tameL c.ops).length ≤ _ by omega), Cv.nil _, fun n k e => ?_⟩
    cases e
    obtain ⟨_, _, e, _, hn0, _⟩ := own_form own
    cases e
    exact hn0 rfl
  have hin : Cin { tameP c with kind := k } := ⟨(tame_in c).short, (tame_in c).tx⟩
  have cd := do_to (dv := .slice none 0 0) m hw hv ⟨none, 0, 0, rfl⟩ hin hk hn
  unfold cmdV at cd
  exact cd
/-- What Do leaves, told with letters. -/
def DoL (w0 w w' : World) (S n : Nat) (r : An × Sh) (e : Ending) : Prop :=
  ∃ (k : Nat) (o : Option Addr) (m c : Nat) (x y : Int), (k = r.1.kind ∧ x = r.1.at' ∧ y = r.1.why) ∧ e = .returned (.agg #[.int .i64 (k : Nat), .slice o m c, .int .i64 x, .int .i64 y, .slice none 0 0]) ∧ Txs w' w.heap.size (.slice o m c) r.1.texts ∧ Shd w0 w' S n r.2 ∧ Oth w w' ∧ Kept (fun k => k < w0.heap.size) w w'
theorem DoT.letters {w0 w w' : World} {S n : Nat} {r : An × Sh} {e : Ending} (h : DoT w0 w w' S n r w.heap.size e) : DoL w0 w w' S n r e := by
  obtain ⟨txv, rfl, ht, rest⟩ := h
  obtain ⟨o, c, rfl, _, _⟩ := ht.shape
  exact ⟨_, o, _, c, _, _, ⟨rfl, rfl, rfl⟩, rfl, ht, rest⟩
/-- A loop's way over commands: the shard, nothing prepared. -/
def LpI (_ w1 wr : World) (S : Nat) (len most : Nat) (ti : Value) : Prop :=
  ∃ (i n : Nat) (s : Sh), i ≤ len ∧ i ≤ most ∧ ti = .int .i64 (i : Nat) ∧ n = 10 * i ∧ Shd w1 wr S n s ∧ Idle s ∧ Kept (fun k => k < w1.heap.size) w1 wr
/-- Behind such a loop. -/
def LpD (w1 wx : World) (S most : Nat) : Prop := ∃ (n : Nat) (s : Sh), n ≤ most ∧ Shd w1 wx S n s ∧ Idle s ∧ Kept (fun k => k < w1.heap.size) w1 wx
theorem Kept.low {w w1 wr : World} (h : Kept (fun _ => True) w w1) (k : Kept (fun k => k < w1.heap.size) w1 wr) : Kept (fun _ => True) w wr := h.then k (fun _ hi _ => Nat.lt_of_lt_of_le hi h.size)

/-- What ShardAgain holds: the shard, the command in its box X. -/
structure Ag (w w1 W : World) (S X n : Nat) (s : Sh) (c : Cm) (b0 : Nat) (oc : Option Addr) (cc : Nat) : Prop where
  sh : Shd w1 W S n s
  box : W.heap[X]? = some (.cells #[.int .i64 2, .string ⟨(tameP c).tx.toArray⟩, .slice oc (tameL c.ops).length cc, .slice none 0 0, .int .i64 c.lo, .int .i64 c.hi, .slice none 0 0] 40 (0, 0))
  ops : TmO W b0 oc cc c
  kept : Kept (fun _ => True) w W
  size : w1.heap.size ≤ W.heap.size
section
variable {w w1 W W' : World} {S X n b0 cc : Nat} {s : Sh} {c : Cm} {oc : Option Addr}
theorem Ag.all (h : Ag w w1 W S X n s c b0 oc cc) (k : Kept (fun _ => True) W W') : Ag w w1 W' S X n s c b0 oc cc :=
  ⟨h.sh.all k, (k.block _ (lt_of_block h.box) trivial).trans h.box, h.ops.all k, h.kept.trans k, Nat.le_trans h.size k.size⟩
theorem Ag.next (h : Ag w w1 W S X n s c b0 oc cc) (hw : w.heap.size ≤ w1.heap.size) {n' : Nat} {s' : Sh} (m : Shd w1 W' S n' s') (ot : Oth W W') (k : Kept (fun k => k < w1.heap.size) W W') : Ag w w1 W' S X n' s' c b0 oc cc :=
  ⟨m, ot.block h.box (by decide), h.ops.oth ot, h.kept.then k (fun _ hi _ => Nat.lt_of_lt_of_le hi hw), Nat.le_trans h.size k.size⟩
end
/-- An answer in a variable. -/
structure AnX (W : World) (A k : Nat) (o : Option Addr) (m c : Nat) (x y : Int) (ts : List (List UInt8)) (b : Nat) : Prop where
  box : W.heap[A]? = some (.cells #[.int .i64 (k : Nat), .slice o m c, .int .i64 x, .int .i64 y, .slice none 0 0] 35 (0, 0))
  txs : Txs W b (.slice o m c) ts
section
variable {W W' : World} {A k m c b : Nat} {o : Option Addr} {x y : Int} {ts : List (List UInt8)}
theorem AnX.all (h : AnX W A k o m c x y ts b) (q : Kept (fun _ => True) W W') : AnX W' A k o m c x y ts b := ⟨(q.block _ (lt_of_block h.box) trivial).trans h.box, h.txs.kept q (fun _ _ => trivial)⟩
theorem AnX.oth (h : AnX W A k o m c x y ts b) (q : Oth W W') : AnX W' A k o m c x y ts b := ⟨q.block h.box (by decide), own_oth h.txs q (by decide)⟩
theorem Txs.oth {v : Value} (h : Txs W b v ts) (q : Oth W W') : Txs W' b v ts := own_oth h q (by decide)
end
/-- ShardAgain's loop over the same command. -/
def LpB (w w1 wr : World) (S X n : Nat) (s : Sh) (c : Cm) (b0 : Nat) (oc : Option Addr) (cc : Nat) (A k : Nat) (o : Option Addr) (m cp : Nat) (x y : Int) (ts : List (List UInt8)) (b T : Nat) (tj : Value) : Prop :=
  ∃ j : Nat, j ≤ T ∧ tj = .int .i64 (j : Nat) ∧ Ag w w1 wr S X (n + 10 * j) s c b0 oc cc ∧ AnX wr A k o m cp x y ts b
/-- ShardAgain's loop over the end. -/
def LpE (w w1 wr : World) (S X n : Nat) (c : Cm) (b0 : Nat) (oc : Option Addr) (cc : Nat) (x : List UInt8) (k : Int) (kd : Nat) (cs : Css) (E : Nat) (v : Value) (ts : List (List UInt8)) (b T : Nat) (tj : Value) : Prop :=
  ∃ (j : Nat) (r : Sh), j ≤ T ∧ tj = .int .i64 (j : Nat) ∧ Ag w w1 wr S X (n + 10 * j) r c b0 oc cc ∧ Ended x k kd cs r ∧ Txs wr b v ts ∧
    wr.heap[E]? = some (.cells #[.int .i64 k, .string ⟨x.toArray⟩, .slice none 0 0, .slice none 0 0, .int .i64 0, .int .i64 0, .slice none 0 0] 40 (0, 0))

/-- Behind ShardAgain's if: how the transaction is to end, and what is wanted. -/
def EndIf (wr wx : World) (E : Nat) (x : List UInt8) (b : Bool) (kd : Nat) (t : Value) : Prop :=
  t = .int .i64 ((if b = true ∧ kd ≠ 1 then 6 else 5 : Nat) : Int) ∧ wx.heap[E]? = some (.cells #[.int .i64 (if b = true then 3 else 4), .string ⟨x.toArray⟩, .slice none 0 0, .slice none 0 0, .int .i64 0, .int .i64 0, .slice none 0 0] 40 (0, 0)) ∧ Kept (fun _ => True) wr wx

/-- An answer's Kind. -/
theorem field_kind (a b c d e : Value) (W : World) : (Instr.field 35 (.agg #[a, b, c, d, e]) 0).run Tryz.prog W = .ok a W := by
  unfold Instr.field
  simp [run_underlying Tryz.underlying35, asAgg, part]

end Go.Proofs.YtenejaghgehnoaaGreatDoor

namespace Go.Proofs.YtenejaghgehnoaaGreatDoor
open Go.RowKit Go.Maps

/-- Two shards: S says s, U says u; what they may write lies behind w0, apart. -/
def Twn (w0 w : World) (S U n m : Nat) (s u : Sh) : Prop :=
  ∃ a tv h b tv' h', a.S = S ∧ b.S = U ∧ Sm w a n tv h s ∧ Sm w b m tv' h' u ∧ (∀ k, a.Mine k → ¬ b.Mine k) ∧ (∀ k, a.Mine k → w0.heap.size ≤ k) ∧ (∀ k, b.Mine k → w0.heap.size ≤ k) ∧ w0.heap.size ≤ a.T ∧ w0.heap.size ≤ b.T ∧ Inv n s ∧ Inv m u ∧ Tab w
/-- What Do leaves of two. -/
def DoW (w0 w w' : World) (S U n m : Nat) (r : An × Sh) (u : Sh) (e : Ending) : Prop :=
  ∃ (k : Nat) (o : Option Addr) (l c : Nat) (x y : Int), (k = r.1.kind ∧ x = r.1.at' ∧ y = r.1.why) ∧ e = .returned (.agg #[.int .i64 (k : Nat), .slice o l c, .int .i64 x, .int .i64 y, .slice none 0 0]) ∧ Txs w' w.heap.size (.slice o l c) r.1.texts ∧ Twn w0 w' S U n m r.2 u ∧ Oth w w' ∧ Kept (fun k => k < w0.heap.size) w w'
section
variable {w0 w w' : World} {S U n m : Nat} {s u : Sh}
theorem Twn.swap (t : Twn w0 w S U n m s u) : Twn w0 w U S m n u s := by
  obtain ⟨a, tv, h, b, tv', h', e1, e2, m1, m2, h0, h1, h2, h3, h4, h5, h6, h7⟩ := t
  exact ⟨b, tv', h', a, tv, h, e2, e1, m2, m1, fun k hb ha => h0 k ha hb, h2, h1, h4, h3, h6, h5, h7⟩
theorem Twn.left (t : Twn w0 w S U n m s u) : Shd w0 w S n s := by
  obtain ⟨a, tv, h, b, tv', h', e1, e2, m1, m2, h0, h1, h2, h3, h4, h5, h6, h7⟩ := t
  exact ⟨a, tv, h, e1, m1, h1, h3, h5, h7⟩
theorem Twn.right (t : Twn w0 w S U n m s u) : Shd w0 w U m u := t.swap.left
theorem Twn.all (t : Twn w0 w S U n m s u) (k : Kept (fun _ => True) w w') : Twn w0 w' S U n m s u := by
  obtain ⟨a, tv, h, b, tv', h', e1, e2, m1, m2, h0, h1, h2, h3, h4, h5, h6, h7⟩ := t
  exact ⟨a, tv, h, b, tv', h', e1, e2, m1.all k, m2.all k, h0, h1, h2, h3, h4, h5, h6, h7.all k⟩
theorem Twn.made {w1 w2 w3 w4 : World} {ts : List Ty} {a b : Ft} {tv tv' : Value} {h h' : Lk} (m1 : Made w1 w2 a 0 tv h (newS ts 0 256)) (k : Kept (fun _ => True) w2 w3) (m2 : Made w3 w4 b 0 tv' h' (newS ts 0 256)) (ok : Tok ts) (ht : Tab w1) : Twn w1 w4 a.S b.S 0 0 (newS ts 0 256) (newS ts 0 256) := by
  have s1 := m1.kept.size
  have s2 := k.size
  refine ⟨a, tv, h, b, tv', h', rfl, rfl, (m1.sm.all k).all m2.kept, m2.sm, fun i ha hb => ?_, m1.mine, fun i hb => ?_, m1.tab, ?_, Inv.start ok 0 256, Inv.start ok 0 256, ((ht.all m1.kept).all k).all m2.kept⟩
  · have := m1.sm.mine_lt ha
    have := m2.mine i hb
    omega
  · have := m2.mine i hb
    omega
  · have := m2.tab
    omega
theorem do_two {c : Cm} {ov av dv : Value} (t : Twn w0 w S U n m s u) (hv : CmV w c ov av) (hdv : ∃ o k l, dv = .slice o k l) (hin : Cin c) (hk4 : c.kind = 1 ∨ c.kind = 2 ∨ c.kind = 3 ∨ c.kind = 4) (hw : w0.heap.size ≤ w.heap.size) (hn : n ≤ 800000) :
    Calls Tryz.prog 13 #[.pointer (some ⟨S, 0, none⟩), cmdV c ov av dv] w fun e w' => DoW w0 w w' S U (n + 10) m (doP s c) u e := by
  obtain ⟨a, tv, h, b, tv', h', rfl, rfl, m1, m2, h0, h1, h2, h3, h4, h5, h6, h7⟩ := t
  refine Calls.mono (do_few m1 h5.all h7 hv hdv hin hk4 hn) ?_
  rintro e w' ⟨B', h8, txv, rfl, ht, m', st⟩
  obtain ⟨o, l, rfl, _, _⟩ := ht.shape
  have mb : Sm w' b m tv' h' u := by
    obtain ⟨cs, fr, hT⟩ := m2.tself
    exact m2.beside st.kept m1.plainly (fun i hb ha => h0 i ha hb) (m1.cells_ne hT (by decide))
  refine ⟨_, o, _, l, _, _, ⟨rfl, rfl, rfl⟩, rfl, ht, ⟨{ a with B := B' }, tv, h8, b, tv', h', rfl, rfl, m', mb, fun k ha hb => ?_, fun k hk => ?_, h2, h3, h4, (h5.doFew (by omega) hin hk4).mono (by omega), h6, h7.plain st.kept m1.plainly⟩, ⟨st.kept.size, fun hR hty => ?_⟩, st.kept.mono (fun k _ hk q => ?_)⟩
  · rcases st.news k ha with q | q
    · exact h0 k q hb
    · have := m2.mine_lt hb
      omega
  · rcases st.news k hk with q | q
    · exact h1 k q
    · omega
  · exact (st.kept.block _ (lt_of_block hR) (m1.cells_ne hR hty)).trans hR
  · have := h1 k q
    omega
theorem do_tame2 {b cp : Nat} {c : Cm} {o : Option Addr} (t : Twn w0 w S U n m s u) (hw : w0.heap.size ≤ w.heap.size) (own : TmO w b o cp c) (k : Int) (hk : k = 1 ∨ k = 2 ∨ k = 3 ∨ k = 4) (hn : n ≤ 800000) :
    Calls Tryz.prog 13 #[.pointer (some ⟨S, 0, none⟩), .agg #[.int .i64 k, .string ⟨(tameP c).tx.toArray⟩, .slice o (tameL c.ops).length cp, .slice none 0 0, .int .i64 c.lo, .int .i64 c.hi, .slice none 0 0]]
      w fun e w' => DoW w0 w w' S U (n + 10) m (doP s { tameP c with kind := k }) u e := by
  have hl := tameL_len c.ops
  have hv : CmV w { tameP c with kind := k } (.slice o (tameL c.ops).length cp) (.slice none 0 0) := by
    refine ⟨own_ov own (show (tameL c.ops).length ≤ _ by omega), Cv.nil _, fun n k e => ?_⟩
    cases e
    obtain ⟨_, _, e, _, hn0, _⟩ := own_form own
    cases e
    exact hn0 rfl
  have hin : Cin { tameP c with kind := k } := ⟨(tame_in c).short, (tame_in c).tx⟩
  have cd := do_two (dv := .slice none 0 0) t hv ⟨none, 0, 0, rfl⟩ hin hk hw hn
  unfold cmdV at cd
  exact cd
theorem do_end2 (t : Twn w0 w S U n m s u) (hw : w0.heap.size ≤ w.heap.size) (k : Int) (x : List UInt8) (hk : k = 3 ∨ k = 4) (hx : x.length ≤ 140737488355327) (hn : n ≤ 800000) :
    Calls Tryz.prog 13 #[.pointer (some ⟨S, 0, none⟩), .agg #[.int .i64 k, .string ⟨x.toArray⟩, .slice none 0 0, .slice none 0 0, .int .i64 0, .int .i64 0, .slice none 0 0]]
      w fun e w' => DoW w0 w w' S U (n + 10) m (doP s (cmdE k x)) u e := by
  have hv : CmV w ⟨k, x, [], [], 0, 0, []⟩ (.slice none 0 0) (.slice none 0 0) :=
    ⟨⟨none, 0, rfl, by simp, fun h => absurd h (by simp)⟩, Cv.nil _, fun n k h => by cases h; rfl⟩
  have hin : Cin ⟨k, x, [], [], 0, 0, []⟩ := ⟨fun p hp => (by cases hp), hx⟩
  have h4 : k = 1 ∨ k = 2 ∨ k = 3 ∨ k = 4 := hk.elim (fun e => .inr (.inr (.inl e))) (fun e => .inr (.inr (.inr e)))
  have cd := do_two (dv := .slice none 0 0) t hv ⟨none, 0, 0, rfl⟩ hin h4 hw hn
  unfold cmdV at cd
  exact cd
end

/-- What is prepared does not show. -/
theorem prep_cases {s : Sh} (h : Idle s) (c : Cm) : (prepareP s c).2.cs = s.cs := by
  rcases prepare_idle h c with ⟨_, _, h3⟩ | ⟨_, h2⟩
  · rw [h3]
  · rw [h2]
theorem prep_ps {s : Sh} (h : Idle s) (c : Cm) : delL (prepareP s c).2.ps c.tx = [] := by
  rcases prepare_idle h c with ⟨_, _, h3⟩ | ⟨_, h2⟩
  · rw [h3]
    unfold delL
    simp
  · rw [h2, h.ps]
    rfl
theorem hid_abort {s : Sh} (h : Idle s) (c : Cm) (hx : c.tx ≠ []) : (doP (prepareP s c).2 (cmdE 4 c.tx)).1.kind = 5 ∧ (doP (prepareP s c).2 (cmdE 4 c.tx)).2.cs = s.cs ∧ (doP (prepareP s c).2 (cmdE 4 c.tx)).2.ps = [] := by
  rw [do_abort hx]
  have e : ¬ look (prepareP s c).2.outs c.tx = some 1 := by
    rcases prepare_idle h c with ⟨_, _, h3⟩ | ⟨_, h2⟩
    · rw [h3]; show ¬ look s.outs c.tx = some 1; rw [h.outs]; intro q; cases q
    · rw [h2, h.outs]; intro q; cases q
  unfold abortP
  rw [if_neg e]
  exact ⟨rfl, prep_cases h c, prep_ps h c⟩
theorem hid_none {s : Sh} (h : Idle s) (c : Cm) (hx : c.tx ≠ []) (hk : (prepareP s c).1.kind ≠ 1) : (doP (prepareP s c).2 (cmdE 3 c.tx)).1.kind = 6 ∧ (doP (prepareP s c).2 (cmdE 3 c.tx)).2.cs = s.cs ∧ (doP (prepareP s c).2 (cmdE 3 c.tx)).2.ps = [] := by
  rw [do_commit hx]
  rcases prepare_idle h c with ⟨h1, _, _⟩ | ⟨_, h2⟩
  · exact absurd h1 hk
  · rw [h2]
    unfold commitP
    have e : look s.ps c.tx = none := by rw [h.ps]; rfl
    have e2 : ¬ look s.outs c.tx = some 1 := by rw [h.outs]; intro q; cases q
    simp only [e]
    rw [if_neg e2]
    exact ⟨rfl, rfl, h.ps⟩
theorem hid_done {s : Sh} (h : Idle s) (c d : Cm) (hx : c.tx ≠ []) (hk : (prepareP s c).1.kind = 1) (hd : formedP d = true) (hd1 : d.kind = 1) (ho : d.ops = c.ops) :
    (doP (prepareP s c).2 (cmdE 3 c.tx)).1.kind = 5 ∧ (doP s d).1.kind = 1 ∧ (doP s d).1.texts = (prepareP s c).1.texts ∧ (doP (prepareP s c).2 (cmdE 3 c.tx)).2.cs = (doP s d).2.cs := by
  rw [do_commit hx]
  rcases prepare_idle h c with ⟨_, h2, h3⟩ | ⟨h1, _⟩
  rotate_left
  · exact absurd hk h1
  have hst : staleP s c.ops = false := by
    cases hs : staleP s c.ops with
    | false => rfl
    | true =>
      exfalso
      have e : look s.ps c.tx = none := by rw [h.ps]; rfl
      have e2 : look s.outs c.tx = none := by rw [h.outs]; rfl
      unfold prepareP at hk
      simp only [e, e2, ne_eq, not_true_eq_false, if_false, hs, if_true] at hk
      cases hk
  have hb : busyP s.lk [] c.ops = false := by
    rw [h.lk]
    unfold busyP
    simp
  have hdo : doP s d = (⟨1, (runP s.types 32 c.ops s.cs [] 0).texts, 0, 0⟩, { s with cs := (runP s.types 32 c.ops s.cs [] 0).left }) := by
    unfold doP
    rw [if_neg (by rw [hd]; decide), if_pos hd1]
    unfold onceP ranP
    rw [ho, if_neg (by simp [hst]), if_neg (by simp [hb]), if_pos h2, if_pos h2]
  rw [hdo, h3]
  unfold commitP
  have e : look [(c.tx, c.ops)] c.tx = some c.ops := by unfold look; rw [if_pos rfl]
  simp only [e]
  refine ⟨rfl, trivial, trivial, ?_⟩
  show (runP s.types boundless c.ops s.cs [] 0).left = _
  rw [run_wide (show 32 ≤ boundless by decide) h2]

theorem Twn.cmd {w0 w w' : World} {S U n m X : Nat} {s u : Sh} (t : Twn w0 w S U n m s u) (hX : CmX w X) (k : Kept (· ≠ X) w w') (ht : Tab w') : Twn w0 w' S U n m s u := by
  obtain ⟨a, tv, h, b, tv', h', e1, e2, m1, m2, h0, h1, h2, h3, h4, h5, h6, h7⟩ := t
  exact ⟨a, tv, h, b, tv', h', e1, e2, m1.cmd hX k, m2.cmd hX k, h0, h1, h2, h3, h4, h5, h6, ht⟩
/-- What ShardHidden holds: two shards, the command in its box X. -/
structure Hg (w w1 W : World) (S U X n m : Nat) (s u : Sh) (c : Cm) (b0 : Nat) (oc : Option Addr) (cc : Nat) (kx : Int) : Prop where
  tw : Twn w1 W S U n m s u
  box : W.heap[X]? = some (.cells #[.int .i64 kx, .string ⟨(tameP c).tx.toArray⟩, .slice oc (tameL c.ops).length cc, .slice none 0 0, .int .i64 c.lo, .int .i64 c.hi, .slice none 0 0] 40 (0, 0))
  ops : TmO W b0 oc cc c
  kept : Kept (fun _ => True) w W
  size : w1.heap.size ≤ W.heap.size
section
variable {w w1 W W' : World} {S U X n m b0 cc : Nat} {s u : Sh} {c : Cm} {oc : Option Addr} {kx : Int}
theorem Hg.all (h : Hg w w1 W S U X n m s u c b0 oc cc kx) (k : Kept (fun _ => True) W W') : Hg w w1 W' S U X n m s u c b0 oc cc kx :=
  ⟨h.tw.all k, (k.block _ (lt_of_block h.box) trivial).trans h.box, h.ops.all k, h.kept.trans k, Nat.le_trans h.size k.size⟩
theorem Hg.next (h : Hg w w1 W S U X n m s u c b0 oc cc kx) (hw : w.heap.size ≤ w1.heap.size) {n' m' : Nat} {s' u' : Sh} (t : Twn w1 W' S U n' m' s' u') (ot : Oth W W') (k : Kept (fun k => k < w1.heap.size) W W') : Hg w w1 W' S U X n' m' s' u' c b0 oc cc kx :=
  ⟨t, ot.block h.box (by decide), h.ops.oth ot, h.kept.then k (fun _ hi _ => Nat.lt_of_lt_of_le hi hw), Nat.le_trans h.size k.size⟩
theorem TmO.cmd (h : TmO W b0 oc cc c) (hX : CmX W X) (k : Kept (· ≠ X) W W') : TmO W' b0 oc cc c := by
  refine ⟨h.1, ?_⟩
  rcases h.2 with h0 | ⟨g, cap, cur, e, hb, hh, rest⟩
  · exact .inl h0
  · refine .inr ⟨g, cap, cur, e, hb, (k.block g (lt_of_block hh) ?_).trans hh, rest⟩
    rintro rfl
    exact absurd (hX.type hh) (by decide)
/-- The command's Kind is set. -/
theorem Hg.kind (h : Hg w w1 W S U X n m s u c b0 oc cc kx) (ht : Tab w) (hX : w.heap.size ≤ X) (k : Int) : Hg w w1 (W.setCell ⟨X, 0, none⟩ (.int .i64 k)) S U X n m s u c b0 oc cc k := by
  have kX : Kept (· ≠ X) W (W.setCell ⟨X, 0, none⟩ (.int .i64 k)) := (Kept.refl _ _).setCell (by simp) _
  have kk : Kept (fun _ => True) w (W.setCell ⟨X, 0, none⟩ (.int .i64 k)) := h.kept.then kX (fun i hi _ => by omega)
  exact ⟨h.tw.cmd ⟨_, _, _, _, _, _, _, _, _, _, _, _, _, h.box⟩ kX (ht.all kk), set7_0 h.box _, h.ops.cmd ⟨_, _, _, _, _, _, _, _, _, _, _, _, _, h.box⟩ kX, kk, Nat.le_trans h.size kX.size⟩
end
/-- A loop's way over commands: two shards alike, nothing prepared. -/
def LpI2 (w1 wr : World) (S U : Nat) (len most : Nat) (ti : Value) : Prop :=
  ∃ (i n : Nat) (s : Sh), i ≤ len ∧ i ≤ most ∧ ti = .int .i64 (i : Nat) ∧ n = 10 * i ∧ Twn w1 wr S U n n s s ∧ Idle s ∧ Kept (fun k => k < w1.heap.size) w1 wr
def LpD2 (w1 wx : World) (S U most : Nat) : Prop := ∃ (n : Nat) (s : Sh), n ≤ most ∧ Twn w1 wx S U n n s s ∧ Idle s ∧ Kept (fun k => k < w1.heap.size) w1 wx

end Go.Proofs.YtenejaghgehnoaaGreatDoor

namespace Go.Proofs.YtenejaghgehnoaaGreatDoor
open Go.RowKit Go.Maps

/-- What the loop of tame holds: the command's box X, its answer's box Y, the names Z. -/
structure Tmd (w wr : World) (X Y Z : Nat) (c : Cm) (oo : Option Addr) (oc : Nat) : Prop where
  box : wr.heap[X]? = some (.cells #[.int .i64 (kdT (wi c.kind 5)), .string ⟨(txT (wi c.tx.length 2)).toArray⟩, .slice oo c.ops.length oc, .slice none 0 0, .int .i64 c.lo, .int .i64 c.hi, .slice none 0 0] 40 (0, 0))
  ans : wr.heap[Y]? = some (.cells #[.int .i64 0, .string ⟨#[]⟩, .slice none 0 0, .slice none 0 0, .int .i64 0, .int .i64 0, .slice none 0 0] 40 (0, 0))
  names : wr.heap[Z]? = some (.cells #[.string ⟨#[97]⟩, .string ⟨#[98]⟩, .string ⟨#[99]⟩, .string ⟨#[100]⟩] 9 (0, 0))
  kept : Kept (fun _ => True) w wr
  hx : w.heap.size ≤ X
  hy : w.heap.size ≤ Y
  xy : X ≠ Y
theorem Tmd.all {w wr w' : World} {X Y Z : Nat} {c : Cm} {oo : Option Addr} {oc : Nat} (h : Tmd w wr X Y Z c oo oc) (k : Kept (fun _ => True) wr w') : Tmd w w' X Y Z c oo oc :=
  ⟨(k.block _ (lt_of_block h.box) trivial).trans h.box, (k.block _ (lt_of_block h.ans) trivial).trans h.ans, (k.block _ (lt_of_block h.names) trivial).trans h.names, h.kept.trans k, h.hx, h.hy, h.xy⟩

theorem Tmd.low {w wr w' : World} {X Y Z : Nat} {c : Cm} {oo : Option Addr} {oc : Nat} (h : Tmd w wr X Y Z c oo oc) (k : Kept (fun k => k < wr.heap.size) wr w') : Tmd w w' X Y Z c oo oc :=
  ⟨(k.block _ (lt_of_block h.box) (lt_of_block h.box)).trans h.box, (k.block _ (lt_of_block h.ans) (lt_of_block h.ans)).trans h.ans, (k.block _ (lt_of_block h.names) (lt_of_block h.names)).trans h.names, h.kept.then k (fun _ hi _ => Nat.lt_of_lt_of_le hi h.kept.size), h.hx, h.hy, h.xy⟩

theorem olay_ones (o : Oq) : ∀ u ∈ olay o, u.oneCell' = true := by
  intro u hu
  simp only [olay, List.mem_cons, List.not_mem_nil, or_false] at hu
  rcases hu with rfl | rfl | rfl | rfl <;> rfl
theorem tame_close {w wr w11 : World} {X Y Z b n : Nat} {c : Cm} {oo : Option Addr} {oc : Nat} {v : Value} {xs : List Value} (ht : Tmd w wr X Y Z c oo oc) (kX : Kept (· ≠ X) wr w11) (hown : wr.ownsRow b 61 4 v n xs) (hb : w.heap.size ≤ b) (hX : X < b) (hY : Y < b) (x0 x1 x2 x3 x4 x5 x6 : Value) :
    (put7 w11 Y x0 x1 x2 x3 x4 x5 x6).ownsRow w.heap.size 61 4 v n xs ∧ Kept (fun _ => True) w (put7 w11 Y x0 x1 x2 x3 x4 x5 x6) := by
  have k7 := put7_kept (p := fun k => k ≠ X ∧ k ≠ Y) (w := w11) (D := Y) (by simp) x0 x1 x2 x3 x4 x5 x6
  have kx : Kept (fun k => k ≠ X ∧ k ≠ Y) wr w11 := kX.mono (fun _ _ h => h.1)
  exact ⟨ownsRow_low (own_behind hown (kx.trans k7) (fun k hk => by omega)) hb, ht.kept.then (kx.trans k7) (fun k hk _ => by have := ht.hx; have := ht.hy; omega)⟩

set_option maxRecDepth 100000 in
set_option maxHeartbeats 8000000 in
theorem tame_any {w : World} {c : Cm} {ov av dv : Value} (ho : Ow w ov c.ops) (ha : ∃ o k l, av = .slice o k l) (hd : ∃ o k l, dv = .slice o k l) (_ : c.tx.length ≤ 9223372036854775807) (hnm : ∀ o ∈ c.ops, o.name.length ≤ 9223372036854775807) :
    Calls Tryz.prog 23 #[cmdV c ov av dv] w fun e w' => ∃ o' c', e = .returned (.agg #[.int .i64 (tameP c).kind, .string ⟨(tameP c).tx.toArray⟩, .slice o' (tameL c.ops).length c', .slice none 0 0, .int .i64 c.lo, .int .i64 c.hi, .slice none 0 0]) ∧
      w'.ownsRow w.heap.size 61 4 (.slice o' (tameL c.ops).length c') (tameL c.ops).length (orow (tameL c.ops)) ∧ Kept (fun _ => True) w w' := by
  obtain ⟨ao, an, ac, rfl⟩ := ha
  obtain ⟨d1, d2, d3, rfl⟩ := hd
  obtain ⟨oo, oc, rfl⟩ := ho.form
  have HO : Hid (Ow w (.slice oo c.ops.length oc) c.ops) := ho
  have HN : Hid (∀ o ∈ c.ops, o.name.length ≤ 9223372036854775807) := hnm
  clear ho hnm
  unfold cmdV
  obtain ⟨X, hX⟩ : ∃ X, X = w.heap.size := ⟨_, rfl⟩
  have hall : ∃ w1, w1 = ((w.alloc (.cells #[.int .i64 c.kind, .string ⟨c.tx.toArray⟩, .slice oo c.ops.length oc, .slice ao an ac, .int .i64 c.lo, .int .i64 c.hi, .slice d1 d2 d3] 40)).alloc (.cells #[.int .i64 0, .string ⟨#[]⟩, .slice none 0 0, .slice none 0 0, .int .i64 0, .int .i64 0, .slice none 0 0] 40)).alloc (.cells #[.string ⟨#[97]⟩, .string ⟨#[98]⟩, .string ⟨#[99]⟩, .string ⟨#[100]⟩] 9) := ⟨_, rfl⟩
  obtain ⟨w1, hw1⟩ := hall
  have k1 : Kept (fun _ => True) w w1 := by rw [hw1]; exact (((Kept.refl _ _).alloc _).alloc _).alloc _
  have b1 : w1.heap[X]? = some (.cells #[.int .i64 c.kind, .string ⟨c.tx.toArray⟩, .slice oo c.ops.length oc, .slice ao an ac, .int .i64 c.lo, .int .i64 c.hi, .slice d1 d2 d3] 40 (0, 0)) := by
    rw [hw1, hX]
    exact (((Kept.refl (fun _ => True) _).alloc _).alloc _).block _ (by simp) trivial |>.trans (heap_alloc_new w _)
  have b2 : w1.heap[X + 1]? = some (.cells #[.int .i64 0, .string ⟨#[]⟩, .slice none 0 0, .slice none 0 0, .int .i64 0, .int .i64 0, .slice none 0 0] 40 (0, 0)) := by
    have e := heap_alloc_new (w.alloc (.cells #[.int .i64 c.kind, .string ⟨c.tx.toArray⟩, .slice oo c.ops.length oc, .slice ao an ac, .int .i64 c.lo, .int .i64 c.hi, .slice d1 d2 d3] 40)) (.cells #[.int .i64 0, .string ⟨#[]⟩, .slice none 0 0, .slice none 0 0, .int .i64 0, .int .i64 0, .slice none 0 0] 40)
    rw [show (w.alloc (.cells #[.int .i64 c.kind, .string ⟨c.tx.toArray⟩, .slice oo c.ops.length oc, .slice ao an ac, .int .i64 c.lo, .int .i64 c.hi, .slice d1 d2 d3] 40)).heap.size = X + 1 by rw [hX]; simp] at e
    rw [hw1]
    exact ((Kept.refl (fun _ => True) _).alloc _).block _ (lt_of_block e) trivial |>.trans e
  have b3 : w1.heap[X + 1 + 1]? = some (.cells #[.string ⟨#[97]⟩, .string ⟨#[98]⟩, .string ⟨#[99]⟩, .string ⟨#[100]⟩] 9 (0, 0)) := by
    have e := heap_alloc_new ((w.alloc (.cells #[.int .i64 c.kind, .string ⟨c.tx.toArray⟩, .slice oo c.ops.length oc, .slice ao an ac, .int .i64 c.lo, .int .i64 c.hi, .slice d1 d2 d3] 40)).alloc (.cells #[.int .i64 0, .string ⟨#[]⟩, .slice none 0 0, .slice none 0 0, .int .i64 0, .int .i64 0, .slice none 0 0] 40)) (.cells #[.string ⟨#[97]⟩, .string ⟨#[98]⟩, .string ⟨#[99]⟩, .string ⟨#[100]⟩] 9)
    rw [show ((w.alloc (.cells #[.int .i64 c.kind, .string ⟨c.tx.toArray⟩, .slice oo c.ops.length oc, .slice ao an ac, .int .i64 c.lo, .int .i64 c.hi, .slice d1 d2 d3] 40)).alloc (.cells #[.int .i64 0, .string ⟨#[]⟩, .slice none 0 0, .slice none 0 0, .int .i64 0, .int .i64 0, .slice none 0 0] 40)).heap.size = X + 1 + 1 by rw [hX]; simp] at e
    rw [hw1]
    exact e
  have HK1 : Hid _ := k1
  have HB1 : Hid _ := b1
  have HB2 : Hid _ := b2
  have HB3 : Hid _ := b3
  clear k1 b1 b2 b3
  go_enter Tryz.func23, Tryz.ntmps23
  go_upto_region 2 with fail
  rw [← hw1, ← hX]
  have HX : Hid (X = w.heap.size) := hX
  clear hw1 hX
  have hk5 := wi_le c.kind 5
  have HW5 : Hid (wi c.kind 5 = wi c.kind 5) := rfl
  have cw := wi_any (w := w1.alloc (.cells #[.int .i64 1, .int .i64 1, .int .i64 2, .int .i64 2, .int .i64 3, .int .i64 4] 3)) c.kind 5 (by decide)
  have z0 := (kept_cell ((Kept.refl (fun _ => True) w1).alloc (.cells #[.int .i64 1, .int .i64 1, .int .i64 2, .int .i64 2, .int .i64 3, .int .i64 4] 3)) (lt_of_block HB1.out) trivial).trans (seven_cell HB1.out).1
  generalize hkk : wi c.kind 5 = k at cw hk5
  have HKK : Hid (wi c.kind 5 = k) := hkk
  have s0 : (0 : Int) ≤ (k : Int) := by omega
  have s1 : (k : Int) < 6 := by omega
  clear hkk HW5
  go_upto_region 3 with (go_at_call 24; refine Calls.mono cw ?_; rintro e v2 ⟨rfl, hv⟩; have kv : Kept (fun _ => True) w1 v2 := (by rw [hv]; exact (Kept.refl _ _).alloc _); have ci : v2.cell? ⟨w1.heap.size, k, none⟩ = some (.int .i64 (kdT k)) := (by rw [hv]; exact lit_cell (heap_alloc_new w1 (.cells #[.int .i64 1, .int .i64 1, .int .i64 2, .int .i64 2, .int .i64 3, .int .i64 4] 3)) (kdT_at hk5)); have bX := (kv.block _ (lt_of_block HB1.out) trivial).trans HB1.out; have z0' := (seven_cell bX).1; have f0' := (seven_frozen bX).1; have HX2 : Hid _ := bX; have HKv : Hid _ := kv; clear hv cw bX kv)
  have HX3 : Hid _ := set7_0 HX2.out (.int .i64 (kdT k))
  have HK3 : Hid (Kept (· ≠ X) w1 (v2.setCell ⟨X, 0, none⟩ (.int .i64 (kdT k)))) := (HKv.out.mono (fun _ _ _ => trivial)).setCell (by simp) _
  clear ci z0 z0' f0' s0 s1 HX2 HKv
  generalize v2.setCell ⟨X, 0, none⟩ (.int .i64 (kdT k)) = w3 at *
  have hk2 := wi_le c.tx.length 2
  have cw := wi_any (w := w3.alloc (.cells #[.string ⟨#[116]⟩, .string ⟨#[117]⟩, .string ⟨#[118]⟩] 9)) c.tx.length 2 (by decide)
  have z1 := (kept_cell ((Kept.refl (fun _ => True) w3).alloc (.cells #[.string ⟨#[116]⟩, .string ⟨#[117]⟩, .string ⟨#[118]⟩] 9)) (lt_of_block HX3.out) trivial).trans (seven_cell HX3.out).2.1
  generalize hkk : wi c.tx.length 2 = m at cw hk2
  have HKM : Hid (wi c.tx.length 2 = m) := hkk
  have s0 : (0 : Int) ≤ (m : Int) := by omega
  have s1 : (m : Int) < 3 := by omega
  clear hkk
  go_upto_region 4 with (go_at_call 24; refine Calls.mono cw ?_; rintro e v2 ⟨rfl, hv⟩; have kv : Kept (fun _ => True) w3 v2 := (by rw [hv]; exact (Kept.refl _ _).alloc _); have ci : v2.cell? ⟨w3.heap.size, m, none⟩ = some (.string ⟨(txT m).toArray⟩) := (by rw [hv]; exact lit_cell (heap_alloc_new w3 (.cells #[.string ⟨#[116]⟩, .string ⟨#[117]⟩, .string ⟨#[118]⟩] 9)) (txT_at hk2)); have bX := (kv.block _ (lt_of_block HX3.out) trivial).trans HX3.out; have z0' := (seven_cell bX).2.1; have f0' := (seven_frozen bX).2.1; have HX4 : Hid _ := bX; have HKv : Hid _ := kv; clear hv cw bX kv)
  have HX5 : Hid _ := set7_1 HX4.out (.string ⟨(txT m).toArray⟩)
  have HK5 : Hid (Kept (· ≠ X) w1 (v2.setCell ⟨X, 1, none⟩ (.string ⟨(txT m).toArray⟩))) := (HK3.out.trans (HKv.out.mono (fun _ _ _ => trivial))).setCell (by simp) _
  clear ci z1 z0' f0' s0 s1 HX3 HX4 HK3 HKv
  generalize v2.setCell ⟨X, 1, none⟩ (.string ⟨(txT m).toArray⟩) = w5 at *
  obtain ⟨z0, z1, z2, z3, z4, z5, z6⟩ := seven_cell HX5.out
  obtain ⟨f0, f1, f2, f3, f4, f5, f6⟩ := seven_frozen HX5.out
  go_upto_region 6 with fail
  clear z0 z1 z2 z3 z4 z5 z6 f0 f1 f2 f3 f4 f5 f6
  have HX6 : Hid _ := set7_6 (set7_3 HX5.out (.slice none 0 0)) (.slice none 0 0)
  have HK6 : Hid (Kept (· ≠ X) w1 ((w5.setCell ⟨X, 3, none⟩ (.slice none 0 0)).setCell ⟨X, 6, none⟩ (.slice none 0 0))) := (HK5.out.setCell (by simp) _).setCell (by simp) _
  generalize (w5.setCell ⟨X, 3, none⟩ (.slice none 0 0)).setCell ⟨X, 6, none⟩ (.slice none 0 0) = w6 at *
  have HT : Hid (Tmd w w6 X (X + 1) (X + 1 + 1) c oo oc) := by
    refine ⟨?_, (HK6.out.block _ (lt_of_block HB2.out) (by omega)).trans HB2.out, (HK6.out.block _ (lt_of_block HB3.out) (by omega)).trans HB3.out, HK1.out.then HK6.out (fun i hi => ?_), by rw [HX.out]; exact Nat.le_refl _, by rw [HX.out]; omega, by omega⟩
    · rw [HKK.out, HKM.out]
      exact HX6.out
    · have := HX.out
      omega
  clear HX5 HX6 HK5 HK6 HB1 HB2 HB3 HK1 HX
  generalize X + 1 + 1 = Z at *
  generalize X + 1 = Y at *
  go_wp2_with fail
  go_loopw [4, 5] (fun tl ti wr => ∃ (i : Nat), i ≤ c.ops.length ∧ i ≤ 3 ∧ ti = .int .i64 i ∧ wr.ownsRow w6.heap.size 61 4 tl i (orow ((c.ops.take i).map tameO)) ∧ Kept (fun k => k < w6.heap.size) w6 wr) (fun _ ti _ => 3 - (intOf ti).toNat)
  case atStart => exact ⟨0, Nat.zero_le _, Nat.zero_le _, rfl, World.ownsRow_nil _ _ _ _, Kept.refl _ _⟩
  case round =>
    obtain ⟨i, hi, hi3, rfl, hrow, hk⟩ := hrel
    obtain ⟨lo, lc, rfl⟩ := own_shape_any hrow
    have HR : Hid (wr.ownsRow w6.heap.size 61 4 (.slice lo i lc) i (orow ((c.ops.take i).map tameO))) := hrow
    have HK : Hid (Kept (fun k => k < w6.heap.size) w6 wr) := hk
    have HTr : Hid (Tmd w wr X Y Z c oo oc) := HT.out.low hk
    clear hrow hk
    obtain ⟨z0, z1, z2, z3, z4, z5, z6⟩ := seven_cell HTr.out.box
    by_cases hlt : i < c.ops.length
    · have i1 : (i : Int) < (c.ops.length : Int) := by omega
      have i0 : (0 : Int) ≤ (i : Int) := by omega
      by_cases hl3 : i < 3
      · have i3 : (i : Int) < 3 := by omega
        obtain ⟨b, off, rfl, hb, q0, q1, q2, q3⟩ := HO.out.at i hlt
        rw [← kept_cell HTr.out.kept hb trivial] at q0 q1 q2 q3
        have hw0 : orow ((c.ops.take (i + 1)).map tameO) = orow ((c.ops.take i).map tameO) ++ olay (tameO c.ops[i]) := by
          rw [map_take_succ _ _ _ hlt]
          simp [orow]
        have HW : Hid _ := hw0
        clear hw0
        have HNm : Hid ((c.ops[i]).name.length ≤ 9223372036854775807) := HN.out _ (List.getElem_mem hlt)
        clear hb
        generalize c.ops[i] = o at *
        go_upto_region 11 with fail
        clear q0 q1 q2 q3 z0 z1 z2 z3 z4 z5 z6
        have ka := (Kept.refl (fun _ => True) wr).alloc (.cells #[.int .i64 o.kind, .string ⟨o.cas.toArray⟩, .string ⟨o.name.toArray⟩, .int .i64 o.n] 61)
        have HV7 : Hid _ := heap_alloc_new wr (.cells #[.int .i64 o.kind, .string ⟨o.cas.toArray⟩, .string ⟨o.name.toArray⟩, .int .i64 o.n] 61)
        have HK7 : Hid _ := ka
        have HT7 : Hid _ := HTr.out.all ka
        clear ka HTr
        generalize wr.alloc (.cells #[.int .i64 o.kind, .string ⟨o.cas.toArray⟩, .string ⟨o.name.toArray⟩, .int .i64 o.n] 61) = w7 at *
        obtain ⟨V, hV⟩ : ∃ V, V = wr.heap.size := ⟨_, rfl⟩
        rw [← hV] at HV7 ⊢
        have HVe : Hid (V = wr.heap.size) := hV
        clear hV
        obtain ⟨⟨y0, y1, y2, y3⟩, f0, f1, f2, f3⟩ := four_cell HV7.out
        have cw := wi_any (w := w7) o.n 3 (by decide)
        have hk3 := wi_le o.n 3
        obtain ⟨k3, hk3e⟩ : ∃ k3, k3 = wi o.n 3 := ⟨_, rfl⟩
        rw [← hk3e] at cw hk3
        have HK3 : Hid (k3 = wi o.n 3) := hk3e
        clear hk3e
        have ci := lit_cell HT7.out.names (csT_at hk3)
        have s0 : (0 : Int) ≤ (k3 : Int) := by omega
        have s1 : (k3 : Int) < 4 := by omega
        go_upto_region 12 with (go_at_call 24; refine Calls.mono cw ?_; rintro e w7 ⟨rfl, rfl⟩; clear cw)
        clear y0 y1 y2 y3 f0 f1 f2 f3 ci s0 s1
        have HV8 : Hid _ := set4_1 HV7.out (.string ⟨(csT k3).toArray⟩)
        have HK8 : Hid (Kept (· ≠ V) w7 (w7.setCell ⟨V, 1, none⟩ (.string ⟨(csT k3).toArray⟩))) := (Kept.refl _ _).setCell (by simp) _
        generalize w7.setCell ⟨V, 1, none⟩ (.string ⟨(csT k3).toArray⟩) = w8 at *
        obtain ⟨⟨y0, y1, y2, y3⟩, f0, f1, f2, f3⟩ := four_cell HV8.out
        have cw := wi_any (w := w8) o.kind 4 (by decide)
        have hk4 := wi_le o.kind 4
        have HTe : Hid (tameO o = tameOk o (wi o.kind 4)) := rfl
        obtain ⟨k4, hk4e⟩ : ∃ k4, k4 = wi o.kind 4 := ⟨_, rfl⟩
        rw [← hk4e] at cw hk4 HTe
        clear hk4e
        go_upto_region 13 with (go_at_call 24; refine Calls.mono cw ?_; rintro e w8 ⟨rfl, rfl⟩; clear cw)
        clear y0 y1 y2 y3 f0 f1 f2 f3
        have HV9 : Hid _ := set4_0 HV8.out (.int .i64 (1 + (k4 : Int)))
        have HK9 : Hid (Kept (· ≠ V) w7 (w8.setCell ⟨V, 0, none⟩ (.int .i64 (1 + (k4 : Int))))) := HK8.out.setCell (by simp) _
        clear HV7 HV8 HK8
        generalize w8.setCell ⟨V, 0, none⟩ (.int .i64 (1 + (k4 : Int))) = w9 at *
        obtain ⟨kd, hkd⟩ : ∃ kd : Int, kd = 1 + (k4 : Int) := ⟨_, rfl⟩
        rw [← hkd] at HV9
        have t0 := (four_cell HV9.out).1.1
        go_upto_block 2 with fail
        clear t0
        go_cut [] from 55 to 89 (fun wx => wx.heap[V]? = some (.cells #[.int .i64 (tameOk o k4).kind, .string ⟨(tameOk o k4).cas.toArray⟩, .string ⟨(tameOk o k4).name.toArray⟩, .int .i64 (tameOk o k4).n] 61 (0, 0)) ∧ Kept (· ≠ V) w9 wx)
        case first =>
          clear HR HK HT HO HT7 HW HTe HK9 HK7 HN HNm HKK HKM
          have h5 : k4 = 0 ∨ k4 = 1 ∨ k4 = 2 ∨ k4 = 3 ∨ k4 = 4 := by omega
          clear hk4
          rcases h5 with rfl | rfl | rfl | rfl | rfl
          · obtain rfl : kd = 1 := by simpa using hkd
            clear hkd
            have cw := wi_any (w := w9.alloc (.cells #[.string ⟨#[108, 111, 97, 110]⟩, .string ⟨#[99, 111, 117, 110, 116]⟩] 9)) o.name.length 1 (by decide)
            have hkn := wi_le o.name.length 1
            have y2 := (kept_cell ((Kept.refl (fun _ => True) w9).alloc (.cells #[.string ⟨#[108, 111, 97, 110]⟩, .string ⟨#[99, 111, 117, 110, 116]⟩] 9)) (lt_of_block HV9.out) trivial).trans (four_cell HV9.out).1.2.2.1
            obtain ⟨kn, hkn2⟩ : ∃ kn, kn = wi (o.name.length : Int) 1 := ⟨_, rfl⟩
            rw [← hkn2] at cw hkn
            have HKn : Hid (kn = wi (o.name.length : Int) 1) := hkn2
            have s0 : (0 : Int) ≤ (kn : Int) := by omega
            have s1 : (kn : Int) < 2 := by omega
            clear hkn2
            go_wp2_with (go_at_call 24; refine Calls.mono cw ?_; rintro e v2 ⟨rfl, hv⟩; have kv : Kept (fun _ => True) w9 v2 := (by rw [hv]; exact (Kept.refl _ _).alloc _); have ci : v2.cell? ⟨w9.heap.size, kn, none⟩ = some (.string ⟨(tyT kn).toArray⟩) := (by rw [hv]; exact lit_cell (heap_alloc_new w9 (.cells #[.string ⟨#[108, 111, 97, 110]⟩, .string ⟨#[99, 111, 117, 110, 116]⟩] 9)) (tyT_at hkn)); have bV := (kv.block _ (lt_of_block HV9.out) trivial).trans HV9.out; obtain ⟨⟨x0, x1, x2, x3⟩, g0, g1, g2, g3⟩ := four_cell bV; have HV2 : Hid _ := bV; have HKv : Hid _ := kv; clear hv cw bV kv)
            go_meet
            have hb := set4_2 HV2.out (.string ⟨(tyT kn).toArray⟩)
            rw [HKn.out, HK3.out] at hb
            rw [HKn.out]
            exact ⟨hb, (HKv.out.mono (fun _ _ _ => trivial)).setCell (by simp) _⟩
          · obtain rfl : kd = 2 := by simpa using hkd
            clear hkd
            have cw := wi_any (w := w9.alloc (.cells #[.string ⟨#[115, 117, 109]⟩, .string ⟨#[114, 105, 115, 107]⟩, .string ⟨#[110]⟩] 9)) o.name.length 2 (by decide)
            have hkn := wi_le o.name.length 2
            have y2 := (kept_cell ((Kept.refl (fun _ => True) w9).alloc (.cells #[.string ⟨#[115, 117, 109]⟩, .string ⟨#[114, 105, 115, 107]⟩, .string ⟨#[110]⟩] 9)) (lt_of_block HV9.out) trivial).trans (four_cell HV9.out).1.2.2.1
            obtain ⟨kn, hkn2⟩ : ∃ kn, kn = wi (o.name.length : Int) 2 := ⟨_, rfl⟩
            rw [← hkn2] at cw hkn
            have HKn : Hid (kn = wi (o.name.length : Int) 2) := hkn2
            have s0 : (0 : Int) ≤ (kn : Int) := by omega
            have s1 : (kn : Int) < 3 := by omega
            clear hkn2
            go_wp2_with (go_at_call 24; refine Calls.mono cw ?_; rintro e v2 ⟨rfl, hv⟩; have kv : Kept (fun _ => True) w9 v2 := (by rw [hv]; exact (Kept.refl _ _).alloc _); have ci : v2.cell? ⟨w9.heap.size, kn, none⟩ = some (.string ⟨(atT kn).toArray⟩) := (by rw [hv]; exact lit_cell (heap_alloc_new w9 (.cells #[.string ⟨#[115, 117, 109]⟩, .string ⟨#[114, 105, 115, 107]⟩, .string ⟨#[110]⟩] 9)) (atT_at hkn)); have bV := (kv.block _ (lt_of_block HV9.out) trivial).trans HV9.out; obtain ⟨⟨x0, x1, x2, x3⟩, g0, g1, g2, g3⟩ := four_cell bV; have HV2 : Hid _ := bV; have HKv : Hid _ := kv; clear hv cw bV kv)
            go_meet
            have hb := set4_3 (set4_2 HV2.out (.string ⟨(atT kn).toArray⟩)) (.int .i64 (o.n.tmod 12))
            rw [HKn.out, HK3.out] at hb
            rw [HKn.out]
            exact ⟨hb, ((HKv.out.mono (fun _ _ _ => trivial)).setCell (by simp) _).setCell (by simp) _⟩
          · obtain rfl : kd = 3 := by simpa using hkd
            clear hkd
            have cw := wi_any (w := w9.alloc (.cells #[.string ⟨#[115, 117, 109]⟩, .string ⟨#[114, 105, 115, 107]⟩, .string ⟨#[110]⟩] 9)) o.name.length 2 (by decide)
            have hkn := wi_le o.name.length 2
            have y2 := (kept_cell ((Kept.refl (fun _ => True) w9).alloc (.cells #[.string ⟨#[115, 117, 109]⟩, .string ⟨#[114, 105, 115, 107]⟩, .string ⟨#[110]⟩] 9)) (lt_of_block HV9.out) trivial).trans (four_cell HV9.out).1.2.2.1
            obtain ⟨kn, hkn2⟩ : ∃ kn, kn = wi (o.name.length : Int) 2 := ⟨_, rfl⟩
            rw [← hkn2] at cw hkn
            have HKn : Hid (kn = wi (o.name.length : Int) 2) := hkn2
            have s0 : (0 : Int) ≤ (kn : Int) := by omega
            have s1 : (kn : Int) < 3 := by omega
            clear hkn2
            go_wp2_with (go_at_call 24; refine Calls.mono cw ?_; rintro e v2 ⟨rfl, hv⟩; have kv : Kept (fun _ => True) w9 v2 := (by rw [hv]; exact (Kept.refl _ _).alloc _); have ci : v2.cell? ⟨w9.heap.size, kn, none⟩ = some (.string ⟨(atT kn).toArray⟩) := (by rw [hv]; exact lit_cell (heap_alloc_new w9 (.cells #[.string ⟨#[115, 117, 109]⟩, .string ⟨#[114, 105, 115, 107]⟩, .string ⟨#[110]⟩] 9)) (atT_at hkn)); have bV := (kv.block _ (lt_of_block HV9.out) trivial).trans HV9.out; obtain ⟨⟨x0, x1, x2, x3⟩, g0, g1, g2, g3⟩ := four_cell bV; have HV2 : Hid _ := bV; have HKv : Hid _ := kv; clear hv cw bV kv)
            go_meet
            have hb := set4_3 (set4_2 HV2.out (.string ⟨(atT kn).toArray⟩)) (.int .i64 (o.n.tmod 12))
            rw [HKn.out, HK3.out] at hb
            rw [HKn.out]
            exact ⟨hb, ((HKv.out.mono (fun _ _ _ => trivial)).setCell (by simp) _).setCell (by simp) _⟩
          · obtain rfl : kd = 4 := by simpa using hkd
            clear hkd
            have cw := wi_any (w := w9.alloc (.cells #[.string ⟨#[99, 104, 101, 99, 107]⟩, .string ⟨#[112, 97, 121]⟩] 9)) o.name.length 1 (by decide)
            have hkn := wi_le o.name.length 1
            have y2 := (kept_cell ((Kept.refl (fun _ => True) w9).alloc (.cells #[.string ⟨#[99, 104, 101, 99, 107]⟩, .string ⟨#[112, 97, 121]⟩] 9)) (lt_of_block HV9.out) trivial).trans (four_cell HV9.out).1.2.2.1
            obtain ⟨kn, hkn2⟩ : ∃ kn, kn = wi (o.name.length : Int) 1 := ⟨_, rfl⟩
            rw [← hkn2] at cw hkn
            have HKn : Hid (kn = wi (o.name.length : Int) 1) := hkn2
            have s0 : (0 : Int) ≤ (kn : Int) := by omega
            have s1 : (kn : Int) < 2 := by omega
            clear hkn2
            go_wp2_with (go_at_call 24; refine Calls.mono cw ?_; rintro e v2 ⟨rfl, hv⟩; have kv : Kept (fun _ => True) w9 v2 := (by rw [hv]; exact (Kept.refl _ _).alloc _); have ci : v2.cell? ⟨w9.heap.size, kn, none⟩ = some (.string ⟨(stT kn).toArray⟩) := (by rw [hv]; exact lit_cell (heap_alloc_new w9 (.cells #[.string ⟨#[99, 104, 101, 99, 107]⟩, .string ⟨#[112, 97, 121]⟩] 9)) (stT_at hkn)); have bV := (kv.block _ (lt_of_block HV9.out) trivial).trans HV9.out; obtain ⟨⟨x0, x1, x2, x3⟩, g0, g1, g2, g3⟩ := four_cell bV; have HV2 : Hid _ := bV; have HKv : Hid _ := kv; clear hv cw bV kv)
            go_meet
            have hb := set4_2 HV2.out (.string ⟨(stT kn).toArray⟩)
            rw [HKn.out, HK3.out] at hb
            rw [HKn.out]
            exact ⟨hb, (HKv.out.mono (fun _ _ _ => trivial)).setCell (by simp) _⟩
          · obtain rfl : kd = 5 := by simpa using hkd
            clear hkd
            go_wp2_with fail
            go_meet
            have hb := HV9.out
            rw [HK3.out] at hb
            exact ⟨hb, Kept.refl _ _⟩
        case rest =>
        obtain ⟨hVc, hKc⟩ := hcut
        have HKc : Hid (Kept (· ≠ V) w7 wc) := HK9.out.trans hKc
        obtain ⟨o', ho'⟩ : ∃ o', o' = tameOk o k4 := ⟨_, rfl⟩
        rw [← ho'] at hVc HTe
        have HVc : Hid _ := hVc
        clear hVc hKc HK9 HV9 ho'
        obtain ⟨⟨y0, y1, y2, y3⟩, _⟩ := four_cell HVc.out
        have hr2 := own_keep (own_keep HR.out HK7.out (fun _ _ => trivial)) HKc.out (fun k e => by have := (World.ownsRow.lt HR.out k e).2; have := HVe.out; omega)
        have ka : Kept (fun k => k < w6.heap.size) w6 wc := (HK.out.trans (HK7.out.mono (fun _ _ _ => trivial))).then HKc.out (fun k hk _ => by have := HK.out.size; have := HVe.out; omega)
        have hr3 := own_keep hr2 ((Kept.refl (fun _ => True) wc).alloc (.cells (olay o').toArray 61)) (fun _ _ => trivial)
        have HR3 : Hid _ := hr3
        have HB3 : Hid _ := heap_alloc_new wc (.cells (olay o').toArray 61)
        have HKa : Hid (Kept (fun k => k < w6.heap.size) w6 (wc.alloc (.cells (olay o').toArray 61))) := ka.alloc _
        clear hr2 hr3 ka
        go_wp2_with (at_builtin; refine wpList_append_cells Tryz.underlying37 Tryz.infoOp cells_op (by decide) (by decide) rfl (.tmp 90) (.tmp 92) rfl w6.heap.size (.slice lo i lc) i _ rfl HR3.out HKa.out.size wc.heap.size rfl (olay o') rfl (olay_ones o') (0, 0) HB3.out (by omega) ?_; intro ao1 cap1 w10 t1 g1 at1; have HO1 : Hid (w10.ownsRow w6.heap.size 61 4 (.slice ao1 (i + 1) cap1) (i + 1) (orow ((c.ops.take i).map tameO) ++ olay o')) := t1; have HK1 : Hid (Kept (fun k => k < w6.heap.size) w6 w10) := HKa.out.grown g1 (fun k hk e => by have := (World.ownsRow.lt HR.out k e).1; omega); clear t1 g1 at1)
        go_roundw
        case rel =>
          refine ⟨i + 1, by omega, by omega, by go_num, ?_, HK1.out⟩
          rw [HW.out, HTe.out]
          exact HO1.out
        case measure => simp [intOf]; omega
      · obtain rfl : i = 3 := by omega
        have i3 : ¬ ((3 : Int) < 3) := by omega
        have hT : tameL c.ops = (c.ops.take 3).map tameO := by unfold tameL; rw [if_neg (by omega)]
        have hTl : (tameL c.ops).length = 3 := by rw [hT, List.length_map, List.length_take]; omega
        have HTL : Hid _ := hT
        have HTl : Hid _ := hTl
        clear hT hTl
        go_upto_region 25 with fail
        clear z0 z1 z2 z3 z4 z5 z6
        obtain ⟨z0, z1, z2, z3, z4, z5, z6⟩ := seven_cell HTr.out.box
        obtain ⟨f0, f1, f2, f3, f4, f5, f6⟩ := seven_frozen HTr.out.box
        go_upto_region 26 with fail
        clear z0 z1 z2 z3 z4 z5 z6 f0 f1 f2 f3 f4 f5 f6
        have kX : Kept (· ≠ X) wr (wr.setCell ⟨X, 2, none⟩ (.slice lo 3 lc)) := (Kept.refl _ _).setCell (by simp) _
        have HX1 : Hid _ := set7_2 HTr.out.box (.slice lo 3 lc)
        have HY1 : Hid _ := (kX.block Y (lt_of_block HTr.out.ans) (Ne.symm HTr.out.xy)).trans HTr.out.ans
        have HKX : Hid _ := kX
        clear kX
        generalize wr.setCell ⟨X, 2, none⟩ (.slice lo 3 lc) = w11 at *
        obtain ⟨z0, z1, z2, z3, z4, z5, z6⟩ := seven_cell HX1.out
        obtain ⟨y0, y1, y2, y3, y4, y5, y6⟩ := seven_cell HY1.out
        obtain ⟨f0, f1, f2, f3, f4, f5, f6⟩ := seven_frozen HY1.out
        go_wp2_with fail
        refine bodyPost_ret (results_cmd rfl _ _ rfl (put7_at HY1.out _ _ _ _ _ _ _) rfl) rfl ?_
        obtain ⟨q1, q2⟩ := tame_close HTr.out HKX.out HR.out HT.out.kept.size (lt_of_block HT.out.box) (lt_of_block HT.out.ans) (.int .i64 (kdT (wi c.kind 5))) (.string ⟨(txT (wi c.tx.length 2)).toArray⟩) (.slice lo 3 lc) (.slice none 0 0) (.int .i64 c.lo) (.int .i64 c.hi) (.slice none 0 0)
        rw [HTl.out, HTL.out]
        exact ⟨_, _, rfl, q1, q2⟩
    · obtain rfl : i = c.ops.length := by omega
      have i1 : ¬ ((c.ops.length : Int) < (c.ops.length : Int)) := by omega
      by_cases h0 : c.ops.length = 0
      · have hT : tameL c.ops = [⟨5, [97], [], 0⟩] := by unfold tameL; rw [if_pos h0]
        have HTL : Hid _ := hT
        have h0i : (c.ops.length : Int) = 0 := by omega
        clear hT h0
        have cr := readOp_any (w := wr) [97]
        unfold opV at cr
        go_upto_region 25 with (go_at_call 39; refine Calls.mono cr ?_; rintro e va ⟨rfl, k3⟩; have HKv : Hid (Kept (fun _ => True) wr va) := k3; clear cr k3)
        clear z0 z1 z2 z3 z4 z5 z6
        have ka := (Kept.refl (fun _ => True) va).alloc (.cells #[.int .i64 5, .string ⟨#[97]⟩, .string ⟨#[]⟩, .int .i64 0] 61)
        have HOl : Hid _ := World.ownsRow_lit (base := va.heap.size) (e := 61) (size := 4) va #[.int .i64 5, .string ⟨#[97]⟩, .string ⟨#[]⟩, .int .i64 0] 1 (Nat.le_refl _) (by unfold maxLen; omega) (by simp)
        have HTv : Hid _ := (HTr.out.all HKv.out).all ka
        have HLv : Hid (X < va.heap.size ∧ Y < va.heap.size) := ⟨lt_of_block (HTr.out.all HKv.out).box, lt_of_block (HTr.out.all HKv.out).ans⟩
        have HLw : Hid (w.heap.size ≤ va.heap.size) := (HTr.out.all HKv.out).kept.size
        clear ka
        generalize va.alloc (.cells #[.int .i64 5, .string ⟨#[97]⟩, .string ⟨#[]⟩, .int .i64 0] 61) = wz at *
        generalize va.heap.size = G at *
        obtain ⟨z0, z1, z2, z3, z4, z5, z6⟩ := seven_cell HTv.out.box
        obtain ⟨f0, f1, f2, f3, f4, f5, f6⟩ := seven_frozen HTv.out.box
        go_upto_region 26 with fail
        clear z0 z1 z2 z3 z4 z5 z6 f0 f1 f2 f3 f4 f5 f6
        have kX : Kept (· ≠ X) wz (wz.setCell ⟨X, 2, none⟩ (.slice (some ⟨G, 0, none⟩) 1 1)) := (Kept.refl _ _).setCell (by simp) _
        have HX1 : Hid _ := set7_2 HTv.out.box (.slice (some ⟨G, 0, none⟩) 1 1)
        have HY1 : Hid _ := (kX.block Y (lt_of_block HTv.out.ans) (Ne.symm HTv.out.xy)).trans HTv.out.ans
        have HKX : Hid _ := kX
        clear kX
        generalize wz.setCell ⟨X, 2, none⟩ (.slice (some ⟨G, 0, none⟩) 1 1) = w11 at *
        obtain ⟨z0, z1, z2, z3, z4, z5, z6⟩ := seven_cell HX1.out
        obtain ⟨y0, y1, y2, y3, y4, y5, y6⟩ := seven_cell HY1.out
        obtain ⟨f0, f1, f2, f3, f4, f5, f6⟩ := seven_frozen HY1.out
        go_wp2_with fail
        refine bodyPost_ret (results_cmd rfl _ _ rfl (put7_at HY1.out _ _ _ _ _ _ _) rfl) rfl ?_
        obtain ⟨q1, q2⟩ := tame_close HTv.out HKX.out HOl.out HLw.out HLv.out.1 HLv.out.2 (.int .i64 (kdT (wi c.kind 5))) (.string ⟨(txT (wi c.tx.length 2)).toArray⟩) (.slice (some ⟨G, 0, none⟩) 1 1) (.slice none 0 0) (.int .i64 c.lo) (.int .i64 c.hi) (.slice none 0 0)
        rw [HTL.out]
        exact ⟨_, _, rfl, q1, q2⟩
      · have hne : ¬ ((c.ops.length : Int) = 0) := by omega
        have hT : tameL c.ops = (c.ops.take c.ops.length).map tameO := by unfold tameL; rw [if_neg h0, List.take_length, List.take_of_length_le hi3]
        have hTl : (tameL c.ops).length = c.ops.length := by rw [hT, List.length_map, List.length_take]; omega
        have HTL : Hid _ := hT
        have HTl : Hid _ := hTl
        clear hT hTl
        go_upto_region 25 with fail
        clear z0 z1 z2 z3 z4 z5 z6
        obtain ⟨z0, z1, z2, z3, z4, z5, z6⟩ := seven_cell HTr.out.box
        obtain ⟨f0, f1, f2, f3, f4, f5, f6⟩ := seven_frozen HTr.out.box
        go_upto_region 26 with fail
        clear z0 z1 z2 z3 z4 z5 z6 f0 f1 f2 f3 f4 f5 f6
        have kX : Kept (· ≠ X) wr (wr.setCell ⟨X, 2, none⟩ (.slice lo c.ops.length lc)) := (Kept.refl _ _).setCell (by simp) _
        have HX1 : Hid _ := set7_2 HTr.out.box (.slice lo c.ops.length lc)
        have HY1 : Hid _ := (kX.block Y (lt_of_block HTr.out.ans) (Ne.symm HTr.out.xy)).trans HTr.out.ans
        have HKX : Hid _ := kX
        clear kX
        generalize wr.setCell ⟨X, 2, none⟩ (.slice lo c.ops.length lc) = w11 at *
        obtain ⟨z0, z1, z2, z3, z4, z5, z6⟩ := seven_cell HX1.out
        obtain ⟨y0, y1, y2, y3, y4, y5, y6⟩ := seven_cell HY1.out
        obtain ⟨f0, f1, f2, f3, f4, f5, f6⟩ := seven_frozen HY1.out
        go_wp2_with fail
        refine bodyPost_ret (results_cmd rfl _ _ rfl (put7_at HY1.out _ _ _ _ _ _ _) rfl) rfl ?_
        obtain ⟨q1, q2⟩ := tame_close HTr.out HKX.out HR.out HT.out.kept.size (lt_of_block HT.out.box) (lt_of_block HT.out.ans) (.int .i64 (kdT (wi c.kind 5))) (.string ⟨(txT (wi c.tx.length 2)).toArray⟩) (.slice lo c.ops.length lc) (.slice none 0 0) (.int .i64 c.lo) (.int .i64 c.hi) (.slice none 0 0)
        rw [HTl.out, HTL.out]
        exact ⟨_, _, rfl, q1, q2⟩

end Go.Proofs.YtenejaghgehnoaaGreatDoor

namespace Go.Proofs.YtenejaghgehnoaaGreatDoor
open Go.RowKit

set_option maxRecDepth 100000 in
set_option maxHeartbeats 16000000 in
theorem copyState_any {w : World} {sv : Value} {s : Sa} (hs : StV w sv s) (f : Few s) :
    Calls Tryz.prog 84 #[sv] w fun e w' => ∃ va vd vg, e = .returned (.agg #[.string ⟨s.type.toArray⟩, va, vd, vg]) ∧ So w' w.heap.size va vd vg s ∧ Kept (fun _ => True) w w' := by
  obtain ⟨va, vd, vg, rfl, h1, h2, h3⟩ := hs
  have HV : Hid (Cv w va (iv s.vals)) := h1
  have HE : Hid (Cv w vd (bv s.done)) := h2
  have HG : Hid (Cv w vg (bv s.got)) := h3
  obtain ⟨vo, vc, rfl, -, -⟩ := h1.ints
  obtain ⟨eo, ec, rfl, -, -⟩ := h2.bools
  obtain ⟨go, gc, rfl, -, -⟩ := h3.bools
  have hk : Kept (fun _ => True) w ((w.alloc (.cells #[.string ⟨s.type.toArray⟩, .slice vo s.vals.length vc, .slice eo s.done.length ec, .slice go s.got.length gc] 70)).alloc (.cells #[.string ⟨#[]⟩, .slice none 0 0, .slice none 0 0, .slice none 0 0] 70)) := ((Kept.refl _ _).alloc _).alloc _
  obtain ⟨x1, x2⟩ := alloc_two w (.cells #[.string ⟨s.type.toArray⟩, .slice vo s.vals.length vc, .slice eo s.done.length ec, .slice go s.got.length gc] 70) (.cells #[.string ⟨#[]⟩, .slice none 0 0, .slice none 0 0, .slice none 0 0] 70)
  have HF : Hid (Few s) := f
  have K0 : Hid _ := hk
  clear h1 h2 h3 f hk
  go_enter Tryz.func84, Tryz.ntmps84
  go_upto_region 1 with fail
  generalize (w.alloc (.cells #[.string ⟨s.type.toArray⟩, .slice vo s.vals.length vc, .slice eo s.done.length ec, .slice go s.got.length gc] 70)).alloc (.cells #[.string ⟨#[]⟩, .slice none 0 0, .slice none 0 0, .slice none 0 0] 70) = w1 at *
  obtain ⟨B, hB⟩ : ∃ B, B = w.heap.size := ⟨_, rfl⟩
  rw [← hB] at x1 x2 ⊢
  have HB : Hid (B = w.heap.size) := hB
  clear hB
  obtain ⟨⟨z0, z1, z2, z3⟩, _⟩ := four_cell x1
  have X1 : Hid _ := x1
  have X2 : Hid _ := x2
  have Z1 := fun W (q : Kept (fun _ => True) w1 W) => (kept_cell q (lt_of_block x1) trivial).trans z1
  have Z2 := fun W (q : Kept (fun _ => True) w1 W) => (kept_cell q (lt_of_block x1) trivial).trans z2
  have Z3 := fun W (q : Kept (fun _ => True) w1 W) => (kept_cell q (lt_of_block x1) trivial).trans z3
  have ZF := fun W (q : Kept (fun _ => True) w1 W) (o : Nat) => (kept_frozen (o := o) q (lt_of_block x1) trivial)
  clear x1 x2
  have kd : Kept (fun _ => True) w1 w1.drew := (Kept.refl _ _).drew
  refine Gz.begin (fun W => Kept (fun _ => True) w1 W) (fun i => decide (10 ≤ i)) (by kernel_rfl) ?_
  refine Gz.take (i := 0) (oi := { dst := some 3, op := Op.fieldAddr 70 (Operand.tmp 1) 1, type := 0, pos := _, after := #[], guard := none }) (v := ?_) rfl (by kernel_rfl) (by kernel_rfl) (by kernel_rfl) (by kernel_rfl) (fun _ _ _ h => h) (Or.inl ⟨by rfl, ?hy0⟩) kd ?_
  case hy0 => (intro W hSw; (try dsimp only at hSw); go_simp; try with_reducible rfl)
  try simp only [Act.put, List.setIfInBounds_toArray, List.set_cons_zero, List.set_cons_succ]
  refine Gz.take (i := 1) (oi := { dst := some 4, op := Op.load 38 (Operand.tmp 3), type := 38, pos := _, after := #[{ on := 0, ground := Ground.data }], guard := none }) (v := ?_) rfl (by kernel_rfl) (by kernel_rfl) (by kernel_rfl) (by kernel_rfl) (fun _ _ _ h => h) (Or.inl ⟨by rfl, ?hy1⟩) kd ?_
  case hy1 => (intro W hSw; (try dsimp only at hSw); go_simp; try with_reducible rfl)
  try simp only [Act.put, List.setIfInBounds_toArray, List.set_cons_zero, List.set_cons_succ]
  refine Gz.take (i := 3) (oi := { dst := some 6, op := Op.fieldAddr 70 (Operand.tmp 1) 2, type := 0, pos := _, after := #[], guard := none }) (v := ?_) rfl (by kernel_rfl) (by kernel_rfl) (by kernel_rfl) (by kernel_rfl) (fun _ _ _ h => h) (Or.inl ⟨by rfl, ?hy3⟩) kd ?_
  case hy3 => (intro W hSw; (try dsimp only at hSw); go_simp; try with_reducible rfl)
  try simp only [Act.put, List.setIfInBounds_toArray, List.set_cons_zero, List.set_cons_succ]
  refine Gz.take (i := 4) (oi := { dst := some 7, op := Op.load 56 (Operand.tmp 6), type := 56, pos := _, after := #[{ on := 3, ground := Ground.data }], guard := none }) (v := ?_) rfl (by kernel_rfl) (by kernel_rfl) (by kernel_rfl) (by kernel_rfl) (fun _ _ _ h => h) (Or.inl ⟨by rfl, ?hy4⟩) kd ?_
  case hy4 => (intro W hSw; (try dsimp only at hSw); go_simp; try with_reducible rfl)
  try simp only [Act.put, List.setIfInBounds_toArray, List.set_cons_zero, List.set_cons_succ]
  refine Gz.take (i := 6) (oi := { dst := some 9, op := Op.fieldAddr 70 (Operand.tmp 1) 3, type := 0, pos := _, after := #[], guard := none }) (v := ?_) rfl (by kernel_rfl) (by kernel_rfl) (by kernel_rfl) (by kernel_rfl) (fun _ _ _ h => h) (Or.inl ⟨by rfl, ?hy6⟩) kd ?_
  case hy6 => (intro W hSw; (try dsimp only at hSw); go_simp; try with_reducible rfl)
  try simp only [Act.put, List.setIfInBounds_toArray, List.set_cons_zero, List.set_cons_succ]
  refine Gz.take (i := 7) (oi := { dst := some 10, op := Op.load 56 (Operand.tmp 9), type := 56, pos := _, after := #[{ on := 6, ground := Ground.data }], guard := none }) (v := ?_) rfl (by kernel_rfl) (by kernel_rfl) (by kernel_rfl) (by kernel_rfl) (fun _ _ _ h => h) (Or.inl ⟨by rfl, ?hy7⟩) kd ?_
  case hy7 => (intro W hSw; (try dsimp only at hSw); go_simp; try with_reducible rfl)
  try simp only [Act.put, List.setIfInBounds_toArray, List.set_cons_zero, List.set_cons_succ]
  refine Gz.one (i := 2) (o := { dst := some 5, op := Op.call { callee := Callee.value (Operand.func 142), args := #[Operand.tmp 4], argTypes := #[38] }, type := 38, pos := _, after := #[{ on := 1, ground := Ground.data }], guard := none }) (by kernel_rfl) rfl (fun K hK => ?_)
  go_simp
  refine Calls.mono (clone_nums (HV.out.all (K0.out.trans kd)) (iv_one _) (by rw [iv_len]; exact HF.out.vals)) ?_
  rintro e v5 ⟨na, rfl, ha, m5⟩
  rw [iv_len] at ha
  obtain ⟨p1, p2, rfl⟩ := own_shape_any ha
  have p5 : Kept (fun _ => True) w1 v5 := Kept.trans kd m5
  have HA : Hid _ := ha
  clear m5 ha
  try go_wp2_with fail
  refine hK.out _ _ (fun hEarly => p5) ?_
  clear hK K
  try simp only [Act.put, List.setIfInBounds_toArray, List.set_cons_zero, List.set_cons_succ]
  refine Gz.take (i := 9) (oi := { dst := some 12, op := Op.fieldAddr 70 (Operand.tmp 1) 1, type := 0, pos := _, after := #[{ on := 0, ground := Ground.phase }, { on := 1, ground := Ground.phase }, { on := 2, ground := Ground.phase }, { on := 3, ground := Ground.phase }, { on := 4, ground := Ground.phase }, { on := 5, ground := Ground.textOnly Departure.lateStoresUnsure }, { on := 6, ground := Ground.phase }, { on := 7, ground := Ground.phase }, { on := 8, ground := Ground.textOnly Departure.lateStoresUnsure }], guard := none }) (v := ?_) rfl (by kernel_rfl) (by kernel_rfl) (by kernel_rfl) (by kernel_rfl) (fun _ _ _ h => h) (Or.inl ⟨by rfl, ?hy9⟩) p5 ?_
  case hy9 => (intro W hSw; (try dsimp only at hSw); go_simp; try with_reducible rfl)
  try simp only [Act.put, List.setIfInBounds_toArray, List.set_cons_zero, List.set_cons_succ]
  refine Gz.one (i := 5) (o := { dst := some 8, op := Op.call { callee := Callee.value (Operand.func 143), args := #[Operand.tmp 7], argTypes := #[56] }, type := 56, pos := _, after := #[{ on := 4, ground := Ground.data }, { on := 2, ground := Ground.chain }], guard := none }) (by kernel_rfl) rfl (fun K hK => ?_)
  go_simp
  refine Calls.mono (clone_truths (HE.out.all (K0.out.trans p5)) (bv_one _) (by rw [bv_len]; exact HF.out.done)) ?_
  rintro e v6 ⟨nb, rfl, hb, m6⟩
  rw [bv_len] at hb
  obtain ⟨p3, p4, rfl⟩ := own_shape_any hb
  have p6 : Kept (fun _ => True) w1 v6 := Kept.trans p5 m6
  have HA2 : Hid _ := own_keep HA.out m6 (fun _ _ => trivial)
  have HBn : Hid _ := hb
  have L6 : Hid (w1.heap.size ≤ v5.heap.size) := p5.size
  clear m6 hb
  try go_wp2_with fail
  refine hK.out _ _ (fun hEarly => p6) ?_
  clear hK K
  try simp only [Act.put, List.setIfInBounds_toArray, List.set_cons_zero, List.set_cons_succ]
  refine Gz.one (i := 8) (o := { dst := some 11, op := Op.call { callee := Callee.value (Operand.func 143), args := #[Operand.tmp 10], argTypes := #[56] }, type := 56, pos := _, after := #[{ on := 7, ground := Ground.data }, { on := 5, ground := Ground.chain }], guard := none }) (by kernel_rfl) rfl (fun K hK => ?_)
  go_simp
  refine Calls.mono (clone_truths (HG.out.all (K0.out.trans p6)) (bv_one _) (by rw [bv_len]; exact HF.out.got)) ?_
  rintro e v7 ⟨nc, rfl, hc, m7⟩
  rw [bv_len] at hc
  obtain ⟨p8, p9, rfl⟩ := own_shape_any hc
  have p7 : Kept (fun _ => True) w1 v7 := Kept.trans p6 m7
  have HA3 : Hid _ := own_keep HA2.out m7 (fun _ _ => trivial)
  have HBn2 : Hid _ := own_keep HBn.out m7 (fun _ _ => trivial)
  have HCn : Hid _ := hc
  have L7 : Hid (w1.heap.size ≤ v6.heap.size) := p6.size
  have L8 : Hid (∀ k, (Value.slice p3 s.done.length p4).ownBlock = some k → k < v6.heap.size) := fun k e => (World.ownsRow.lt HBn.out k e).2
  clear m7 hc
  try go_wp2_with fail
  refine hK.out _ _ (fun hEarly => p7) ?_
  clear hK K
  try simp only [Act.put, List.setIfInBounds_toArray, List.set_cons_zero, List.set_cons_succ]
  have hb7 := (p7.block B (lt_of_block X1.out) trivial).trans X1.out
  obtain ⟨⟨y0, y1, y2, y3⟩, f1, f2, f3⟩ := four_cell hb7
  have HB7 : Hid _ := hb7
  have P7 : Hid (Kept (fun _ => True) w1 v7) := p7
  clear z0 z1 z2 z3 Z1 Z2 Z3 ZF kd p5 p6 p7 hb7
  refine Gz.one (i := 10) (o := { dst := none, op := Op.store 38 (Operand.tmp 12) (Operand.tmp 5), type := 0, pos := _, after := #[{ on := 9, ground := Ground.data }, { on := 2, ground := Ground.data }, { on := 8, ground := Ground.chain }, { on := 0, ground := Ground.phase }, { on := 1, ground := Ground.phase }, { on := 2, ground := Ground.phase }, { on := 3, ground := Ground.phase }, { on := 4, ground := Ground.phase }, { on := 5, ground := Ground.textOnly Departure.lateStoresUnsure }, { on := 6, ground := Ground.phase }, { on := 7, ground := Ground.phase }, { on := 8, ground := Ground.textOnly Departure.lateStoresUnsure }], guard := none }) (by kernel_rfl) rfl (fun K hK => ?_)
  go_simp
  refine hK.out _ _ (fun hEarly => by cases hEarly) ?_
  clear hK K
  try simp only [Act.put, List.setIfInBounds_toArray, List.set_cons_zero, List.set_cons_succ]
  refine Gz.one (i := 11) (o := { dst := some 13, op := Op.fieldAddr 70 (Operand.tmp 1) 2, type := 0, pos := _, after := #[{ on := 0, ground := Ground.phase }, { on := 1, ground := Ground.phase }, { on := 2, ground := Ground.phase }, { on := 3, ground := Ground.phase }, { on := 4, ground := Ground.phase }, { on := 5, ground := Ground.phase }, { on := 6, ground := Ground.phase }, { on := 7, ground := Ground.phase }, { on := 8, ground := Ground.textOnly Departure.lateStoresUnsure }, { on := 9, ground := Ground.phase }, { on := 10, ground := Ground.phase }], guard := none }) (by kernel_rfl) rfl (fun K hK => ?_)
  go_simp
  refine hK.out _ _ (fun hEarly => by cases hEarly) ?_
  clear hK K
  try simp only [Act.put, List.setIfInBounds_toArray, List.set_cons_zero, List.set_cons_succ]
  refine Gz.one (i := 12) (o := { dst := none, op := Op.store 56 (Operand.tmp 13) (Operand.tmp 8), type := 0, pos := _, after := #[{ on := 11, ground := Ground.data }, { on := 5, ground := Ground.data }, { on := 10, ground := Ground.chain }, { on := 0, ground := Ground.phase }, { on := 1, ground := Ground.phase }, { on := 2, ground := Ground.phase }, { on := 3, ground := Ground.phase }, { on := 4, ground := Ground.phase }, { on := 5, ground := Ground.phase }, { on := 6, ground := Ground.phase }, { on := 7, ground := Ground.phase }, { on := 8, ground := Ground.textOnly Departure.lateStoresUnsure }, { on := 9, ground := Ground.phase }, { on := 10, ground := Ground.phase }], guard := none }) (by kernel_rfl) rfl (fun K hK => ?_)
  go_simp
  refine hK.out _ _ (fun hEarly => by cases hEarly) ?_
  clear hK K
  try simp only [Act.put, List.setIfInBounds_toArray, List.set_cons_zero, List.set_cons_succ]
  refine Gz.one (i := 13) (o := { dst := some 14, op := Op.fieldAddr 70 (Operand.tmp 1) 3, type := 0, pos := _, after := #[{ on := 0, ground := Ground.phase }, { on := 1, ground := Ground.phase }, { on := 2, ground := Ground.phase }, { on := 3, ground := Ground.phase }, { on := 4, ground := Ground.phase }, { on := 5, ground := Ground.phase }, { on := 6, ground := Ground.phase }, { on := 7, ground := Ground.phase }, { on := 8, ground := Ground.phase }, { on := 9, ground := Ground.phase }, { on := 10, ground := Ground.phase }, { on := 11, ground := Ground.phase }, { on := 12, ground := Ground.phase }], guard := none }) (by kernel_rfl) rfl (fun K hK => ?_)
  go_simp
  refine hK.out _ _ (fun hEarly => by cases hEarly) ?_
  clear hK K
  try simp only [Act.put, List.setIfInBounds_toArray, List.set_cons_zero, List.set_cons_succ]
  refine Gz.one (i := 14) (o := { dst := none, op := Op.store 56 (Operand.tmp 14) (Operand.tmp 11), type := 0, pos := _, after := #[{ on := 13, ground := Ground.data }, { on := 8, ground := Ground.data }, { on := 12, ground := Ground.chain }, { on := 0, ground := Ground.phase }, { on := 1, ground := Ground.phase }, { on := 2, ground := Ground.phase }, { on := 3, ground := Ground.phase }, { on := 4, ground := Ground.phase }, { on := 5, ground := Ground.phase }, { on := 6, ground := Ground.phase }, { on := 7, ground := Ground.phase }, { on := 8, ground := Ground.phase }, { on := 9, ground := Ground.phase }, { on := 10, ground := Ground.phase }, { on := 11, ground := Ground.phase }, { on := 12, ground := Ground.phase }], guard := none }) (by kernel_rfl) rfl (fun K hK => ?_)
  go_simp
  refine hK.out _ _ (fun hEarly => by cases hEarly) ?_
  clear hK K
  try simp only [Act.put, List.setIfInBounds_toArray, List.set_cons_zero, List.set_cons_succ]
  refine Gz.done (by kernel_rfl) ?_ _
  have hb := box_three HB7.out (.slice p1 s.vals.length p2) (.slice p3 s.done.length p4) (.slice p8 s.got.length p9)
  have hr := ((((Kept.refl (· ≠ B) v7).setCell (ad := ⟨B, 1, none⟩) (by simp) (.slice p1 s.vals.length p2)).setCell (ad := ⟨B, 2, none⟩) (by simp) (.slice p3 s.done.length p4)).setCell (ad := ⟨B, 3, none⟩) (by simp) (.slice p8 s.got.length p9)).block (B + 1) (by have := P7.out.size; have := lt_of_block X2.out; omega) (by omega)
  have hr2 := (hr.trans (P7.out.block (B + 1) (lt_of_block X2.out) trivial)).trans X2.out
  have kf : Kept (fun i => i ≠ B ∧ i ≠ B + 1) v7 (((v7.setCell ⟨B, 1, none⟩ (.slice p1 s.vals.length p2)).setCell ⟨B, 2, none⟩ (.slice p3 s.done.length p4)).setCell ⟨B, 3, none⟩ (.slice p8 s.got.length p9)) := (((Kept.refl _ v7).setCell (by simp) _).setCell (by simp) _).setCell (by simp) _
  have KF : Hid _ := kf
  have HR2 : Hid _ := hr2
  clear y0 y1 y2 y3 hr hr2 kf
  generalize ((v7.setCell ⟨B, 1, none⟩ (.slice p1 s.vals.length p2)).setCell ⟨B, 2, none⟩ (.slice p3 s.done.length p4)).setCell ⟨B, 3, none⟩ (.slice p8 s.got.length p9) = w8 at *
  obtain ⟨⟨z0, z1, z2, z3⟩, _⟩ := four_cell hb
  obtain ⟨⟨r0, r1, r2, r3⟩, _⟩ := four_cell HR2.out
  clear hb
  go_wp2_with fail
  obtain ⟨q1, q2⟩ := copied_end HB.out K0.out P7.out (lt_of_block X2.out) ((((KF.out.setCell (ad := ⟨B + 1, 0, none⟩) (by simp) (.string ⟨s.type.toArray⟩)).setCell (ad := ⟨B + 1, 1, none⟩) (by simp) (.slice p1 s.vals.length p2)).setCell (ad := ⟨B + 1, 2, none⟩) (by simp) (.slice p3 s.done.length p4)).setCell (ad := ⟨B + 1, 3, none⟩) (by simp) (.slice p8 s.got.length p9)) HA3.out HBn2.out HCn.out (Nat.le_refl _) L6.out L7.out L8.out
  refine bodyPost_ret (results_state rfl _ _ rfl (set_cell (set_cell (set_cell (set_cell HR2.out 0 _) 1 _) 2 _) 3 _) rfl) rfl ?_
  exact ⟨_, _, _, rfl, q1, q2⟩

end Go.Proofs.YtenejaghgehnoaaGreatDoor

namespace Go.Proofs.YtenejaghgehnoaaGreatDoor
open Go.RowKit Go.Maps

/-- What a case is, as Case tells it. -/
def caseP (s : Sh) (x : List UInt8) : Sa := (look s.cs x).getD Sa.none
theorem case_fit {s : Sh} (h : Sok s) {x : List UInt8} {t : Sa} (hl : look s.cs x = some t) : ∃ ty, Good ty ∧ Fit ty t := by
  obtain ⟨ty, h1, h2⟩ := h.cases.fits _ (look_mem hl)
  exact ⟨ty, h.types.good h1, h2⟩
theorem case_few {s : Sh} (h : Sok s) (x : List UInt8) : Few (caseP s x) := by
  unfold caseP
  cases hl : look s.cs x with
  | none => exact ⟨by decide, by decide, by decide⟩
  | some t =>
    obtain ⟨ty, g, f⟩ := case_fit h hl
    exact f.few g

set_option maxRecDepth 100000 in
set_option maxHeartbeats 4000000 in
theorem case_any {w : World} {a : Ft} {n : Nat} {tv : Value} {h : Lk} {s : Sh} (m : Sm w a n tv h s) (ok : Sok s) {x : List UInt8} (hx : x.length ≤ 9223372036854775807) :
    Calls Tryz.prog 26 #[.pointer (some ⟨a.S, 0, none⟩), .string ⟨x.toArray⟩] w fun e w' => ∃ va vd vg, e = .returned (.tuple #[.agg #[.string ⟨(caseP s x).type.toArray⟩, va, vd, vg], .bool (look s.cs x).isSome]) ∧ So w' w.heap.size va vd vg (caseP s x) ∧ Kept (fun _ => True) w w' := by
  have HF : Hid (Few (caseP s x)) := case_few ok x
  obtain ⟨t1, a1, n1, c1, a2, n2, c2, a3, n3, c3, s1, l1⟩ := m.cases.look hx
  have k0 : Kept (fun _ => True) w (w.alloc (.cells #[.string ⟨#[]⟩, .slice none 0 0, .slice none 0 0, .slice none 0 0] 70)) := (Kept.refl _ _).alloc _
  have h0 := heap_alloc_new w (.cells #[.string ⟨#[]⟩, .slice none 0 0, .slice none 0 0, .slice none 0 0] 70)
  have y1 := (kept_cell k0 m.slt trivial).trans m.cellC
  have m1 := (l1 _ _ k0 trivial).1
  have hs1 : StV w (.agg #[.string ⟨t1.toArray⟩, .slice a1 n1 c1, .slice a2 n2 c2, .slice a3 n3 c3]) (caseP s x) := s1.1
  have ka := (Kept.refl (fun _ => True) (w.alloc (.cells #[.string ⟨#[]⟩, .slice none 0 0, .slice none 0 0, .slice none 0 0] 70))).alloc (.cells #[.string ⟨t1.toArray⟩, .slice a1 n1 c1, .slice a2 n2 c2, .slice a3 n3 c3] 70)
  have hb1 := (ka.block _ (lt_of_block h0) trivial).trans h0
  have hG := heap_alloc_new (w.alloc (.cells #[.string ⟨#[]⟩, .slice none 0 0, .slice none 0 0, .slice none 0 0] 70)) (.cells #[.string ⟨t1.toArray⟩, .slice a1 n1 c1, .slice a2 n2 c2, .slice a3 n3 c3] 70)
  rw [show (w.alloc (.cells #[.string ⟨#[]⟩, .slice none 0 0, .slice none 0 0, .slice none 0 0] 70)).heap.size = w.heap.size + 1 by simp] at hG
  have HK : Hid _ := k0.trans ka
  have HB1 : Hid _ := hb1
  have HG1 : Hid _ := hG
  have HS : Hid (StV w (.agg #[.string ⟨t1.toArray⟩, .slice a1 n1 c1, .slice a2 n2 c2, .slice a3 n3 c3]) (caseP s x)) := hs1
  clear m s1 l1 k0 h0 ka hb1 hG hs1 ok
  generalize caseP s x = u at *
  generalize (look s.cs x).isSome = q at *
  generalize a.S = S at *
  generalize a.C = C at *
  go_enter Tryz.func26, Tryz.ntmps26
  go_upto_region 2 with fail
  clear m1 y1
  generalize (w.alloc (.cells #[.string ⟨#[]⟩, .slice none 0 0, .slice none 0 0, .slice none 0 0] 70)).alloc (.cells #[.string ⟨t1.toArray⟩, .slice a1 n1 c1, .slice a2 n2 c2, .slice a3 n3 c3] 70) = w2 at *
  obtain ⟨⟨p0, p1, p2, p3⟩, _⟩ := four_cell HG1.out
  have cp := copyState_any (HS.out.all HK.out) HF.out
  go_wp2_with (go_at_call 84; refine Calls.mono cp ?_; rintro e v3 ⟨va, vd, vg, rfl, hso, k3⟩; obtain ⟨vo, vc, eo, ec, go, gc, rfl, rfl, rfl⟩ := hso.shapes; have hz := (k3.block _ (lt_of_block HB1.out) trivial).trans HB1.out; obtain ⟨⟨z0, z1, z2, z3⟩, f0, f1, f2, f3⟩ := four_cell hz; have HZ : Hid _ := hz; have HSo : Hid (So v3 w2.heap.size (.slice vo u.vals.length vc) (.slice eo u.done.length ec) (.slice go u.got.length gc) u) := hso; have HK3 : Hid (Kept (fun _ => True) w2 v3) := k3; clear cp hso k3 hz)
  refine bodyPost_ret (results_two rfl _ _ rfl (load_state (put4_at HZ.out _ _ _ _) rfl)) rfl ?_
  have hlt := lt_of_block HB1.out
  have kf := put4_kept (p := (w2.heap.size ≤ ·)) (w := v3) (D := w.heap.size) (by omega) (.string ⟨u.type.toArray⟩) (.slice vo u.vals.length vc) (.slice eo u.done.length ec) (.slice go u.got.length gc)
  exact ⟨_, _, _, rfl, (HSo.out.far kf).lower (by omega), put4_new (HK.out.trans HK3.out) (Nat.le_refl _) _ _ _ _⟩

end Go.Proofs.YtenejaghgehnoaaGreatDoor

namespace Go.Proofs.YtenejaghgehnoaaGreatDoor
open Go.RowKit Go.Maps

/-- string(rune(z)) -/
def IsRt (rt : Int → List UInt8) : Prop := ∀ z, (⟨(rt z).toArray⟩ : ByteArray) = Utf8.encode z
theorem bytes_same (b : ByteArray) : (⟨b.data.toList.toArray⟩ : ByteArray) = b := by cases b; simp
theorem rt_some : ∃ rt, IsRt rt := ⟨fun z => (Utf8.encode z).data.toList, fun z => bytes_same (Utf8.encode z)⟩
theorem isName_len {x : List UInt8} (h : isName x = true) : x.length ≤ 12 := by
  unfold isName at h
  simp only [Bool.and_eq_true, decide_eq_true_eq] at h
  exact h.1.1.2
section
variable {rt : Int → List UInt8}
theorem rt_len (h : IsRt rt) (z : Int) : (rt z).length ≤ 4 := by
  have h1 := encode_size_le z
  rw [← h z] at h1
  simpa [ByteArray.size] using h1
theorem conv_rt (h : IsRt rt) (z : Int) (W : World) : (convert 21 9 (.int .i32 z)).run Tryz.prog W = .ok (.string ⟨(rt z).toArray⟩) W := by
  rw [h z]
  exact run_convert_int_string W _ _ _ _ (by rw [Tryz.underlying21]; rfl) Tryz.underlying9
def lineV (rt : Int → List UInt8) (vs : List Int) : List UInt8 := vs.flatMap (fun v => rt (v + 2000))
def lineB (rt : Int → List UInt8) (p : UInt8) (bs : List Bool) : Nat → List UInt8
  | 0 => []
  | k + 1 => lineB rt p bs k ++ (if bs.getD k false = true then p :: rt (97 + (k : Int)) else [])
def lineT (x : List UInt8) (s : Sa) : List UInt8 := x ++ [32] ++ s.type
def shotP (rt : Int → List UInt8) (x : List UInt8) (s : Sa) : List UInt8 := lineT x s ++ lineV rt s.vals ++ lineB rt 43 s.done s.done.length ++ lineB rt 42 s.got s.got.length
theorem lineV_len (h : IsRt rt) : ∀ vs : List Int, (lineV rt vs).length ≤ 4 * vs.length
  | [] => Nat.le_refl _
  | v :: vs => by
    have h1 := rt_len h (v + 2000)
    have h2 := lineV_len h vs
    unfold lineV at h2 ⊢
    rw [List.flatMap_cons, List.length_append, List.length_cons]
    omega
theorem lineV_take {vs : List Int} {k : Nat} (hk : k < vs.length) : lineV rt (vs.take (k + 1)) = lineV rt (vs.take k) ++ rt (vs[k] + 2000) := by
  unfold lineV
  rw [← List.take_append_getElem hk, List.flatMap_append]
  simp
theorem lineB_len (h : IsRt rt) (p : UInt8) (bs : List Bool) : ∀ k, (lineB rt p bs k).length ≤ 5 * k
  | 0 => Nat.le_refl _
  | k + 1 => by
    have h1 := rt_len h (97 + (k : Int))
    have h2 := lineB_len h p bs k
    unfold lineB
    rw [List.length_append]
    split
    · rw [List.length_cons]; omega
    · rw [List.length_nil]; omega
theorem lineB_yes {p : UInt8} {bs : List Bool} {k : Nat} (hk : k < bs.length) (hb : bs[k] = true) : lineB rt p bs (k + 1) = lineB rt p bs k ++ [p] ++ rt (97 + (k : Int)) := by
  have : bs.getD k false = true := by rw [List.getD_eq_getElem?_getD, List.getElem?_eq_getElem hk, Option.getD_some, hb]
  rw [lineB, if_pos this]
  simp
theorem lineB_no {p : UInt8} {bs : List Bool} {k : Nat} (hk : k < bs.length) (hb : bs[k] = false) : lineB rt p bs (k + 1) = lineB rt p bs k := by
  have : ¬ bs.getD k false = true := by rw [List.getD_eq_getElem?_getD, List.getElem?_eq_getElem hk, Option.getD_some, hb]; decide
  rw [lineB, if_neg this, List.append_nil]
end
/-- What is so of a case that a shard has. -/
structure Tame1 (x : List UInt8) (u : Sa) : Prop where
  name : x.length ≤ 12
  type : u.type.length ≤ 12
  na : u.vals.length ≤ 6
  nd : u.done.length ≤ 6
  ng : u.got.length ≤ 6
  within : ∀ k (h : k < u.vals.length), -1000 ≤ u.vals[k] ∧ u.vals[k] ≤ 1000
theorem tame1 {s : Sh} (ok : Sok s) {x : List UInt8} (hx : look s.cs x ≠ none) : Tame1 x (caseP s x) := by
  obtain ⟨t, ht⟩ := Option.ne_none_iff_exists'.1 hx
  obtain ⟨ty, g, f⟩ := case_fit ok ht
  have hn := ok.cases.names _ (look_mem ht)
  have e : caseP s x = t := by unfold caseP; rw [ht]; rfl
  rw [e]
  have h1 := g.na; have h2 := g.ns; have h3 := g.nm; have h4 := f.sz.vals; have h5 := f.sz.done; have h6 := f.sz.got
  refine ⟨isName_len hn, by rw [f.type]; exact g.name, by omega, by omega, by omega, fun k hk => ?_⟩
  have hw := f.within k (by omega)
  have hr := g.ranges (ty.attrs.getD k At.nil) (by rw [List.getD_eq_getElem?_getD, List.getElem?_eq_getElem (by omega)]; exact List.getElem_mem _)
  unfold wthn at hw
  rw [List.getD_eq_getElem?_getD (l := t.vals), List.getElem?_eq_getElem hk, Option.getD_some] at hw
  simp only [Bool.and_eq_true, decide_eq_true_eq] at hw
  omega

end Go.Proofs.YtenejaghgehnoaaGreatDoor

namespace Go.Proofs.YtenejaghgehnoaaGreatDoor
open Go.RowKit Go.Maps

/-- What shots answers. -/
def Shots (rt : Int → List UInt8) (w w' : World) (n : Nat) (s : Sh) (e : Ending) : Prop :=
  ∃ v us, e = .returned v ∧ Rises us ∧ (∀ x, x ∈ us ↔ look s.cs x ≠ none) ∧ us.length ≤ n ∧ Txs w' w.heap.size v (us.map (fun x => shotP rt x (caseP s x))) ∧ Kept (fun _ => True) w w'
/-- While values are written. -/
def LnV (rt : Int → List UInt8) (pre : List UInt8) (vs : List Int) (w9 : World) (t8 tk : Value) (wz : World) : Prop :=
  ∃ (k : Nat) (L : List UInt8), k ≤ vs.length ∧ tk = .int .i64 k ∧ t8 = .string ⟨L.toArray⟩ ∧ L = pre ++ lineV rt (vs.take k) ∧ w9 = wz
/-- While truths are written. -/
def LnB (rt : Int → List UInt8) (pre : List UInt8) (p : UInt8) (bs : List Bool) (w9 : World) (t8 tk : Value) (wz : World) : Prop :=
  ∃ (k : Nat) (L : List UInt8), k ≤ bs.length ∧ tk = .int .i64 k ∧ t8 = .string ⟨L.toArray⟩ ∧ L = pre ++ lineB rt p bs k ∧ w9 = wz

set_option maxRecDepth 100000 in
set_option maxHeartbeats 8000000 in
theorem shots_any {rt : Int → List UInt8} (hrt : IsRt rt) {w0 w : World} {S n : Nat} {s : Sh} (m : Shd w0 w S n s) (hn : n ≤ 1000000) :
    Calls Tryz.prog 35 #[.pointer (some ⟨S, 0, none⟩)] w fun e w' => Shots rt w w' n s e := by
  obtain ⟨a, tv, h, rfl, m, _, _, h3, _⟩ := m
  have HM : Hid (Sm w a n tv h s) := m
  have HOK : Hid (Sok s) := h3.all.ok
  have HRT : Hid (IsRt rt) := hrt
  have cn := names_of m hn
  clear m h3 hrt
  obtain ⟨S, hS⟩ : ∃ S, S = a.S := ⟨_, rfl⟩
  rw [← hS] at cn ⊢
  have HS : Hid (S = a.S) := hS
  clear hS
  go_enter Tryz.func35, Tryz.ntmps35
  go_upto_region 3 with (go_at_call 56; refine Calls.mono cn ?_; rintro e w1 ⟨v, us, rfl, q1, q2, q3, q4, q5⟩; obtain ⟨no, nc, rfl, hnl, hng⟩ := q4.shape; have HR : Hid (Rises us) := q1; have HI : Hid (∀ x, x ∈ us ↔ look s.cs x ≠ none) := q2; have HU : Hid (us.length ≤ n) := q3; have HN : Hid (Txs w1 w.heap.size (.slice no us.length nc) us) := q4; have HK1 : Hid (Kept (fun _ => True) w w1) := q5; have HG : Hid (0 < us.length → ∃ g, no = some ⟨g, 0, none⟩) := hng; clear cn q1 q2 q3 q4 q5 hnl hng)
  have hus : us.length ≤ 1000000 := by have := HU.out; omega
  go_wp2_with fail
  go_loopw [3, 5] (fun tl ti wr => ∃ (i : Nat), i ≤ us.length ∧ ti = .int .i64 i ∧ Txs wr w1.heap.size tl ((us.take i).map (fun x => shotP rt x (caseP s x))) ∧ Kept (fun _ => True) w1 wr) (fun _ ti _ => us.length - (intOf ti).toNat)
  case atStart => exact ⟨0, Nat.zero_le _, rfl, Txs.nil _ _, Kept.refl _ _⟩
  case round =>
    obtain ⟨i, hi, rfl, htx, hk⟩ := hrel
    obtain ⟨lo, lc, rfl, _, _⟩ := htx.shape
    have hml : ((us.take i).map (fun x => shotP rt x (caseP s x))).length = i := by rw [List.length_map, List.length_take]; omega
    rw [hml] at htx ⊢
    have HT : Hid (Txs wr w1.heap.size (.slice lo i lc) ((us.take i).map (fun x => shotP rt x (caseP s x)))) := htx
    have HK : Hid (Kept (fun _ => True) w1 wr) := hk
    have HML : Hid _ := hml
    clear htx hk hml
    by_cases hlt : i < us.length
    · have i1 : (i : Int) < (us.length : Int) := by omega
      have i0 : (0 : Int) ≤ (i : Int) := by omega
      obtain ⟨g, rfl⟩ := HG.out (by omega)
      have hc1 := HN.out.cell i hlt
      have hg := (World.ownsRow.lt HN.out g rfl).2
      have c0 := (kept_cell HK.out hg trivial).trans hc1
      have hx := (HI.out us[i]).1 (List.getElem_mem hlt)
      have hw0 : (us.take (i + 1)).map (fun x => shotP rt x (caseP s x)) = (us.take i).map (fun x => shotP rt x (caseP s x)) ++ [shotP rt us[i] (caseP s us[i])] := map_take_succ _ _ _ hlt
      have HW : Hid _ := hw0
      have H1 : Hid (Tame1 us[i] (caseP s us[i])) := tame1 HOK.out hx
      have HF : Hid (Few (caseP s us[i])) := case_few HOK.out _
      have cc := case_any (HM.out.all (HK1.out.trans HK.out)) HOK.out (x := us[i]) (by have := H1.out.name; omega)
      rw [← HS.out] at cc
      have HC1 : Hid (w1.cell? ⟨g, i, none⟩ = _) := hc1
      have HGl : Hid (g < w1.heap.size) := hg
      clear hw0 hc1 hx hg
      generalize us[i] = x at *
      generalize caseP s x = u at *
      generalize (look s.cs x).isSome = isq at *
      go_upto_region 7 with (go_at_call 26; refine Calls.mono cc ?_; rintro e v5 ⟨va, vd, vg, rfl, hso, k5⟩; obtain ⟨vo, vc, eo, ec, go, gc, rfl, rfl, rfl⟩ := hso.shapes; have HSo : Hid (So v5 wr.heap.size (.slice vo u.vals.length vc) (.slice eo u.done.length ec) (.slice go u.got.length gc) u) := hso; have HK5 : Hid (Kept (fun _ => True) wr v5) := k5; clear cc hso k5)
      clear c0
      have HB : Hid _ := heap_alloc_new v5 (.cells #[.string ⟨u.type.toArray⟩, .slice vo u.vals.length vc, .slice eo u.done.length ec, .slice go u.got.length gc] 70)
      have ka := (Kept.refl (fun _ => True) v5).alloc (.cells #[.string ⟨u.type.toArray⟩, .slice vo u.vals.length vc, .slice eo u.done.length ec, .slice go u.got.length gc] 70)
      have HK8 : Hid (Kept (fun _ => True) wr (v5.alloc (.cells #[.string ⟨u.type.toArray⟩, .slice vo u.vals.length vc, .slice eo u.done.length ec, .slice go u.got.length gc] 70))) := HK5.out.trans ka
      obtain ⟨w1v, w2v, w3v⟩ := (HSo.out.all ka).view HF.out
      have HV1 : Hid (Cv _ (.slice vo u.vals.length vc) (iv u.vals)) := w1v
      have HV2 : Hid (Cv _ (.slice eo u.done.length ec) (bv u.done)) := w2v
      have HV3 : Hid (Cv _ (.slice go u.got.length gc) (bv u.got)) := w3v
      clear ka HK5 HSo w1v w2v w3v
      generalize v5.alloc (.cells #[.string ⟨u.type.toArray⟩, .slice vo u.vals.length vc, .slice eo u.done.length ec, .slice go u.got.length gc] 70) = w8 at *
      generalize v5.heap.size = V at *
      obtain ⟨⟨y0, y1, y2, y3⟩, _⟩ := four_cell HB.out
      have c0 := (kept_cell (HK.out.trans HK8.out) HGl.out trivial).trans HC1.out
      have hl1 := H1.out.name
      have hl2 := H1.out.type
      have hna := H1.out.na
      have hnd := H1.out.nd
      have hngt := H1.out.ng
      obtain ⟨l1, e1, j1⟩ := text_joins x [32] (by simp only [List.length_cons, List.length_nil]; omega)
      have hll : l1.length ≤ 13 := by rw [e1.out, List.length_append, List.length_cons, List.length_nil]; omega
      obtain ⟨l2, e2, j2⟩ := text_joins l1 u.type (by omega)
      have hl3 : l2.length ≤ 25 := by rw [e2.out, List.length_append]; omega
      have HE2 : Hid (l2 = lineT x u) := by
        show l2 = lineT x u
        rw [e2.out, e1.out]
        rfl
      clear e1 e2 hll
      go_quiet (fail)
      have HK9 : Hid (Kept (fun _ => True) w8 (w8.drewN nq)) := (Kept.refl _ _).drewN _
      clear c0 j1 j2 y0 y1 y2 y3
      generalize w8.drewN nq = w9 at *
      have hb9 := (HK9.out.block _ (lt_of_block HB.out) trivial).trans HB.out
      obtain ⟨⟨y0, y1, y2, y3⟩, _⟩ := four_cell hb9
      have HV1' : Hid (Cv _ (.slice vo u.vals.length vc) (iv u.vals)) := HV1.out.all HK9.out
      have HV2' : Hid (Cv _ (.slice eo u.done.length ec) (bv u.done)) := HV2.out.all HK9.out
      have HV3' : Hid (Cv _ (.slice go u.got.length gc) (bv u.got)) := HV3.out.all HK9.out
      clear HB HV1 HV2 HV3 hb9
      go_wp2_with fail
      go_loopw [8, 9] (fun t8 tk wz => LnV rt l2 u.vals w9 t8 tk wz) (fun _ tk _ => u.vals.length - (intOf tk).toNat)
      case atStart => exact ⟨0, l2, Nat.zero_le _, rfl, rfl, by simp [lineV], rfl⟩
      case round =>
        obtain ⟨k, Lk, hkk, rfl, rfl, hLk, rfl⟩ := hrel
        have HLk : Hid (Lk = _) := hLk
        have hzk : Lk.length ≤ l2.length + 30 := by
          rw [hLk, List.length_append]
          have := lineV_len HRT.out (u.vals.take k)
          rw [List.length_take] at this
          omega
        clear hLk
        by_cases hltk : k < u.vals.length
        · have k1 : (k : Int) < (u.vals.length : Int) := by omega
          have k0 : (0 : Int) ≤ (k : Int) := by omega
          obtain ⟨b, off, rfl, hb, c1⟩ := HV1'.out.intAt k hltk
          have hv := H1.out.within k hltk
          have HN1 : Hid _ := lineV_take (rt := rt) hltk
          clear hb
          generalize u.vals[k] = z at *
          have cv := conv_rt HRT.out (z + 2000)
          have hz4 := rt_len HRT.out (z + 2000)
          obtain ⟨y, ey, j1⟩ := text_joins Lk (rt (z + 2000)) (by omega)
          go_wp2_with fail
          go_roundw
          case rel =>
            refine ⟨k + 1, y, by omega, by go_num, rfl, ?_, rfl⟩
            rw [ey.out, HLk.out, HN1.out, List.append_assoc]
          case measure => simp [intOf]; omega
        · obtain rfl : k = u.vals.length := by omega
          have k1 : ¬ ((u.vals.length : Int) < (u.vals.length : Int)) := by omega
          have hLa : Lk = l2 ++ lineV rt u.vals := by have := HLk.out; rw [List.take_length] at this; exact this
          have hza : Lk.length ≤ 55 := by have := hzk; omega
          have HLa : Hid (Lk = l2 ++ lineV rt u.vals) := hLa
          clear hLa HLk
          go_wp2_with fail
          go_loopw [8, 10] (fun t8 tk wz => LnB rt Lk 43 u.done w9 t8 tk wz) (fun _ tk _ => u.done.length - (intOf tk).toNat)
          case atStart => exact ⟨0, Lk, Nat.zero_le _, rfl, rfl, by simp [lineB], rfl⟩
          case round =>
            obtain ⟨q, Lq, hkq, rfl, rfl, hLq, rfl⟩ := hrel
            have HLq : Hid (Lq = _) := hLq
            have hzq : Lq.length ≤ Lk.length + 30 := by
              rw [hLq, List.length_append]
              have := lineB_len HRT.out 43 u.done q
              omega
            clear hLq
            by_cases hltq : q < u.done.length
            · have k1 : (q : Int) < (u.done.length : Int) := by omega
              have k0 : (0 : Int) ≤ (q : Int) := by omega
              obtain ⟨b, off, rfl, hb, c1⟩ := HV2'.out.boolAt q hltq
              cases hq : u.done[q] with
              | true =>
                rw [hq] at c1
                have HN1 : Hid _ := lineB_yes (rt := rt) (p := 43) hltq hq
                have cv := conv_rt HRT.out (97 + (q : Int))
                have hz4 := rt_len HRT.out (97 + (q : Int))
                obtain ⟨y, ey, j1⟩ := text_joins Lq [43] (by simp only [List.length_cons, List.length_nil]; omega)
                have hy : y.length ≤ Lq.length + 1 := by rw [ey.out, List.length_append, List.length_cons, List.length_nil]; omega
                obtain ⟨y', ey', j2⟩ := text_joins y (rt (97 + (q : Int))) (by omega)
                clear hb hq
                go_wp2_with fail
                go_roundw
                case rel =>
                  refine ⟨q + 1, y', by omega, by go_num, rfl, ?_, rfl⟩
                  rw [ey'.out, ey.out, HLq.out, HN1.out]
                  simp only [List.append_assoc]
                case measure => simp [intOf]; omega
              | false =>
                rw [hq] at c1
                have HN1 : Hid _ := lineB_no (rt := rt) (p := 43) hltq hq
                clear hb hq
                go_wp2_with fail
                go_roundw
                case rel =>
                  refine ⟨q + 1, Lq, by omega, by go_num, rfl, ?_, rfl⟩
                  rw [HLq.out, HN1.out]
                case measure => simp [intOf]; omega
            · obtain rfl : q = u.done.length := by omega
              have k1 : ¬ ((u.done.length : Int) < (u.done.length : Int)) := by omega
              go_wp2_with fail
              go_loopw [8, 11] (fun t8 tk wz => LnB rt Lq 42 u.got w9 t8 tk wz) (fun _ tk _ => u.got.length - (intOf tk).toNat)
              case atStart => exact ⟨0, Lq, Nat.zero_le _, rfl, rfl, by simp [lineB], rfl⟩
              case round =>
                obtain ⟨r, Lr, hkr, rfl, rfl, hLr, rfl⟩ := hrel
                have HLr : Hid (Lr = _) := hLr
                have hzr : Lr.length ≤ Lq.length + 30 := by
                  rw [hLr, List.length_append]
                  have := lineB_len HRT.out 42 u.got r
                  omega
                clear hLr
                by_cases hltr : r < u.got.length
                · have k1 : (r : Int) < (u.got.length : Int) := by omega
                  have k0 : (0 : Int) ≤ (r : Int) := by omega
                  obtain ⟨b, off, rfl, hb, c1⟩ := HV3'.out.boolAt r hltr
                  cases hq : u.got[r] with
                  | true =>
                    rw [hq] at c1
                    have HN1 : Hid _ := lineB_yes (rt := rt) (p := 42) hltr hq
                    have cv := conv_rt HRT.out (97 + (r : Int))
                    have hz4 := rt_len HRT.out (97 + (r : Int))
                    obtain ⟨y, ey, j1⟩ := text_joins Lr [42] (by simp only [List.length_cons, List.length_nil]; omega)
                    have hy : y.length ≤ Lr.length + 1 := by rw [ey.out, List.length_append, List.length_cons, List.length_nil]; omega
                    obtain ⟨y', ey', j2⟩ := text_joins y (rt (97 + (r : Int))) (by omega)
                    clear hb hq
                    go_wp2_with fail
                    go_roundw
                    case rel =>
                      refine ⟨r + 1, y', by omega, by go_num, rfl, ?_, rfl⟩
                      rw [ey'.out, ey.out, HLr.out, HN1.out]
                      simp only [List.append_assoc]
                    case measure => simp [intOf]; omega
                  | false =>
                    rw [hq] at c1
                    have HN1 : Hid _ := lineB_no (rt := rt) (p := 42) hltr hq
                    clear hb hq
                    go_wp2_with fail
                    go_roundw
                    case rel =>
                      refine ⟨r + 1, Lr, by omega, by go_num, rfl, ?_, rfl⟩
                      rw [HLr.out, HN1.out]
                    case measure => simp [intOf]; omega
                · obtain rfl : r = u.got.length := by omega
                  have k1 : ¬ ((u.got.length : Int) < (u.got.length : Int)) := by omega
                  have hs0 : Lr = shotP rt x u := by
                    rw [HLr.out, HLq.out, HLa.out, HE2.out]
                    rfl
                  have HSh : Hid _ := hs0
                  have ka := (HK8.out.trans HK9.out).alloc (.cells #[.string ⟨Lr.toArray⟩] 9)
                  have HT9 : Hid (Txs _ w1.heap.size (.slice lo i lc) ((us.take i).map (fun x => shotP rt x (caseP s x)))) := HT.out.kept ka (fun _ _ => trivial)
                  have HGn : Hid _ := heap_alloc_new w9 (.cells #[.string ⟨Lr.toArray⟩] 9)
                  have HKa : Hid _ := HK.out.trans ka
                  clear ka hs0
                  go_wp2_with (at_builtin; refine wpList_append_text rfl (.tmp 92) (.tmp 94) rfl w1.heap.size (.slice lo i lc) ((us.take i).map (fun x => shotP rt x (caseP s x))) rfl HT9.out HKa.out.size w9.heap.size rfl Lr (0, 0) HGn.out (by rw [HML.out]; omega) ?_; intro ao1 cap1 w10 t1 g1 at1; have HO1 : Hid (Txs w10 w1.heap.size (.slice ao1 (((us.take i).map (fun x => shotP rt x (caseP s x))).length + 1) cap1) ((us.take i).map (fun x => shotP rt x (caseP s x)) ++ [Lr])) := t1; have HKb : Hid (Kept (fun _ => True) w1 w10) := HKa.out.grown g1 (fun k hk e => by have := (World.ownsRow.lt HT.out k e).1; omega); clear t1 g1 at1)
                  go_roundw
                  case rel =>
                    refine ⟨i + 1, by omega, by go_num, ?_, HKb.out⟩
                    rw [HW.out, ← HSh.out]
                    have h9 := HO1.out
                    rw [HML.out] at h9
                    exact h9
                  case measure => simp [intOf]; omega
    · obtain rfl : i = us.length := by omega
      have i1 : ¬ ((us.length : Int) < (us.length : Int)) := by omega
      go_wp2_with fail
      go_ret
      have h9 := HT.out
      rw [List.take_length] at h9
      exact ⟨_, us, rfl, HR.out, HI.out, HU.out, ownsRow_low h9 HK1.out.size, HK1.out.trans HK.out⟩

end Go.Proofs.YtenejaghgehnoaaGreatDoor

namespace Go.Proofs.YtenejaghgehnoaaGreatDoor
open Go.RowKit Go.Maps

/-- What Do leaves, with a letter for its kind. -/
def DoX (w0 w w' : World) (S n : Nat) (kd : Nat) (s : Sh) (e : Ending) : Prop :=
  ∃ k o m c x y, k = kd ∧ e = .returned (.agg #[.int .i64 (k : Nat), .slice o m c, .int .i64 x, .int .i64 y, .slice none 0 0]) ∧ Shd w0 w' S n s ∧ Oth w w' ∧ Kept (fun k => k < w0.heap.size) w w'
theorem DoT.ex {w0 w w' : World} {S n base : Nat} {r : An × Sh} {e : Ending} (h : DoT w0 w w' S n r base e) : DoX w0 w w' S n r.1.kind r.2 e := by
  obtain ⟨txv, rfl, ht, rest⟩ := h
  obtain ⟨o, c, rfl, _, _⟩ := ht.shape
  exact ⟨_, o, _, c, _, _, rfl, rfl, rest⟩
theorem lk_q3 (b : Bool) (k : Nat) (hk : k < 5) {x : Nat} (hx : x = (lkQ b k).1.kind) : (((x : Int) == 3) == lkFree b k) = false := by
  have h := (lk_facts b k hk false).2.1
  rw [← hx] at h
  cases hf : lkFree b k with
  | false =>
    have : x = 3 := h.2 hf
    subst this
    rfl
  | true =>
    have : ¬ x = 3 := fun e => by rw [hf] at h; cases h.1 e
    have h3 : ¬ (x : Int) = 3 := by omega
    simp [h3]
theorem lk_asks (k : Nat) (hk : k < lkAsks.length) : lkAsks[k] = lkAsk k := by
  unfold lkAsk
  rw [List.getD_eq_getElem?_getD, List.getElem?_eq_getElem hk]
  rfl
theorem lk_cas (k : Nat) (hk : k < lkAsks.length) : (lkAsks[k]).cas.length ≤ 1000 := by
  have h5 : k < 5 := hk
  match k, h5 with
  | 0, _ | 1, _ | 2, _ | 3, _ | 4, _ => simp [lkAsks]
theorem lk_kind (k : Nat) (hk : k < lkAsks.length) : (lkAsks[k]).kind = (lkAsk k).kind := by rw [lk_asks]

end Go.Proofs.YtenejaghgehnoaaGreatDoor

namespace Go.Proofs.YtenejaghgehnoaaGreatDoor
open Go.ChangeShapes Go.WideShapes Go.ChangeAt Go.RowKit

theorem own : ownKnob Tryz.prog.godebug = none := by kernel_rfl
theorem laidOut : laidOutB Tryz.prog = true := by kernel_rfl
end Go.Proofs.YtenejaghgehnoaaGreatDoor

namespace Go.Proofs.YtenejaghgehnoaaGreatDoor
open Go.RowKit Go.Deep Go.Joins Go.WideShapes Go.ChangeShapes Go.ChangeAt

theorem four_of {α : Type} {l : List α} (h : l.length = 4) : ∃ a b c d, l = [a, b, c, d] := by
  match l, h with
  | [a, b, c, d], _ => exact ⟨a, b, c, d, rfl⟩
/-- A struct of four. -/
theorem trod_struct4 {H : Type} {enc : TypeId × Value → H} {W : World} {t : TypeId} {f0 f1 f2 f3 : Field} {fuel : Nat} {cs : List Value} {x : DataW H × List MemPlace} (ht : Tryz.prog.underlying t = some (.struct #[f0, f1, f2, f3])) (h : DataW.trod enc Tryz.prog W 0 (fun _ => true) true fuel t cs = some x) :
    ∃ y0 y1 y2 y3 n, x.1 = .agg [y0.1, y1.1, y2.1, y3.1] ∧ DataW.trod enc Tryz.prog W 0 (fun _ => true) true n f0.type ((cs.drop f0.offset).take (Tryz.prog.cellsOf f0.type)) = some y0 ∧
      DataW.trod enc Tryz.prog W 0 (fun _ => true) true n f1.type ((cs.drop f1.offset).take (Tryz.prog.cellsOf f1.type)) = some y1 ∧ DataW.trod enc Tryz.prog W 0 (fun _ => true) true n f2.type ((cs.drop f2.offset).take (Tryz.prog.cellsOf f2.type)) = some y2 ∧
      DataW.trod enc Tryz.prog W 0 (fun _ => true) true n f3.type ((cs.drop f3.offset).take (Tryz.prog.cellsOf f3.type)) = some y3 := by
  obtain ⟨xs, n, _, rfl, hl, hlen, hf⟩ := DataW.trod_struct ht h
  match xs, hlen with
  | [y0, y1, y2, y3], _ => exact ⟨y0, y1, y2, y3, n, by simp, by simpa using hf 0 f0 rfl, by simpa using hf 1 f1 rfl, by simpa using hf 2 f2 rfl, by simpa using hf 3 f3 rfl⟩
end Go.Proofs.YtenejaghgehnoaaGreatDoor

namespace Go.Proofs.YtenejaghgehnoaaGreatDoor
open Go.RowKit Go.Deep Go.Joins Go.WideShapes Go.ChangeShapes Go.ChangeAt

/-- What the rows list. -/
def listed : List (String × DataW Unit) := [("math/bits.deBruijn32tab", Rows.laid_math_bits_deBruijn32tab), ("math/bits.deBruijn64tab", Rows.laid_math_bits_deBruijn64tab), ("internal/strconv.uint64pow10", Rows.laid_internal_strconv_uint64pow10)]
theorem listed_tab {W : World} (h : laidMetH Tryz.prog listed W) : Tab W := by
  rw [MakeChecks.laidMetH_plain _ _ _ (by kernel_rfl)] at h
  have h3 : laidMet Tryz.prog (("internal/strconv.uint64pow10", Lib.tabData .u64 Lib.pow10Tab) :: []) W := h.tail.tail
  exact Lib.tabIs_of_head (g := 0) (t := 322) (e := 202) (n := 20) (by kernel_rfl) (by kernel_rfl) Tryz.underlying322 Tryz.underlying202 (by kernel_rfl) (by kernel_rfl) h3
theorem witness_met (os : Os) (args : Array Value) : laidMetH Tryz.prog listed ((World.laidAll Tryz.prog os listed).forCall (fun _ _ => 0) ⟨#[], args, []⟩).memory := by
  rw [MakeChecks.laidMetH_plain _ _ _ (by kernel_rfl)]
  exact laidMet_laidAll _ (by kernel_rfl) (by kernel_rfl)

end Go.Proofs.YtenejaghgehnoaaGreatDoor

namespace Go.Proofs.YtenejaghgehnoaaGreatDoor
open Go.RowKit Go.Deep Go.Joins Go.WideShapes Go.ChangeShapes Go.ChangeAt

theorem Tryz.cellsOpq : Tryz.prog.cellsOf 61 = 4 := by kernel_rfl
theorem Tryz.cellsCmd : Tryz.prog.cellsOf 40 = 7 := by kernel_rfl
theorem cell_lt {w : World} {b i : Nat} {v : Value} (h : w.cell? ⟨b, i, none⟩ = some v) : b < w.heap.size := by
  refine Classical.byContradiction fun hb => ?_
  have e : w.heap[b]? = none := Array.getElem?_eq_none (by omega)
  simp [World.cell?, e] at h
theorem seven_of {α : Type} {l : List α} (h : l.length = 7) : ∃ a b c d e f g, l = [a, b, c, d, e, f, g] := by
  match l, h with
  | [a, b, c, d, e, f, g], _ => exact ⟨a, b, c, d, e, f, g, rfl⟩
/-- A struct of seven. -/
theorem trod_seven {H : Type} {enc : TypeId × Value → H} {W : World} {t : TypeId} {f0 f1 f2 f3 f4 f5 f6 : Field} {fuel : Nat} {cs : List Value} {x : DataW H × List MemPlace} (ht : Tryz.prog.underlying t = some (.struct #[f0, f1, f2, f3, f4, f5, f6])) (h : DataW.trod enc Tryz.prog W 0 (fun _ => true) true fuel t cs = some x) :
    ∃ y0 y1 y2 y3 y4 y5 y6 n, DataW.trod enc Tryz.prog W 0 (fun _ => true) true n f0.type ((cs.drop f0.offset).take (Tryz.prog.cellsOf f0.type)) = some y0 ∧ DataW.trod enc Tryz.prog W 0 (fun _ => true) true n f1.type ((cs.drop f1.offset).take (Tryz.prog.cellsOf f1.type)) = some y1 ∧
      DataW.trod enc Tryz.prog W 0 (fun _ => true) true n f2.type ((cs.drop f2.offset).take (Tryz.prog.cellsOf f2.type)) = some y2 ∧ DataW.trod enc Tryz.prog W 0 (fun _ => true) true n f3.type ((cs.drop f3.offset).take (Tryz.prog.cellsOf f3.type)) = some y3 ∧
      DataW.trod enc Tryz.prog W 0 (fun _ => true) true n f4.type ((cs.drop f4.offset).take (Tryz.prog.cellsOf f4.type)) = some y4 ∧ DataW.trod enc Tryz.prog W 0 (fun _ => true) true n f5.type ((cs.drop f5.offset).take (Tryz.prog.cellsOf f5.type)) = some y5 ∧
      DataW.trod enc Tryz.prog W 0 (fun _ => true) true n f6.type ((cs.drop f6.offset).take (Tryz.prog.cellsOf f6.type)) = some y6 := by
  obtain ⟨xs, n, _, rfl, hl, hlen, hf⟩ := DataW.trod_struct ht h
  match xs, hlen with
  | [y0, y1, y2, y3, y4, y5, y6], _ => exact ⟨y0, y1, y2, y3, y4, y5, y6, n, by simpa using hf 0 f0 rfl, by simpa using hf 1 f1 rfl, by simpa using hf 2 f2 rfl, by simpa using hf 3 f3 rfl, by simpa using hf 4 f4 rfl, by simpa using hf 5 f5 rfl, by simpa using hf 6 f6 rfl⟩
/-- A slice is a slice. -/
theorem open_row {H : Type} {enc : TypeId × Value → H} {W : World} {t e : TypeId} {v : Value} {fuel : Nat} {z : DataW H × List MemPlace} (hu : Tryz.prog.underlying t = some (.slice e)) (h : DataW.trod enc Tryz.prog W 0 (fun _ => true) true fuel t [v] = some z) : ∃ o k l, v = .slice o k l := by
  rcases open_slice hu h with ⟨hcs, _⟩ | ⟨x, len, cap, m, n, D, Pl, hcs, _⟩
  · simp only [List.cons.injEq, and_true] at hcs
    exact ⟨_, _, _, hcs⟩
  · simp only [List.cons.injEq, and_true] at hcs
    exact ⟨_, _, _, hcs⟩

set_option maxRecDepth 100000 in
theorem open_opsw {H : Type} {enc : TypeId × Value → H} {W : World} {v : Value} {fuel : Nat} {z : DataW H × List MemPlace} (h : DataW.trod enc Tryz.prog W 0 (fun _ => true) true fuel 37 [v] = some z) :
    ∃ l : List Oq, Ow W v l ∧ ∀ o ∈ l, o.name.length ≤ 9223372036854775807 := by
  rcases open_slice Tryz.underlying37 h with ⟨hcs, hx⟩ | ⟨x, len, cap, m, n, D, Pl, hcs, _, hl, hm, hmm, hx, hel⟩
  · simp only [List.cons.injEq, and_true] at hcs
    subst hcs
    exact ⟨[], ⟨none, 0, rfl, fun h => by simp at h⟩, by simp⟩
  · simp only [List.cons.injEq, and_true] at hcs
    subst hcs
    simp only [if_true] at hmm
    subst hmm
    rw [Tryz.cellsOpq] at hel
    have key : ∀ i, i < len → ∃ o : Oq, W.cell? (x.add (i * 4 + 0)) = some (.int .i64 o.kind) ∧ W.cell? (x.add (i * 4 + 1)) = some (.string ⟨o.cas.toArray⟩) ∧ W.cell? (x.add (i * 4 + 2)) = some (.string ⟨o.name.toArray⟩) ∧ W.cell? (x.add (i * 4 + 3)) = some (.int .i64 o.n) ∧ o.name.length ≤ 9223372036854775807 := by
      intro i hi
      obtain ⟨cs', h1, h2⟩ := hel i (by omega)
      obtain ⟨y0, y1, y2, y3, k, _, g0, g1, g2, g3⟩ := trod_struct4 Tryz.underlying61 h2
      obtain ⟨_, hl5, hc5⟩ := World.cells?_some h1
      obtain ⟨v0, v1, v2, v3, rfl⟩ := four_of hl5
      have e0 : DataW.trod enc Tryz.prog W 0 (fun _ => true) true k 3 [v0] = some y0 := g0
      have e1 : DataW.trod enc Tryz.prog W 0 (fun _ => true) true k 9 [v1] = some y1 := g1
      have e2 : DataW.trod enc Tryz.prog W 0 (fun _ => true) true k 9 [v2] = some y2 := g2
      have e3 : DataW.trod enc Tryz.prog W 0 (fun _ => true) true k 3 [v3] = some y3 := g3
      obtain ⟨z0, q0, rfl, _⟩ := DataW.trod_int Tryz.underlying3 e0
      obtain ⟨⟨⟨s1⟩⟩, q1, rfl, hs1⟩ := DataW.trod_string Tryz.underlying9 e1
      obtain ⟨⟨⟨s2⟩⟩, q2, rfl, hs2⟩ := DataW.trod_string Tryz.underlying9 e2
      obtain ⟨z3, q3, rfl, _⟩ := DataW.trod_int Tryz.underlying3 e3
      simp only [List.cons.injEq, and_true] at q0 q1 q2 q3
      subst q0 q1 q2 q3
      have c0 := hc5 0 (by omega)
      have c1 := hc5 1 (by omega)
      have c2 := hc5 2 (by omega)
      have c3 := hc5 3 (by omega)
      simp only [add_add] at c0 c1 c2 c3
      exact ⟨⟨z0, s1, s2, z3⟩, c0, c1, c2, c3, hs2⟩
    obtain ⟨f, hf2⟩ : ∃ f : Nat → Oq, ∀ i, i < len → W.cell? (x.add (i * 4 + 0)) = some (.int .i64 (f i).kind) ∧ W.cell? (x.add (i * 4 + 1)) = some (.string ⟨(f i).cas.toArray⟩) ∧ W.cell? (x.add (i * 4 + 2)) = some (.string ⟨(f i).name.toArray⟩) ∧ W.cell? (x.add (i * 4 + 3)) = some (.int .i64 (f i).n) ∧ (f i).name.length ≤ 9223372036854775807 := by
      classical
      refine ⟨fun i => if hi : i < len then Classical.choose (key i hi) else ⟨0, [], [], 0⟩, fun i hi => ?_⟩
      simp only [dif_pos hi]
      exact Classical.choose_spec (key i hi)
    refine ⟨(List.range len).map f, ⟨some x, m, by simp, fun h0 => ?_⟩, fun y hy => ?_⟩
    · rw [List.length_map, List.length_range] at h0
      obtain ⟨b, off, spot⟩ := x
      have hspot : spot = none := by simpa [Addr.add] using World.cell?_spot (hf2 0 h0).1
      subst hspot
      have hb : b < W.heap.size := by
        have := (hf2 0 h0).1
        simp only [add_plain] at this
        exact cell_lt this
      refine ⟨b, off, rfl, hb, fun i hi => ?_⟩
      have hi' : i < len := by simpa using hi
      obtain ⟨a0, a1, a2, a3, _⟩ := hf2 i hi'
      simp only [add_plain] at a0 a1 a2 a3
      simp only [List.getElem_map, List.getElem_range]
      exact ⟨by simpa using a0, by simpa [Nat.add_assoc] using a1, by simpa [Nat.add_assoc] using a2, by simpa [Nat.add_assoc] using a3⟩
    · obtain ⟨i, hi, rfl⟩ := List.mem_map.1 hy
      exact (hf2 i (List.mem_range.1 hi)).2.2.2.2

set_option maxRecDepth 100000 in
/-- The seven values of a command. -/
theorem open_seven {H : Type} {enc : TypeId × Value → H} {W : World} {fuel : Nat} {vs : List Value} {z : DataW H × List MemPlace} (hl : vs.length = 7) (h : DataW.trod enc Tryz.prog W 0 (fun _ => true) true fuel 40 vs = some z) :
    ∃ (c : Cm) (o1 o2 o3 : Option Addr) (n1 c1 n2 c2 n3 c3 : Nat), vs = [.int .i64 c.kind, .string ⟨c.tx.toArray⟩, .slice o1 n1 c1, .slice o2 n2 c2, .int .i64 c.lo, .int .i64 c.hi, .slice o3 n3 c3] ∧ CmIn W c (.slice o1 n1 c1) (.slice o2 n2 c2) (.slice o3 n3 c3) := by
  obtain ⟨v0, v1, v2, v3, v4, v5, v6, rfl⟩ := seven_of hl
  obtain ⟨y0, y1, y2, y3, y4, y5, y6, k, g0, g1, g2, g3, g4, g5, g6⟩ := trod_seven Tryz.underlying40 h
  have e0 : DataW.trod enc Tryz.prog W 0 (fun _ => true) true k 3 [v0] = some y0 := g0
  have e1 : DataW.trod enc Tryz.prog W 0 (fun _ => true) true k 9 [v1] = some y1 := g1
  have e2 : DataW.trod enc Tryz.prog W 0 (fun _ => true) true k 37 [v2] = some y2 := g2
  have e3 : DataW.trod enc Tryz.prog W 0 (fun _ => true) true k 38 [v3] = some y3 := g3
  have e4 : DataW.trod enc Tryz.prog W 0 (fun _ => true) true k 3 [v4] = some y4 := g4
  have e5 : DataW.trod enc Tryz.prog W 0 (fun _ => true) true k 3 [v5] = some y5 := g5
  have e6 : DataW.trod enc Tryz.prog W 0 (fun _ => true) true k 33 [v6] = some y6 := g6
  obtain ⟨z0, q0, rfl, _⟩ := DataW.trod_int Tryz.underlying3 e0
  obtain ⟨⟨⟨s1⟩⟩, q1, rfl, hs1⟩ := DataW.trod_string Tryz.underlying9 e1
  obtain ⟨l, hl2, hn2⟩ := open_opsw e2
  obtain ⟨a3, b3, d3, rfl⟩ := open_row Tryz.underlying38 e3
  obtain ⟨z4, q4, rfl, _⟩ := DataW.trod_int Tryz.underlying3 e4
  obtain ⟨z5, q5, rfl, _⟩ := DataW.trod_int Tryz.underlying3 e5
  obtain ⟨a6, b6, d6, rfl⟩ := open_row Tryz.underlying33 e6
  obtain ⟨a2, d2, rfl⟩ := hl2.form
  simp only [List.cons.injEq, and_true] at q0 q1 q4 q5
  subst q0 q1 q4 q5
  exact ⟨⟨z0, s1, l, [], z4, z5, []⟩, a2, a3, a6, _, _, _, _, _, _, rfl, hl2, ⟨_, _, _, rfl⟩, ⟨_, _, _, rfl⟩, hs1, hn2⟩
set_option maxRecDepth 100000 in
/-- A command by value. -/
theorem open_cmd {H : Type} {enc : TypeId × Value → H} {W : World} {base : Nat} {v : Value} {d : DataW H} {p : List MemPlace} (hv : Value.okWide Tryz.prog W .any base 40 v) (h : DataW.Trod enc Tryz.prog W 0 (fun _ => true) true 40 v d p) :
    ∃ (c : Cm) (o1 o2 o3 : Option Addr) (n1 c1 n2 c2 n3 c3 : Nat), v = .agg #[.int .i64 c.kind, .string ⟨c.tx.toArray⟩, .slice o1 n1 c1, .slice o2 n2 c2, .int .i64 c.lo, .int .i64 c.hi, .slice o3 n3 c3] ∧ CmIn W c (.slice o1 n1 c1) (.slice o2 n2 c2) (.slice o3 n3 c3) := by
  obtain ⟨cs, rfl, hsz⟩ := okWide_struct Tryz.underlying40 hv
  obtain ⟨fuel, hf⟩ := h
  have hf' : DataW.trod enc Tryz.prog W 0 (fun _ => true) true fuel 40 cs.toList = some (d, p) := by simpa [Value.cells] using hf
  obtain ⟨c, o1, o2, o3, n1, c1, n2, c2, n3, c3, e, hc⟩ := open_seven (by rw [Array.length_toList, hsz]; exact Tryz.cellsCmd) hf'
  refine ⟨c, o1, o2, o3, n1, c1, n2, c2, n3, c3, ?_, hc⟩
  rw [← e]
set_option maxRecDepth 100000 in
/-- Commands in a slice. -/
theorem open_cmds {H : Type} {enc : TypeId × Value → H} {W : World} {a : Option Addr} {len cap : Nat} {d : DataW H} {p : List MemPlace} (h : DataW.Trod enc Tryz.prog W 0 (fun _ => true) true 28 (.slice a len cap) d p) : ∃ cs : List Cm, Cms W (.slice a len cap) cs := by
  obtain ⟨fuel, hf⟩ := h
  rcases open_slice Tryz.underlying28 hf with ⟨hcs, hx⟩ | ⟨x, l, c, m, n, D, Pl, hcs, _, hl, hm, hmm, hx, hel⟩
  · simp [Value.cells] at hcs
    obtain ⟨rfl, rfl, rfl⟩ := hcs
    exact ⟨[], none, 0, rfl, fun h => by simp at h⟩
  · simp [Value.cells] at hcs
    obtain ⟨rfl, rfl, rfl⟩ := hcs
    simp only [if_true] at hmm
    subst hmm
    rw [Tryz.cellsCmd] at hel
    have key : ∀ i, i < len → ∃ c : Cm, ∃ (o1 o2 o3 : Option Addr) (n1 c1 n2 c2 n3 c3 : Nat), W.cell? (x.add (i * 7 + 0)) = some (.int .i64 c.kind) ∧ W.cell? (x.add (i * 7 + 1)) = some (.string ⟨c.tx.toArray⟩) ∧ W.cell? (x.add (i * 7 + 2)) = some (.slice o1 n1 c1) ∧ W.cell? (x.add (i * 7 + 3)) = some (.slice o2 n2 c2) ∧ W.cell? (x.add (i * 7 + 4)) = some (.int .i64 c.lo) ∧ W.cell? (x.add (i * 7 + 5)) = some (.int .i64 c.hi) ∧ W.cell? (x.add (i * 7 + 6)) = some (.slice o3 n3 c3) ∧ CmIn W c (.slice o1 n1 c1) (.slice o2 n2 c2) (.slice o3 n3 c3) := by
      intro i hi
      obtain ⟨cs', h1, h2⟩ := hel i (by omega)
      obtain ⟨_, hl5, hc5⟩ := World.cells?_some h1
      obtain ⟨c, o1, o2, o3, n1, c1, n2, c2, n3, c3, rfl, hc⟩ := open_seven hl5 h2
      have q0 := hc5 0 (by omega)
      have q1 := hc5 1 (by omega)
      have q2 := hc5 2 (by omega)
      have q3 := hc5 3 (by omega)
      have q4 := hc5 4 (by omega)
      have q5 := hc5 5 (by omega)
      have q6 := hc5 6 (by omega)
      simp only [add_add] at q0 q1 q2 q3 q4 q5 q6
      exact ⟨c, o1, o2, o3, n1, c1, n2, c2, n3, c3, q0, q1, q2, q3, q4, q5, q6, hc⟩
    obtain ⟨f, hf2⟩ : ∃ f : Nat → Cm, ∀ i, i < len → ∃ (o1 o2 o3 : Option Addr) (n1 c1 n2 c2 n3 c3 : Nat), W.cell? (x.add (i * 7 + 0)) = some (.int .i64 (f i).kind) ∧ W.cell? (x.add (i * 7 + 1)) = some (.string ⟨(f i).tx.toArray⟩) ∧ W.cell? (x.add (i * 7 + 2)) = some (.slice o1 n1 c1) ∧ W.cell? (x.add (i * 7 + 3)) = some (.slice o2 n2 c2) ∧ W.cell? (x.add (i * 7 + 4)) = some (.int .i64 (f i).lo) ∧ W.cell? (x.add (i * 7 + 5)) = some (.int .i64 (f i).hi) ∧ W.cell? (x.add (i * 7 + 6)) = some (.slice o3 n3 c3) ∧ CmIn W (f i) (.slice o1 n1 c1) (.slice o2 n2 c2) (.slice o3 n3 c3) := by
      classical
      refine ⟨fun i => if hi : i < len then Classical.choose (key i hi) else ⟨0, [], [], [], 0, 0, []⟩, fun i hi => ?_⟩
      simp only [dif_pos hi]
      exact Classical.choose_spec (key i hi)
    refine ⟨(List.range len).map f, some x, _, by rw [List.length_map, List.length_range], fun h0 => ?_⟩
    rw [List.length_map, List.length_range] at h0
    obtain ⟨b, off, spot⟩ := x
    obtain ⟨_, _, _, _, _, _, _, _, _, w0, _⟩ := hf2 0 h0
    have hspot : spot = none := by simpa [Addr.add] using World.cell?_spot w0
    subst hspot
    have hb : b < W.heap.size := by
      simp only [add_plain] at w0
      exact cell_lt w0
    refine ⟨b, off, rfl, hb, fun i hi => ?_⟩
    have hi' : i < len := by simpa using hi
    obtain ⟨o1, o2, o3, n1, c1, n2, c2, n3, c3, a0, a1, a2, a3, a4, a5, a6, hc⟩ := hf2 i hi'
    simp only [add_plain] at a0 a1 a2 a3 a4 a5 a6
    simp only [List.getElem_map, List.getElem_range]
    exact ⟨o1, n1, c1, o2, n2, c2, o3, n3, c3, by simpa using a0, by simpa [Nat.add_assoc] using a1, by simpa [Nat.add_assoc] using a2, by simpa [Nat.add_assoc] using a3, by simpa [Nat.add_assoc] using a4, by simpa [Nat.add_assoc] using a5, by simpa [Nat.add_assoc] using a6, hc⟩

end Go.Proofs.YtenejaghgehnoaaGreatDoor
