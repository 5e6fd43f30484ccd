/-
  Texts of the proofs, 15 of 52.
-/
import Derived.Test.YtmcaoimgmgjjiaaRows
import Derived.WalkKit
import Derived.ScopeJumps
import Derived.Test.YtmcaoimgmgjjiaaWN
namespace Go.Proofs.Ytmcaoimgmgjjiaa
open Go.RowKit

def Exit.jumps (J : Nat → Act → World → Prop) (Q : Exit → Act → World → Prop) : Exit → Act → World → Prop
  | .goto l, a, w => J l a w
  | e, a, w => Q e a w
def From (P : Program) (c : Code) (Q : Exit → Act → World → Prop) (l : Nat) (a : Act) (w : World) : Prop := ∃ rest, findLabel c l = some (Code.skip.seq rest) ∧ rest.wp P Q a w
theorem From.use {P : Program} {c rest : Code} {Q : Exit → Act → World → Prop} {l : Nat} {a : Act} {w : World} (h : From P c Q l a w) (hf : findLabel c l = some (Code.skip.seq rest)) : rest.wp P Q a w := by
  obtain ⟨r, hr, hw⟩ := h
  rw [hf] at hr
  cases hr
  exact hw
theorem Exit.jumps_mono {J K : Nat → Act → World → Prop} {Q : Exit → Act → World → Prop} (h : ∀ l a w, J l a w → K l a w) (e : Exit) (a : Act) (w : World) (hq : Exit.jumps J Q e a w) : Exit.jumps K Q e a w := by
  cases e <;> first | exact hq | exact h _ _ _ hq
theorem wp_scope_all {P : Program} {a : Act} {w : World} {Q : Exit → Act → World → Prop} {c : Code} (J : Nat → Nat → Act → World → Prop)
    (pass : ∀ m l a w, J m l a w → (∀ m' l' a' w', m' < m → J m' l' a' w' → From P c (Exit.jumps (fun l'' a'' w'' => ∃ m'', m'' < m ∧ J m'' l'' a'' w'') Q) l' a' w') → From P c (Exit.jumps (fun l' a' w' => ∃ m', m' < m ∧ J m' l' a' w') Q) l a w)
    (first : (∀ m l a w, J m l a w → From P c (Exit.jumps (fun l' a' w' => ∃ m', J m' l' a' w') Q) l a w) → c.wp P (Exit.jumps (fun l' a' w' => ∃ m', J m' l' a' w') Q) a w) : (Code.scope c).wp P Q a w := by
  have all : ∀ m l a w, J m l a w → From P c (Exit.jumps (fun l' a' w' => ∃ m', m' < m ∧ J m' l' a' w') Q) l a w := by
    intro m
    induction m using Nat.strongRecOn with
    | _ m ih =>
      intro l a w hJ
      refine pass m l a w hJ fun m' l' a' w' hm hJ' => ?_
      obtain ⟨r, hr, hw⟩ := ih m' hm l' a' w' hJ'
      exact ⟨r, hr, wp_mono hw (Exit.jumps_mono fun _ _ _ ⟨m'', h1, h2⟩ => ⟨m'', by omega, h2⟩)⟩
  intro b k cs
  have key : ∀ m l a w, J m l a w → ∃ rest, findLabel c l = some rest ∧ ∃ e a' w', Q e a' w' ∧ Arrives P (lone (b.at a (.code rest :: .inScope c :: k)) cs w) b k cs e a' w' := by
    intro m
    induction m using Nat.strongRecOn with
    | _ m ih =>
      intro l a w hJ
      obtain ⟨r, hr, hw⟩ := all m l a w hJ
      refine ⟨_, hr, ?_⟩
      obtain ⟨e, a₁, w₁, hq, harr⟩ := (wp_seq (wp_skip hw) : (Code.skip.seq r).wp P _ a w) b (.inScope c :: k) cs
      cases e with
      | normal => exact ⟨.normal, a₁, w₁, hq, Steps.trans harr (.one step_inScope)⟩
      | exit id => exact ⟨.exit id, a₁, w₁, hq, fun k' hk => harr k' (by simp [exitTo, hk])⟩
      | goto l' =>
        obtain ⟨m', hm, hJ'⟩ := hq
        obtain ⟨r', hr', e₂, a₂, w₂, hq₂, harr₂⟩ := ih m' hm l' a₁ w₁ hJ'
        have hg : gotoIn l' (.inScope c :: k) = some (.code r' :: .inScope c :: k) := by simp [gotoIn, hr']
        exact ⟨e₂, a₂, w₂, hq₂, .of_steps (harr _ hg) harr₂⟩
      | ret => exact ⟨_, a₁, w₁, hq, harr⟩
      | panic ch => exact ⟨_, a₁, w₁, hq, harr⟩
      | outgrown => exact ⟨_, a₁, w₁, hq, harr⟩
  have weak : ∀ m l a w, J m l a w → From P c (Exit.jumps (fun l' a' w' => ∃ m', J m' l' a' w') Q) l a w := by
    intro m l a w hJ
    obtain ⟨r, hr, hw⟩ := all m l a w hJ
    exact ⟨r, hr, wp_mono hw (Exit.jumps_mono fun _ _ _ ⟨m'', _, h2⟩ => ⟨m'', h2⟩)⟩
  obtain ⟨e, a₁, w₁, hq, harr⟩ := first weak b (.inScope c :: k) cs
  cases e with
  | normal => exact ⟨.normal, a₁, w₁, hq, .head step_scope (Steps.trans harr (.one step_inScope))⟩
  | exit id => exact ⟨.exit id, a₁, w₁, hq, fun k' hk => .head step_scope (harr k' (by simp [exitTo, hk]))⟩
  | goto l' =>
    obtain ⟨m', hJ'⟩ := hq
    obtain ⟨r', hr', e₂, a₂, w₂, hq₂, harr₂⟩ := key m' l' a₁ w₁ hJ'
    have hg : gotoIn l' (.inScope c :: k) = some (.code r' :: .inScope c :: k) := by simp [gotoIn, hr']
    exact ⟨e₂, a₂, w₂, hq₂, .of_steps (.head step_scope (harr _ hg)) harr₂⟩
  | ret => exact ⟨_, a₁, w₁, hq, .of_steps (.one step_scope) harr⟩
  | panic ch => exact ⟨_, a₁, w₁, hq, .of_steps (.one step_scope) harr⟩
  | outgrown => exact ⟨_, a₁, w₁, hq, .of_steps (.one step_scope) harr⟩

end Go.Proofs.Ytmcaoimgmgjjiaa

namespace Go.Proofs.Ytmcaoimgmgjjiaa
open Go.RowKit

theorem count_len (bs : List UInt8) (s : RS) (m : Int) : (((s.count bs m).1 : Nat) : Int) ≤ max m 0 := by
  unfold RS.count
  split
  · simp; omega
  · omega
theorem text_len (bs : List UInt8) (s : RS) (m : Int) : (((s.text bs m).1.length : Nat) : Int) ≤ max m 0 := by
  have := count_len bs s m
  unfold RS.text
  split
  · simp; omega
  · simp only [List.length_take, List.length_drop]
    omega
theorem left_yes {bs : List UInt8} {s : RS} (h : s.left bs ≠ 0) : s.why = 0 := by
  unfold RS.left leftOf at h
  by_cases hw : s.why = 0
  · exact hw
  · rw [if_neg hw] at h
    exact absurd rfl h

def Fin' (bs : List UInt8) (s : RS) (xs : List Li) : Prop := s = (rdAll bs).2 ∧ (s.why = 0 → xs = (rdAll bs).1)
def Mid (bs : List UInt8) (n : Nat) (s : RS) (xs : List Li) : Prop := (rdN bs n s xs).2 = (rdAll bs).2 ∧ ((rdAll bs).2.why = 0 → (rdN bs n s xs).1 = (rdAll bs).1)
theorem Mid.start (bs : List UInt8) : Mid bs ((⟨0, 0⟩ : RS).count bs 4096).1 ((⟨0, 0⟩ : RS).count bs 4096).2 [] := ⟨rfl, fun _ => rfl⟩
theorem Mid.done {bs : List UInt8} {s : RS} {xs : List Li} (h : Mid bs 0 s xs) : Fin' bs s xs := by
  obtain ⟨h1, h2⟩ := h
  have h1' : s = (rdAll bs).2 := h1
  refine ⟨h1', fun hw => h2 (by rw [← h1']; exact hw)⟩
theorem num4_end (bs : List UInt8) : (⟨bs.length, 0⟩ : RS).num bs 4 = (0, ⟨bs.length, 10⟩) := by
  unfold RS.num
  rw [if_pos rfl, if_neg (by simp)]
theorem rdOne_end (bs : List UInt8) : (rdOne bs ⟨bs.length, 0⟩).2 = ⟨bs.length, 10⟩ := by
  have hc : (⟨bs.length, 0⟩ : RS).count bs 4000 = (0, ⟨bs.length, 10⟩) := by
    unfold RS.count
    rw [num4_end]
    simp only
    rw [if_neg (by decide)]
  have ht : ((⟨bs.length, 0⟩ : RS).text bs 4000).2 = ⟨bs.length, 10⟩ := by
    unfold RS.text
    rw [hc]
    simp [RS.left, leftOf]
  unfold rdOne
  simp only [ht]
  simp [RS.raw]
theorem Mid.short {bs : List UInt8} {n : Nat} {s : RS} {xs : List Li} (hp : s.pos ≤ bs.length) (h : Mid bs (n + 1) s xs) (hl : s.left bs = 0) : Fin' bs (s.fail 10) xs := by
  obtain ⟨p, y⟩ := s
  simp only at hp
  obtain ⟨h1, h2⟩ := h
  by_cases hy : y = 0
  · subst hy
    have hpe : p = bs.length := by
      simp only [RS.left, leftOf, if_true] at hl
      omega
    subst hpe
    have e1 : (⟨bs.length, 0⟩ : RS).fail 10 = ⟨bs.length, 10⟩ := by simp [RS.fail]
    have e2 : (rdN bs (n + 1) ⟨bs.length, 0⟩ xs).2 = ⟨bs.length, 10⟩ := by
      rw [rdN, if_neg (by simp), rdN_no _ _ _ _ (by rw [rdOne_end]; simp)]
      exact rdOne_end bs
    rw [e1]
    rw [e2] at h1
    exact ⟨h1, fun hw => by simp at hw⟩
  · have e1 : (⟨p, y⟩ : RS).fail 10 = ⟨p, y⟩ := by simp [RS.fail, hy]
    have e2 := rdN_no bs (n + 1) ⟨p, y⟩ xs (by simpa using hy)
    rw [e1]
    rw [e2] at h1
    exact ⟨h1, fun hw => absurd hw (by simpa using hy)⟩
theorem Mid.next {bs : List UInt8} {n : Nat} {s : RS} {xs : List Li} {x : Li} (h : Mid bs (n + 1) s xs) (hw : s.why = 0) (hx : (rdOne bs s).2.why = 0 → x = (rdOne bs s).1) : Mid bs n (rdOne bs s).2 (xs ++ [x]) := by
  obtain ⟨h1, h2⟩ := h
  rw [rdN, if_neg (by simpa using hw)] at h1 h2
  by_cases hy : (rdOne bs s).2.why = 0
  · rw [hx hy]
    exact ⟨h1, h2⟩
  · rw [rdN_no _ _ _ _ hy] at h1 h2
    unfold Mid
    rw [rdN_no _ _ _ _ hy]
    refine ⟨h1, fun hz => ?_⟩
    simp only at h1
    rw [← h1] at hz
    exact absurd hz hy

def rdLi (bs : List UInt8) (s : RS) : Li := ⟨(s.text bs 4000).1, (rdB bs (s.text bs 4000).2 32).1, rdB_len _ _ _⟩
theorem rdLi_same {bs : List UInt8} {s : RS} (hp : s.pos ≤ bs.length) : (rdB bs (s.text bs 4000).2 32).2 = (rdOne bs s).2 ∧ ((rdOne bs s).2.why = 0 → rdLi bs s = (rdOne bs s).1) := by
  obtain ⟨h1, h2⟩ := rdB_raw bs (s.text bs 4000).2 (s.text_pos bs 4000 hp) 32
  refine ⟨h1, fun hw => Li.ext' rfl ?_⟩
  have hw' : ((s.text bs 4000).2.raw bs 32).2.why = 0 := hw
  have e := h2 hw'
  show (rdB bs (s.text bs 4000).2 32).1 = pad32 ((s.text bs 4000).2.raw bs 32).1
  rw [e, pad32_self (by rw [← e, rdB_len])]

structure DS (w0 w : World) (B R : Nat) (bs : List UInt8) (s : RS) (v : Value) (xs : List Li) : Prop where
  rs : Rs w B R bs bs.length s
  lo : Lo 121 w w0.heap.size v xs
  kept : Kept (fun _ => True) w0 w
  b0 : w0.heap.size ≤ B
  r0 : w0.heap.size ≤ R
  few : xs.length ≤ 4096
  short : ∀ x ∈ xs, x.t.length ≤ 4000
theorem DS.offB {w0 w : World} {B R : Nat} {bs : List UInt8} {s : RS} {v : Value} {xs : List Li} (h : DS w0 w B R bs s v xs) : ∀ k, v.ownBlock = some k → k ≠ B := fun k hk e => by
  subst e
  exact h.lo.ne h.rs.rd.self (by decide) hk
theorem DS.offR {w0 w : World} {B R : Nat} {bs : List UInt8} {s : RS} {v : Value} {xs : List Li} (h : DS w0 w B R bs s v xs) : ∀ k, v.ownBlock = some k → k ≠ R := fun k hk e => by
  subst e
  obtain ⟨cur, hc, _⟩ := h.rs.rd.row
  exact h.lo.ne hc (by decide) hk
theorem DS.read {w0 w w' : World} {B R : Nat} {bs : List UInt8} {s s' : RS} {v : Value} {xs : List Li} (h : DS w0 w B R bs s v xs) (hr : Rs w' B R bs bs.length s') (k : Kept (· ≠ B) w w') : DS w0 w' B R bs s' v xs :=
  ⟨hr, h.lo.kept k h.offB, h.kept.then k (fun i hi _ => by have := h.b0; omega), h.b0, h.r0, h.few, h.short⟩

def FrD (ao : Option Addr) (len cap B : Nat) (v : Value) (n : Nat) (a : Act) : Prop :=
  ∃ u : Nat → Value, a = { tmps := List.toArray (.slice ao len cap :: u 1 :: .slice none 0 0 :: .int .i64 0 :: .int .i64 0 :: v :: .pointer (some ⟨B, 0, none⟩) :: .int .i64 (n : Nat) :: u 8 :: u 9 :: u 10 :: u 11 :: u 12 :: u 13 :: u 14 :: u 15 :: u 16 :: u 17 :: u 18 :: u 19 :: u 20 :: u 21 :: u 22 :: u 23 :: u 24 :: u 25 :: u 26 :: u 27 :: u 28 :: u 29 :: u 30 :: u 31 :: u 32 :: u 33 :: u 34 :: u 35 :: u 36 :: u 37 :: u 38 :: u 39 :: u 40 :: u 41 :: u 42 :: u 43 :: u 44 :: u 45 :: u 46 :: u 47 :: u 48 :: u 49 :: u 50 :: u 51 :: u 52 :: []), defers := [] }
set_option maxRecDepth 100000 in
theorem arr53 (u : Nat → Value) : ((List.range 53).map u).toArray = List.toArray (u 0 :: u 1 :: u 2 :: u 3 :: u 4 :: u 5 :: u 6 :: u 7 :: u 8 :: u 9 :: u 10 :: u 11 :: u 12 :: u 13 :: u 14 :: u 15 :: u 16 :: u 17 :: u 18 :: u 19 :: u 20 :: u 21 :: u 22 :: u 23 :: u 24 :: u 25 :: u 26 :: u 27 :: u 28 :: u 29 :: u 30 :: u 31 :: u 32 :: u 33 :: u 34 :: u 35 :: u 36 :: u 37 :: u 38 :: u 39 :: u 40 :: u 41 :: u 42 :: u 43 :: u 44 :: u 45 :: u 46 :: u 47 :: u 48 :: u 49 :: u 50 :: u 51 :: u 52 :: []) := by
  kernel_rfl
theorem FrD.mk' {ao : Option Addr} {len cap B : Nat} {v : Value} {n : Nat} {t : Array Value} (hn : t.size = 53) (h0 : t.getD 0 undef = .slice ao len cap) (h2 : t.getD 2 undef = .slice none 0 0) (h3 : t.getD 3 undef = .int .i64 0) (h4 : t.getD 4 undef = .int .i64 0) (h5 : t.getD 5 undef = v) (h6 : t.getD 6 undef = .pointer (some ⟨B, 0, none⟩)) (h7 : t.getD 7 undef = .int .i64 (n : Nat)) : FrD ao len cap B v n { tmps := t, defers := [] } := by
  refine ⟨fun j => t.getD j undef, ?_⟩
  rw [← h0, ← h2, ← h3, ← h5, ← h6, ← h7]
  have e : t = ((List.range 53).map fun j => t.getD j undef).toArray := by
    apply Array.ext
    · simp [hn]
    · intro i h1 h2
      simp [Array.getD, h1]
  rw [arr53] at e
  rw [h3, ← h4]
  exact congrArg (fun x => ({ tmps := x, defers := [] } : Act)) (by rw [h4]; rw [h3, h4] at e; exact e)

def Jd (w0 : World) (ao : Option Addr) (cap B R : Nat) (bs : List UInt8) (m l : Nat) (a : Act) (w : World) : Prop :=
  ∃ (n : Nat) (s : RS) (xs : List Li) (a' : Option Addr) (c' : Nat), FrD ao bs.length cap B (.slice a' xs.length c') n a ∧ DS w0 w B R bs s (.slice a' xs.length c') xs ∧
    ((l = 1 ∧ m = n + 2 ∧ xs.length + n ≤ 4096 ∧ Mid bs n s xs) ∨ (l = 2 ∧ m = 1 ∧ Fin' bs (s.fail 10) xs) ∨ (l = 0 ∧ m = 0 ∧ Fin' bs s xs))
def scopeD : Option Code → Code
  | some (.seq _ (.scope c)) => c
  | _ => .skip
def EDec (bs : List UInt8) (w : World) (e : Ending) (w' : World) : Prop :=
  ∃ (xs : List Li) (y z : Int) (a' : Option Addr) (c' : Nat), e = .returned (.tuple #[.slice a' xs.length c', .int .i64 y, .int .i64 z]) ∧ IsDec bs xs y z ∧ Lo 121 w' w.heap.size (.slice a' xs.length c') xs ∧ Kept (fun _ => True) w w'
abbrev Rp (w : World) (bs : List UInt8) : Exit → Act → World → Prop := bodyPost Try.prog Try.f37 fun e w' => EDec bs w e w'
abbrev Rw (w : World) (ao : Option Addr) (cap B R : Nat) (bs : List UInt8) (M l : Nat) (a : Act) (w1 : World) : Prop :=
  From Try.prog (scopeD Try.f37.body) (Exit.jumps (fun l' a' w' => ∃ m', m' < M ∧ Jd w ao cap B R bs m' l' a' w') (Rp w bs)) l a w1
abbrev Rv (w : World) (ao : Option Addr) (cap : Nat) (bs : List UInt8) (M l : Nat) (a : Act) (w1 : World) : Prop :=
  From Try.prog (scopeD Try.f37.body) (Exit.jumps (fun l' a' w' => ∃ m', m' < M ∧ ∃ B R, Jd w ao cap B R bs m' l' a' w') (Rp w bs)) l a w1

set_option maxRecDepth 100000 in
set_option maxHeartbeats 1000000 in
theorem dc1a {w w1 : World} {ao : Option Addr} {cap B R : Nat} {bs : List UInt8} {s : RS} {xs : List Li} {a' : Option Addr} {c' : Nat} {a : Act} (hF : FrD ao bs.length cap B (.slice a' xs.length c') 0 a) (hM : DS w w1 B R bs s (.slice a' xs.length c') xs) (hG : Mid bs 0 s xs) : Rw w ao cap B R bs 2 1 a w1 := by
  obtain ⟨u, rfl⟩ := hF
  have HM : Hid (DS w w1 B R bs s (.slice a' xs.length c') xs) := hM
  have HG : Hid (Mid bs 0 s xs) := hG
  clear hM hG
  refine ⟨_, rfl, ?_⟩
  go_wp2_with fail
  go_step3
  exact ⟨0, by omega, 0, s, xs, a', c', FrD.mk' rfl rfl rfl rfl rfl rfl rfl rfl, HM.out, .inr (.inr ⟨rfl, rfl, HG.out.done⟩)⟩

set_option maxRecDepth 100000 in
set_option maxHeartbeats 1000000 in
theorem dc1b {w w1 : World} {ao : Option Addr} {cap B R n : Nat} {bs : List UInt8} {s : RS} {xs : List Li} {a' : Option Addr} {c' : Nat} {a : Act} (hF : FrD ao bs.length cap B (.slice a' xs.length c') (n + 1) a) (hM : DS w w1 B R bs s (.slice a' xs.length c') xs) (hG : Mid bs (n + 1) s xs) (hl : s.left bs = 0) : Rw w ao cap B R bs (n + 1 + 2) 1 a w1 := by
  obtain ⟨u, rfl⟩ := hF
  have HM : Hid (DS w w1 B R bs s (.slice a' xs.length c') xs) := hM
  have HG : Hid (Fin' bs (s.fail 10) xs) := hG.short hM.rs.pos hl
  have cl := left_is hM.rs
  rw [hl] at cl
  have i0 : (((n + 1 : Nat) : Int) == 0) = false := by simp only [beq_eq_false_iff_ne]; omega
  obtain ⟨N, hN⟩ : ∃ N : Int, ((n + 1 : Nat) : Int) = N := ⟨_, rfl⟩
  rw [hN] at i0 ⊢
  have HN : Hid (((n + 1 : Nat) : Int) = N) := hN
  clear hM hG hl hN
  refine ⟨_, rfl, ?_⟩
  go_wp2_with (go_at_call 71; (with_reducible refine Calls.mono cl ?_); rintro e w2 ⟨rfl, nd, rfl⟩)
  go_step3
  refine ⟨1, by omega, n + 1, s, xs, a', c', FrD.mk' rfl rfl rfl rfl rfl rfl rfl ?_, HM.out.read (HM.out.rs.kept ((Kept.refl (fun _ => True) _).drewN nd) trivial trivial) ((Kept.refl _ _).drewN nd), .inr (.inl ⟨rfl, rfl, HG.out⟩)⟩
  rw [HN.out]; rfl

set_option maxRecDepth 100000 in
set_option maxHeartbeats 1000000 in
theorem dc1c {w w1 : World} {ao : Option Addr} {cap B R n : Nat} {bs : List UInt8} {s : RS} {xs : List Li} {a' : Option Addr} {c' : Nat} {a : Act} (hF : FrD ao bs.length cap B (.slice a' xs.length c') (n + 1) a) (hM : DS w w1 B R bs s (.slice a' xs.length c') xs) (hG : Mid bs (n + 1) s xs) (hn : xs.length + (n + 1) ≤ 4096) (hl : s.left bs ≠ 0) : Rw w ao cap B R bs (n + 1 + 2) 1 a w1 := by
  obtain ⟨u, rfl⟩ := hF
  have HM : Hid (DS w w1 B R bs s (.slice a' xs.length c') xs) := hM
  have hpos := hM.rs.pos
  have hsame := rdLi_same hpos
  have HG : Hid (Mid bs n (rdOne bs s).2 (xs ++ [rdLi bs s])) := hG.next (left_yes hl) hsame.2
  have HSM : Hid ((rdB bs (s.text bs 4000).2 32).2 = (rdOne bs s).2) := hsame.1
  have cl := left_is hM.rs
  have l0 : (s.left bs == 0) = false := by simpa using hl
  have HT : Hid ((rdLi bs s).t.length ≤ 4000) := by
    have := text_len bs s 4000
    show ((s.text bs 4000).1).length ≤ 4000
    omega
  have ct := fun (w2 : World) (h : Rs w2 B R bs bs.length s) => text_any 4000 h
  have ch := fun (w2 : World) (h : Rs w2 B R bs bs.length (s.text bs 4000).2) => readHead_any h
  have e1 : (s.text bs 4000).1 = (rdLi bs s).t := rfl
  have e2 : (rdB bs (s.text bs 4000).2 32).1 = (rdLi bs s).h := rfl
  unfold EHead at ch
  rw [e1] at ct
  rw [e2, hsame.1] at ch
  have lx : xs.length ≤ 4095 := by omega
  have lx1 := hM.rs.big
  have lc := lcell_length (rdLi bs s)
  have l1 := lcell_one (rdLi bs s)
  clear hsame e1 e2 hpos hG hl
  generalize rdLi bs s = x at *
  generalize (rdOne bs s).2 = s3 at *
  generalize (s.text bs 4000).2 = s2 at *
  generalize s.left bs = L at *
  have i0 : (((n + 1 : Nat) : Int) == 0) = false := by simp only [beq_eq_false_iff_ne]; omega
  have i1 : ((n + 1 : Nat) : Int) - 1 = (n : Int) := by omega
  obtain ⟨N, hN⟩ : ∃ N : Int, ((n + 1 : Nat) : Int) = N := ⟨_, rfl⟩
  rw [hN] at i0 i1 ⊢
  clear hN hM
  refine ⟨_, rfl, ?_⟩
  go_wp2_with (first
    | (go_at_call 71; (with_reducible refine Calls.mono cl ?_); rintro e w2 ⟨rfl, nd, rfl⟩; have hM2 : Hid (DS w (w1.drewN nd) B R bs s (.slice a' xs.length c') xs) := HM.out.read (HM.out.rs.kept ((Kept.refl (fun _ => True) _).drewN nd) trivial trivial) ((Kept.refl _ _).drewN nd))
    | (go_at_call 43; (with_reducible refine Calls.mono (ct _ hM2.out.rs) ?_); rintro e w3 ⟨rfl, h3, k3⟩; have hM3 : Hid (DS w w3 B R bs s2 (.slice a' xs.length c') xs) := hM2.out.read h3 k3)
    | (go_at_call 72; (with_reducible refine Calls.mono (ch _ hM3.out.rs) ?_); rintro e w4 ⟨rfl, h4, k4⟩; have hM4 : Hid (DS w w4 B R bs s3 (.slice a' xs.length c') xs) := hM3.out.read h4 k4)
    | ((with_reducible apply w_buildL (d := some 25) linkP x); (case hy => rfl); (case hz => rfl))
    | ((with_reducible apply w_sliceL (d := some 26) linkP x); (case hy => rfl))
    | (at_builtin; refine wpList_append_cells linkP.slice linkP.info (by simp [Value.cells, lcell_length]) (by decide) (by decide) rfl (.tmp 20) (.tmp 26) rfl w.heap.size (.slice a' xs.length c') xs.length (lrow xs) rfl (World.ownsRow.alloc hM4.out.lo _) (by have := hM4.out.kept.size; simp; omega) _ rfl (lcell x) lc l1 (0, 0) (heap_alloc_new w4 _) (by omega) ?_; intro a5 c5 w5 ho5 hg5 hl5))
  go_step3
  have kg : Kept (fun k => (Value.slice a' xs.length c').ownBlock ≠ some k) w4 w5 := ((Kept.refl _ _).alloc _).grown hg5 (fun k _ e hne => hne e)
  refine ⟨n + 2, by omega, n, s3, xs ++ [x], a5, c5, FrD.mk' rfl rfl rfl rfl rfl (by rw [List.length_append]; rfl) rfl rfl, ?_, .inl ⟨rfl, rfl, by simp; omega, HG.out⟩⟩
  refine ⟨hM4.out.rs.kept kg (fun e => hM4.out.offB B e rfl) (fun e => hM4.out.offR R e rfl), ?_, hM4.out.kept.then kg (fun i hi _ e => by have := hM4.out.lo.ge e; omega), hM4.out.b0, hM4.out.r0, by simp; omega, fun y hy => ?_⟩
  · unfold Lo
    rw [lrow_snoc, List.length_append]
    exact ho5
  · rcases List.mem_append.1 hy with h | h
    · exact hM4.out.short y h
    · rw [List.mem_singleton.1 h]
      exact HT.out

set_option maxRecDepth 100000 in
set_option maxHeartbeats 1000000 in
theorem dc2 {w w1 : World} {ao : Option Addr} {cap B R n : Nat} {bs : List UInt8} {s : RS} {xs : List Li} {a' : Option Addr} {c' : Nat} {a : Act} (hF : FrD ao bs.length cap B (.slice a' xs.length c') n a) (hM : DS w w1 B R bs s (.slice a' xs.length c') xs) (hG : Fin' bs (s.fail 10) xs) (IH : Hid (∀ m' l' a' w', m' < 1 → (∃ B R, Jd w ao cap B R bs m' l' a' w') → Rv w ao cap bs 1 l' a' w')) : Rv w ao cap bs 1 2 a w1 := by
  obtain ⟨u, rfl⟩ := hF
  have HM : Hid (DS w w1 B R bs s (.slice a' xs.length c') xs) := hM
  have HG : Hid (Fin' bs (s.fail 10) xs) := hG
  have cf := fail_any 10 hM.rs
  clear hM hG
  refine ⟨_, rfl, ?_⟩
  go_wp2_with (go_at_call 73; (with_reducible refine Calls.mono cf ?_); rintro e w2 ⟨rfl, h2, k2⟩)
  go_step3
  iterate 2 (first | go_values | go_skip | go_guarded | go_step | go_upon | go_back)
  refine From.use (IH.out 0 0 _ _ (by omega) ⟨B, R, n, s.fail 10, xs, a', c', ?_, HM.out.read h2 k2, .inr (.inr ⟨rfl, rfl, HG.out⟩)⟩) rfl
  exact FrD.mk' rfl rfl rfl rfl rfl rfl rfl rfl

set_option maxRecDepth 100000 in
theorem cut_links (a' : Option Addr) (len c' n : Nat) (h : n ≤ len) (hc : len ≤ c') (w0 : World) : (Instr.slice 83 (.slice a' len c') none (some (.int .i64 (n : Int))) none).run Try.prog w0 = .ok (.slice a' n c') w0 := by
  have hsz : (sizeOf (Try.prog.elem 83)).run Try.prog w0 = .ok 33 w0 := by
    obtain ⟨i, hi, _, h1, _⟩ := info_parts linkP.info
    have e : Try.prog.elem 83 = 121 := by kernel_rfl
    rw [e]
    simp [sizeOf, typeInfo, hi, h1]
  rw [run_slice_h (P := Try.prog) w0 83 a' len c' Try.underlying83 .i64 n (by omega) (by omega), hsz]
  cases a' <;> simp [Result.andThen, sliced, Addr.add]
theorem end_why {bs : List UInt8} {s : RS} (h : (s.end_ bs).1 = 0) : s.why = 0 := by
  unfold RS.end_ at h
  by_cases hw : s.why = 0
  · exact hw
  · rw [if_pos hw] at h
    exact h
theorem dec_wgt {xs : List Li} (hf : xs.length ≤ 4096) (hs : ∀ x ∈ xs, x.t.length ≤ 4000) (n : Nat) : wgt (xs.take n) ≤ 100000000000000 := by
  have h1 := wgt_take_le xs n
  have h2 := wgt_few xs hs
  have h3 : xs.length * (4000 + 36) ≤ 4096 * (4000 + 36) := Nat.mul_le_mul_right _ hf
  omega

set_option maxRecDepth 100000 in
set_option maxHeartbeats 2000000 in
theorem dc0 {w w1 : World} {ao : Option Addr} {cap B R n : Nat} {bs : List UInt8} {s : RS} {xs : List Li} {a' : Option Addr} {c' : Nat} {a : Act} (hF : FrD ao bs.length cap B (.slice a' xs.length c') n a) (hM : DS w w1 B R bs s (.slice a' xs.length c') xs) (hG : Fin' bs s xs) : Rw w ao cap B R bs 0 0 a w1 := by
  obtain ⟨u, rfl⟩ := hF
  have HM : Hid (DS w w1 B R bs s (.slice a' xs.length c') xs) := hM
  obtain ⟨g1, g2⟩ := hG
  have ce := end_any hM.rs
  by_cases hy : (s.end_ bs).1 = 0
  · have hxs := g2 (end_why hy)
    have HD : Hid (∀ n, IsChk xs n → (n < xs.length → IsDec bs [] 12 ((encL (xs.take n)).length : Nat)) ∧ (n = xs.length → IsDec bs xs 0 0)) := fun n hn => by
      rw [g1] at hy
      rw [hxs] at hn ⊢
      exact ⟨fun hl => ⟨fun h => absurd hy h, fun _ => ⟨n, hn, fun _ => ⟨rfl, rfl, rfl⟩, fun e => absurd e (by omega)⟩⟩, fun hl => ⟨fun h => absurd hy h, fun _ => ⟨n, hn, fun h => absurd h (by omega), fun _ => ⟨rfl, rfl, rfl⟩⟩⟩⟩
    have cc := fun (w2 : World) (h : Lv w2 a' xs) => check_any (cap := c') h (by have := hM.few; omega) (fun x hx => by have := hM.short x hx; omega)
    have cn : ∀ (w2 : World) (n : Nat), n ≤ xs.length → Lv w2 a' (xs.take n) → Calls Try.prog 75 #[.slice a' n c'] w2 fun e w' => EEnc (xs.take n) w2 e w' := fun w2 n hn h => by
      have := encode_any (cap := c') h (by have := hM.few; simp; omega) (dec_wgt hM.few hM.short n)
      rwa [List.length_take, Nat.min_eq_left hn] at this
    unfold EChk at cc
    unfold EEnc at cn
    rw [hy] at ce
    have hcc := hM.lo.shape
    obtain ⟨ao', cap', e0, hcc, _, _⟩ := hcc
    injection e0 with e1 e2 e3
    subst e3
    clear e1 e2 g1 g2 hxs hM
    generalize (s.end_ bs).2 = z at *
    clear hy
    refine ⟨_, rfl, ?_⟩
    go_wp2_with (first
      | (go_at_call 44; (with_reducible refine Calls.mono ce ?_); rintro e w2 ⟨rfl, nd, rfl⟩)
      | (go_at_call 74; (with_reducible refine Calls.mono (cc _ (HM.out.lo.view.all ((Kept.refl _ _).drewN nd))) ?_); rintro e w3 ⟨k, rfl, hk, k3⟩; have hkl := hk.le; have HK : Hid (IsChk xs k) := hk; clear hk; have hcut := cut_links a' xs.length c' k hkl hcc; have HV3 : Hid (Lv w3 a' (xs.take k)) := ((HM.out.lo.view.all ((Kept.refl _ _).drewN nd)).all k3).take k)
      | (go_at_call 75; (with_reducible refine Calls.mono (cn _ k hkl HV3.out) ?_); rintro e w4 ⟨D, rfl, h4, k4, _⟩))
    · simp only [Exit.jumps]
      go_ret3
      obtain ⟨q1, q2⟩ := HD.out k HK.out
      exact ⟨[], 12, _, none, 0, rfl, q1 (by assumption), Lo.nil _ _ _, ((HM.out.kept.drewN nd).trans k3).trans k4⟩
    · simp only [Exit.jumps]
      go_ret3
      obtain ⟨q1, q2⟩ := HD.out k HK.out
      exact ⟨xs, 0, 0, a', c', rfl, q2 (by omega), (HM.out.lo.all ((Kept.refl _ _).drewN nd)).all k3, (HM.out.kept.drewN nd).trans k3⟩
  · have hy' : ((s.end_ bs).1 != 0) = true := by simpa using hy
    have HD : Hid (IsDec bs [] (s.end_ bs).1 (s.end_ bs).2) := by
      show IsDec _ _ _ _
      rw [g1] at hy ⊢
      exact ⟨fun _ => ⟨rfl, rfl, rfl⟩, fun h => absurd h hy⟩
    generalize (s.end_ bs).1 = y at *
    generalize (s.end_ bs).2 = z at *
    clear hy g1 g2 hM
    refine ⟨_, rfl, ?_⟩
    go_wp2_with (go_at_call 44; (with_reducible refine Calls.mono ce ?_); rintro e w2 ⟨rfl, nd, rfl⟩)
    simp only [Exit.jumps]
    go_ret3
    exact ⟨[], y, z, none, 0, rfl, HD.out, Lo.nil _ _ _, HM.out.kept.drewN nd⟩

set_option maxRecDepth 100000 in
set_option maxHeartbeats 2000000 in
theorem decode_any {w : World} {ao : Option Addr} {cap : Nat} {bs : List UInt8} (h : Has w ao bs) (hb : (bs.length : Int) ≤ 140737488355328) :
    Calls Try.prog 37 #[.slice ao bs.length cap] w fun e w' => EDec bs w e w' := by
  have cr := newReader_any (cap := cap) hb h
  have cc := fun (w2 : World) (B R : Nat) (h : Rs w2 B R bs bs.length ⟨0, 0⟩) => count_any 4096 h
  go_enter Try.func37, Try.ntmps37
  have HR : Hid (Calls Try.prog 41 #[.slice ao bs.length cap] w fun e w' => ∃ B R, e = .returned (.pointer (some ⟨B, 0, none⟩)) ∧ Rs w' B R bs bs.length ⟨0, 0⟩ ∧ Kept (fun _ => True) w w' ∧ w.heap.size ≤ B ∧ w.heap.size ≤ R) := cr
  clear cr
  go_wp2
  refine wp_scope_all (c := scopeD Try.f37.body) (fun m l a w2 => ∃ B R, Jd w ao cap B R bs m l a w2) ?_ ?_
  · rintro m l a w1 ⟨B, R, n, s, xs, a', c', hF, hM, hG⟩ IH
    have weak : ∀ l a w2, Rw w ao cap B R bs m l a w2 → Rv w ao cap bs m l a w2 := by
      rintro l a w2 ⟨r, hr, hw⟩
      exact ⟨r, hr, wp_mono hw (Exit.jumps_mono fun _ _ _ ⟨m', h1, h2⟩ => ⟨m', h1, B, R, h2⟩)⟩
    rcases hG with ⟨rfl, rfl, hn, hG⟩ | ⟨rfl, rfl, hG⟩ | ⟨rfl, rfl, hG⟩
    · apply weak
      cases n with
      | zero => exact dc1a hF hM hG
      | succ n =>
        by_cases hl : s.left bs = 0
        · exact dc1b hF hM hG hl
        · exact dc1c hF hM hG hn hl
    · exact dc2 hF hM hG IH
    · exact weak _ _ _ (dc0 hF hM hG)
  · intro H
    have HH : Hid _ := H
    clear H
    conv => arg 2; whnf
    go_wp2_with (first
      | (go_at_call 41; (with_reducible refine Calls.mono HR.out ?_); rintro e w1 ⟨B, R, rfl, hr1, k1, hB, hR⟩)
      | (go_at_call 70; (with_reducible refine Calls.mono (cc _ B R hr1) ?_); rintro e w2 ⟨rfl, hr2, k2⟩))
    go_step3
    iterate 2 (first | go_values | go_skip | go_guarded | go_step | go_upon | go_back)
    have hz := k1.size
    have hcn := count_len bs ⟨0, 0⟩ 4096
    have hcn2 : ((⟨0, 0⟩ : RS).count bs 4096).1 ≤ 4096 := by omega
    have K2 : Kept (fun _ => True) w w2 := k1.then k2 (fun i hi _ => by omega)
    refine From.use (HH.out (((⟨0, 0⟩ : RS).count bs 4096).1 + 2) 1 _ _ ⟨B, R, _, _, [], none, 0, ?_, ⟨hr2, Lo.nil _ _ _, K2, hB, hR, by simp, by simp⟩, .inl ⟨rfl, rfl, by simpa using hcn2, Mid.start bs⟩⟩) rfl
    exact FrD.mk' rfl rfl rfl rfl rfl rfl rfl rfl

end Go.Proofs.Ytmcaoimgmgjjiaa

namespace Go.Proofs.Ytmcaoimgmgjjiaa
open Go.RowKit

theorem rdN_few (bs : List UInt8) : ∀ (n : Nat) (s : RS) (xs : List Li), (∀ x ∈ xs, x.t.length ≤ 4000) → (rdN bs n s xs).1.length ≤ xs.length + n ∧ ∀ x ∈ (rdN bs n s xs).1, x.t.length ≤ 4000
  | 0, s, xs, h => by
    rw [rdN]
    exact ⟨Nat.le_refl _, h⟩
  | n + 1, s, xs, h => by
    rw [rdN]
    split
    · exact ⟨by simp only; omega, h⟩
    · have hs : ∀ x ∈ xs ++ [(rdOne bs s).1], x.t.length ≤ 4000 := fun x hx => by
        rcases List.mem_append.1 hx with h1 | h1
        · exact h x h1
        · rw [List.mem_singleton.1 h1]
          have := text_len bs s 4000
          show ((s.text bs 4000).1).length ≤ 4000
          omega
      obtain ⟨h1, h2⟩ := rdN_few bs n (rdOne bs s).2 (xs ++ [(rdOne bs s).1]) hs
      rw [List.length_append] at h1
      exact ⟨by simp only [List.length_singleton] at h1; omega, h2⟩
theorem IsDec.few {bs : List UInt8} {xs : List Li} {y z : Int} (h : IsDec bs xs y z) : xs.length ≤ 4096 ∧ ∀ x ∈ xs, x.t.length ≤ 4000 := by
  have hc := count_len bs ⟨0, 0⟩ 4096
  obtain ⟨h1, h2⟩ := rdN_few bs ((⟨0, 0⟩ : RS).count bs 4096).1 ((⟨0, 0⟩ : RS).count bs 4096).2 [] (fun x hx => by cases hx)
  have ha : (rdAll bs).1.length ≤ 4096 ∧ ∀ x ∈ (rdAll bs).1, x.t.length ≤ 4000 := ⟨by
    unfold rdAll
    simp only [List.length_nil, Nat.zero_add] at h1
    omega, h2⟩
  by_cases e : ((rdAll bs).2.end_ bs).1 = 0
  · obtain ⟨n, hn, q1, q2⟩ := h.yes e
    have hle := hn.le
    rcases Nat.lt_or_ge n (rdAll bs).1.length with q | q
    · rw [(q1 q).1]
      exact ⟨by simp, fun x hx => by cases hx⟩
    · rw [(q2 (by omega)).1]
      exact ha
  · rw [(h.no e).1]
    exact ⟨by simp, fun x hx => by cases hx⟩

end Go.Proofs.Ytmcaoimgmgjjiaa
