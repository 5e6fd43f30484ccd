/-
  BallotPlays.
-/
import Derived.Test.YtnogpjhcpdngcaaB5
import Derived.Test.YtnogpjhcpdngcaaB6
import Derived.Test.YtnogpjhcpdngcaaB9
import Derived.Test.YtnogpjhcpdngcaaB10
import Derived.Test.YtnogpjhcpdngcaaB13
import Derived.Test.YtnogpjhcpdngcaaBAsks
namespace Go.Proofs.Ytnogpjhcpdngcaa
open Go.RowKit

theorem tcut (bs : List UInt8) (k : Nat) (hk : k ≤ bs.length) (w0 : World) : (Instr.slice 9 (.string ⟨bs.toArray⟩) none (some (.int .i64 (k : Int))) none).run Try.prog w0 = .ok (.string ⟨(bs.take k).toArray⟩) w0 := by
  have hs : ((⟨bs.toArray⟩ : ByteArray).size : Int) = (bs.length : Int) := by simp [ByteArray.size]
  rw [run_slice_string_to_if (P := Try.prog) w0 9 ⟨bs.toArray⟩ .i64 k Try.underlying9, if_pos ⟨by omega, by omega⟩]
  congr 2
  apply ByteArray.ext
  simp
theorem tcut2 (s : ByteArray) (hk : 200 < s.size) : ∃ r : ByteArray, r.size ≤ 200 ∧ ∀ w0, (Instr.slice 9 (.string s) none (some (.int .i64 200)) none).run Try.prog w0 = .ok (.string r) w0 := by
  obtain ⟨⟨l⟩⟩ := s
  have hl : 200 < l.length := hk
  refine ⟨⟨(l.take 200).toArray⟩, ?_, fun w0 => tcut l 200 (by omega) w0⟩
  show (l.take 200).toArray.size ≤ 200
  simp
  omega

/-- All that came in with one Ask. -/
theorem ask_all {w : World} {a : Option Addr} {na i : Nat} (h : IsAsks w a na) (hi : i < na) : ∃ b off, ∃ x : AskV, a = some ⟨b, off, none⟩ ∧ (I64 x.r ∧ I64 x.n) ∧ ∀ W, Kept (fun _ => True) w W → W.cell? ⟨b, off + i * 5, none⟩ = some (.int .i64 x.kind) ∧ W.cell? ⟨b, off + i * 5 + 1, none⟩ = some (.int .i64 x.slot) ∧ W.cell? ⟨b, off + i * 5 + 2, none⟩ = some (.int .i64 x.r) ∧ W.cell? ⟨b, off + i * 5 + 3, none⟩ = some (.int .i64 x.n) ∧ W.cell? ⟨b, off + i * 5 + 4, none⟩ = some (.string x.s) := by
  obtain ⟨b, off, x, ha, hb, c0, c1, c2, c3, c4, -, h1, h2⟩ := h i hi
  exact ⟨b, off, x, ha, ⟨h1, h2⟩, fun W k => ⟨cell_kept k c0 trivial, cell_kept k c1 trivial, cell_kept k c2 trivial, cell_kept k c3 trivial, cell_kept k c4 trivial⟩⟩

/-- An acceptor's state such as calls lead to. -/
structure Sound (p : Bl) (f : Vs) : Prop where
  fine : Fine p f
  short : ∀ s x, f s = some x → x.2.size ≤ 200
  nought : less p ⟨0, 0⟩ = false
  pr : I64 p.r
  pn : I64 p.n

theorem Sound.none : Sound ⟨0, 0⟩ (fun _ => none) :=
  ⟨⟨fun _ _ h => by (cases h), fun _ _ h => by (cases h), fun _ _ h => by (cases h)⟩, fun _ _ h => by (cases h), by decide, by unfold I64; decide, by unfold I64; decide⟩
theorem Sound.prepare {p b : Bl} {f : Vs} (h : Sound p f) (hl : less p b = true) (h1 : I64 b.r) (h2 : I64 b.n) : Sound b f :=
  ⟨⟨h.fine.i, h.fine.up, fun s x hx => less_le (h.fine.low s x hx) (less_asym hl)⟩, h.short, less_le h.nought (less_asym hl), h1, h2⟩
theorem Sound.accept {p b : Bl} {f : Vs} (h : Sound p f) (hl : less b p = false) (hu : less ⟨0, 0⟩ b = true) (h1 : I64 b.r) (h2 : I64 b.n) (s : Nat) {v : ByteArray} (hv : v.size ≤ 200) : Sound b (upd f s b v) := by
  refine ⟨⟨fun k x hx => ?_, fun k x hx => ?_, fun k x hx => ?_⟩, fun k x hx => ?_, less_le h.nought hl, h1, h2⟩
  all_goals
    unfold upd at hx
    split at hx
    · cases hx
      first | exact ⟨h1, h2, Nat.lt_of_le_of_lt hv (by decide)⟩ | exact hu | exact less_self _ | exact hv
    · first | exact h.fine.i k x hx | exact h.fine.up k x hx | exact less_le (h.fine.low k x hx) hl | exact h.short k x hx
theorem Sound.forget {p : Bl} {f : Vs} (h : Sound p f) (a : Int) : Sound p (forgot f a) := by
  refine ⟨⟨fun k x hx => ?_, fun k x hx => ?_, fun k x hx => ?_⟩, fun k x hx => ?_, h.nought, h.pr, h.pn⟩
  all_goals
    unfold forgot at hx
    split at hx
    · cases hx
    · first | exact h.fine.i k x hx | exact h.fine.up k x hx | exact h.fine.low k x hx | exact h.short k x hx
theorem votes_short2 : ∀ (xs : List Vo), (∀ x ∈ xs, x.v.size ≤ 200) → (xs.flatMap encVote).length ≤ xs.length * 224
  | [], _ => by simp
  | x :: xs, h => by
    have h1 := votes_short2 xs (fun y hy => h y (.tail _ hy))
    have h2 := h x (.head _)
    rw [List.flatMap_cons, List.length_append, encVote_length, List.length_cons]
    omega
theorem Sound.saved {p : Bl} {f : Vs} (h : Sound p f) : (saved p (votesUp f 0 512)).length ≤ 140737488355328 := by
  have h1 := votes_short2 (votesUp f 0 512) (fun x hx => by
    obtain ⟨s, _, _, e⟩ := votesUp_mem hx
    unfold voteAt at e
    cases hf : f s with
    | none => rw [hf] at e; cases e
    | some y =>
      rw [hf] at e
      simp only [Option.map_some, Option.some.injEq] at e
      rw [← e]
      exact h.short s y hf)
  have h2 := votesUp_len f 0 512
  unfold Proofs.Ytnogpjhcpdngcaa.saved
  rw [List.length_append, savedHead_length]
  omega
/-- Both refuse the same. -/
theorem same_bad {p b : Bl} (hp : less p ⟨0, 0⟩ = false) (slot : Int) : (decide (slot < 0) || decide (512 ≤ slot) || !less ⟨0, 0⟩ b || less b p) = (less b p || (decide (b.r = 0) && decide (b.n = 0)) || decide (slot < 0) || decide (512 ≤ slot)) := by
  cases hl : less b p
  · have h0 : less b ⟨0, 0⟩ = false := less_le hp hl
    have e : (!less ⟨0, 0⟩ b) = (decide (b.r = 0) && decide (b.n = 0)) := by
      cases hz : less ⟨0, 0⟩ b
      · have := less_total hz h0
        rw [← this]; rfl
      · rw [less_iff] at hz
        simp only at hz
        simp
        omega
    rw [e]
    cases decide (slot < 0) <;> cases decide (512 ≤ slot) <;> cases decide (b.r = 0) <;> cases decide (b.n = 0) <;> rfl
  · cases decide (slot < 0) <;> cases decide (512 ≤ slot) <;> cases less ⟨0, 0⟩ b <;> cases decide (b.r = 0) <;> cases decide (b.n = 0) <;> rfl

/-- The program's and the document's acceptor side by side. -/
structure Two (w0 w : World) (A M n : Nat) (p : Bl) (f : Vs) (E : Nat) (u : Value) : Prop where
  am : AM w0 w A M n p f
  ra : Ra w E u p (votesUp f 0 512)
  e0 : w0.heap.size ≤ E
  sound : Sound p f

theorem apart {w : World} {A M n E : Nat} {p q : Bl} {f : Vs} {u : Value} {L : List Vo} (h : Ac w A M n p f) (k : Ra w E u q L) : E ≠ A ∧ E ≠ M := by
  refine ⟨fun e => ?_, fun e => ?_⟩
  · have := k.self
    rw [e, h.self] at this
    simp at this
  · obtain ⟨es, clock, hb⟩ := h.mp.isMap
    have := k.self
    rw [e, hb] at this
    simp at this
theorem Two.ahead {w0 w w' : World} {A M n : Nat} {p : Bl} {f : Vs} {E : Nat} {u : Value} (h : Two w0 w A M n p f E u) (k : Kept (fun _ => True) w w') : Two w0 w' A M n p f E u :=
  ⟨h.am.ahead k, h.ra.all k, h.e0, h.sound⟩

/-- An Ask in a variable. -/
structure Five (w : World) (X : Nat) (kind slot r n : Int) (s : ByteArray) : Prop where
  c0 : w.cell? ⟨X, 0, none⟩ = some (.int .i64 kind)
  c1 : w.cell? ⟨X, 1, none⟩ = some (.int .i64 slot)
  c2 : w.cell? ⟨X, 2, none⟩ = some (.int .i64 r)
  c3 : w.cell? ⟨X, 3, none⟩ = some (.int .i64 n)
  c4 : w.cell? ⟨X, 4, none⟩ = some (.string s)
theorem five_cell {w : World} {X : Nat} {kind slot r n : Int} {s : ByteArray} {t : TypeId} {fr : Nat × Nat} (h : w.heap[X]? = some (.cells #[.int .i64 kind, .int .i64 slot, .int .i64 r, .int .i64 n, .string s] t fr)) : Five w X kind slot r n s :=
  ⟨by simp [World.cell?, h], by simp [World.cell?, h], by simp [World.cell?, h], by simp [World.cell?, h], by simp [World.cell?, h]⟩
theorem Five.kept {p : Nat → Prop} {w w' : World} {X : Nat} {kind slot r n : Int} {s : ByteArray} (h : Five w X kind slot r n s) (k : Kept p w w') (hp : p X) : Five w' X kind slot r n s :=
  ⟨cell_kept k h.c0 hp, cell_kept k h.c1 hp, cell_kept k h.c2 hp, cell_kept k h.c3 hp, cell_kept k h.c4 hp⟩
theorem Five.lt {w : World} {X : Nat} {kind slot r n : Int} {s : ByteArray} (h : Five w X kind slot r n s) : X < w.heap.size := World.block_lt_of_cell? w _ h.c0

set_option maxRecDepth 100000 in
set_option maxHeartbeats 6000000 in
theorem ballotPlays_any {w : World} {a : Option Addr} {na ca : Nat} (ha : IsAsks w a na) (pr pn qr qn : Int) :
    Calls Try.prog 4 #[.slice a na ca, .agg #[.int .i64 pr, .int .i64 pn], .agg #[.int .i64 qr, .int .i64 qn]] w fun e w' => e = .returned (.bool true) ∧ Kept (fun _ => True) w w' := by
  have HS : Hid (IsAsks w a na) := ha
  clear ha
  have cL := fun W => less_raw (w := W) pr pn qr qn
  have cR := fun W => rless_raw (w := W) pr pn qr qn
  generalize less ⟨pr, pn⟩ ⟨qr, qn⟩ = LL at cL cR
  go_enter Try.func4, Try.ntmps4
  go_wp2_with fail
  have k1 : Kept (fun _ => True) w ((w.alloc (.cells #[.int .i64 pr, .int .i64 pn] 26)).alloc (.cells #[.int .i64 qr, .int .i64 qn] 26)) := ((Kept.refl _ _).alloc _).alloc _
  have hP := heap_alloc_new w (.cells #[.int .i64 pr, .int .i64 pn] 26)
  have hP1 := (((Kept.refl (fun _ => True) (w.alloc (.cells #[.int .i64 pr, .int .i64 pn] 26))).alloc (.cells #[.int .i64 qr, .int .i64 qn] 26)).block _ (lt_of_block hP) trivial).trans hP
  have hQ := heap_alloc2_new w (.cells #[.int .i64 pr, .int .i64 pn] 26) (.cells #[.int .i64 qr, .int .i64 qn] 26)
  clear hP
  generalize (w.alloc (.cells #[.int .i64 pr, .int .i64 pn] 26)).alloc (.cells #[.int .i64 qr, .int .i64 qn] 26) = w1 at *
  have HPQ : Hid (w1.heap[w.heap.size]? = some (.cells #[.int .i64 pr, .int .i64 pn] 26) ∧ w1.heap[w.heap.size + 1]? = some (.cells #[.int .i64 qr, .int .i64 qn] 26)) := ⟨hP1, hQ⟩
  clear hP1 hQ
  have HW : Hid (w.heap.size ≤ w.heap.size) := Nat.le_refl _
  generalize hB2 : w.heap.size + 1 = B2 at HPQ ⊢
  generalize hB1 : w.heap.size = B1 at HPQ ⊢
  clear hB1 hB2 HW
  refine Calls.mono new_any ?_
  rintro e w2 ⟨A0, M0, rfl, h2, k2, a2, m2⟩
  have H2 : Hid (AM w w2 A0 M0 0 ⟨0, 0⟩ (fun _ => none)) := ⟨h2, k1.trans k2, Nat.le_trans k1.size a2, Nat.le_trans k1.size m2⟩
  have HPQ2 : Hid (w2.heap[B1]? = some (.cells #[.int .i64 pr, .int .i64 pn] 26) ∧ w2.heap[B2]? = some (.cells #[.int .i64 qr, .int .i64 qn] 26)) := ⟨(k2.block _ (lt_of_block HPQ.out.1) trivial).trans HPQ.out.1, (k2.block _ (lt_of_block HPQ.out.2) trivial).trans HPQ.out.2⟩
  clear h2 k2 a2 m2 k1 HPQ
  go_upto_if 30 with fail
  have k3 : Kept (fun _ => True) w2 (w2.alloc (.cells #[.int .i64 0, .int .i64 0, .slice none 0 0] 43)) := (Kept.refl _ _).alloc _
  have h3 := heap_alloc_new w2 (.cells #[.int .i64 0, .int .i64 0, .slice none 0 0] 43)
  have H3 : Hid (Two w _ A0 M0 0 ⟨0, 0⟩ (fun _ => none) w2.heap.size (.slice none 0 0)) := ⟨H2.out.ahead k3, ⟨h3, VR.nil _, by decide⟩, H2.out.kept.size, Sound.none⟩
  obtain ⟨d0, d1⟩ := bcell ((k3.block _ (lt_of_block HPQ2.out.1) trivial).trans HPQ2.out.1)
  obtain ⟨d2, d3⟩ := bcell ((k3.block _ (lt_of_block HPQ2.out.2) trivial).trans HPQ2.out.2)
  clear k3 h3 H2 HPQ2
  generalize w2.alloc (.cells #[.int .i64 0, .int .i64 0, .slice none 0 0] 43) = w3 at *
  generalize w2.heap.size = E at *
  have q0 : ∀ W, Kept (fun _ => True) w3 W → W.cell? ⟨B1, 0, none⟩ = some (.int .i64 pr) := fun W k => cell_kept k d0 trivial
  have q1 : ∀ W, Kept (fun _ => True) w3 W → W.cell? ⟨B1, 1, none⟩ = some (.int .i64 pn) := fun W k => cell_kept k d1 trivial
  have q2 : ∀ W, Kept (fun _ => True) w3 W → W.cell? ⟨B2, 0, none⟩ = some (.int .i64 qr) := fun W k => cell_kept k d2 trivial
  have q3 : ∀ W, Kept (fun _ => True) w3 W → W.cell? ⟨B2, 1, none⟩ = some (.int .i64 qn) := fun W k => cell_kept k d3 trivial
  have kd : Kept (fun _ => True) w3 w3.drew := (Kept.refl _ _).drewN 1
  clear d0 d1 d2 d3
  go_cut [30] from 20 to 29 (fun t wx => t = .bool false ∧ Kept (fun _ => True) w3 wx)
  case first =>
    go_wp2_with fail
    go_region_held (fun W => Kept (fun _ => True) w3 W) (assumption) (first
      | (go_at_call 16; refine Calls.mono (cL _) ?_; rintro e w4 ⟨rfl, k4⟩; have k4' : Kept (fun _ => True) w3 w4 := kd.trans k4)
      | (go_at_call 18; refine Calls.mono (cR _) ?_; rintro e w5 ⟨rfl, k5⟩; have k5' : Kept (fun _ => True) w3 w5 := k4'.trans k5))
    all_goals (go_wp2_with fail; go_meet; exact ⟨by simp, k5'⟩)
  case rest =>
  obtain ⟨rfl, kc⟩ := hcut
  have H5 : Hid (Two w wc A0 M0 0 ⟨0, 0⟩ (fun _ => none) E (.slice none 0 0)) := H3.out.ahead kc
  clear q0 q1 q2 q3 kd cL cR kc H3
  go_wp2_with fail
  go_loopw [7, 9] (fun t x wr => ∃ (i n A M : Nat) (p : Bl) (f : Vs) (u : Value), i ≤ 60 ∧ n ≤ 512 + i ∧ t = .pointer (some ⟨A, 0, none⟩) ∧ x = .int .i64 i ∧ Two w wr A M n p f E u) (fun _ x _ => 60 - (intOf x).toNat)
  case atStart => exact ⟨0, 0, A0, M0, _, _, _, by omega, by omega, rfl, rfl, H5.out⟩
  case round =>
    obtain ⟨i, n, A, M, p, f, u, hi, hn, rfl, rfl, h⟩ := hrel
    have H : Hid (Two w wr A M n p f E u) := h
    clear h H5
    by_cases hlt : i < na ∧ i < 60
    · obtain ⟨b, off, x, rfl, hI, hx⟩ := ask_all HS.out hlt.1
      have g1 : (i : Int) < (na : Int) := by omega
      have g2 : (i : Int) < 60 := by omega
      have g0 : (0 : Int) ≤ (i : Int) := by omega
      have HI : Hid (I64 x.r ∧ I64 x.n) := hI
      obtain ⟨y0, y1, y2, y3, y4⟩ := hx wr H.out.am.kept
      clear hx hI
      obtain ⟨kind, slot, r, nd, s⟩ := x
      simp only at y0 y1 y2 y3 y4 HI
      obtain ⟨s', hs', hcut'⟩ : ∃ s' : ByteArray, s'.size ≤ 200 ∧ (((200 : Int) < (s.size : Int) ∧ ∀ w0, (Instr.slice 9 (.string s) none (some (.int .i64 200)) none).run Try.prog w0 = .ok (.string s') w0) ∨ (¬ (200 : Int) < (s.size : Int) ∧ s' = s)) := by
        by_cases h : 200 < s.size
        · obtain ⟨r, h1, h2⟩ := tcut2 s h
          exact ⟨r, h1, .inl ⟨by omega, h2⟩⟩
        · exact ⟨s, by omega, .inr ⟨by omega, rfl⟩⟩
      go_upto_if 48 with fail
      go_cut [] from 45 to 52 (fun wx => wx = wr.alloc (.cells #[.int .i64 kind, .int .i64 slot, .int .i64 r, .int .i64 nd, .string s'] 45))
      case first =>
        rcases hcut' with ⟨h1, h2⟩ | ⟨h1, rfl⟩
        all_goals (go_wp2_with fail; go_meet; rfl)
      case rest =>
      subst hcut
      clear y0 y1 y2 y3 y4 hcut'
      go_upto_region 11 with fail
      iterate 10 (first | go_values | go_skip | go_guarded | go_step | go_upon | go_back)
      have kX : Kept (fun _ => True) wr (wr.alloc (.cells #[.int .i64 kind, .int .i64 slot, .int .i64 r, .int .i64 nd, .string s'] 45)) := (Kept.refl _ _).alloc _
      have hX := five_cell (heap_alloc_new wr (.cells #[.int .i64 kind, .int .i64 slot, .int .i64 r, .int .i64 nd, .string s'] 45))
      have hXA : Hid (wr.heap.size ≠ A ∧ wr.heap.size ≠ M ∧ wr.heap.size ≠ E) := ⟨Ne.symm (Nat.ne_of_lt H.out.am.ac.lt), Ne.symm (Nat.ne_of_lt H.out.am.ac.mlt), Ne.symm (Nat.ne_of_lt H.out.ra.lt)⟩
      have H8 : Hid (Two w _ A M n p f E u) := H.out.ahead kX
      have F8 : Hid (Five _ wr.heap.size kind slot r nd s') := hX
      have HS' : Hid (s'.size ≤ 200) := hs'
      clear kX hX H hs'
      generalize wr.alloc (.cells #[.int .i64 kind, .int .i64 slot, .int .i64 r, .int .i64 nd, .string s'] 45) = w8 at *
      generalize wr.heap.size = X0 at *
      go_cut [7, 11, 12, 13, 14, 15, 16] from 55 to 125 (fun t _ _ _ _ _ _ wx => ∃ (n' A' M' : Nat) (p' : Bl) (f' : Vs) (u' : Value), n' ≤ 512 + (i + 1) ∧ t = .pointer (some ⟨A', 0, none⟩) ∧ Two w wx A' M' n' p' f' E u' ∧ Five wx X0 kind slot r nd s')
      case first =>
        by_cases h1 : kind = 1
        · subst h1
          have z := F8.out
          obtain ⟨z0, z1, z2, z3, z4⟩ := z
          have cp := prepare_any H8.out.am.ac ⟨r, nd⟩ slot
          have hEA := apart H8.out.am.ac H8.out.ra
          cases hl : less p ⟨r, nd⟩
          all_goals
            rw [hl] at cp
            go_wp2_with fail
            refine Calls.mono cp ?_
            rintro e w9 ⟨v9, rfl, r9, h9, k9, n9⟩
            have A9 : Hid (AM w w9 A M n _ f) := H8.out.am.step h9 k9
            have R9 : Hid (Ra w9 E u p (votesUp f 0 512)) := H8.out.ra.kept k9 hEA (H8.out.am.vr H8.out.ra.own)
            have F9 := F8.out.kept k9 ⟨hXA.out.1, hXA.out.2.1⟩
            have V9 : Hid (VR w9 v9 _) := r9
            clear r9 h9 k9 n9 z0 z1 z2 z3 z4
            have HF9 : Hid (Five w9 X0 1 slot r nd s') := F9
            obtain ⟨z0, z1, z2, z3, z4⟩ := F9
            have cq := rprepare_any R9.out ⟨r, nd⟩ slot
            rw [hl] at cq
            go_wp2_with fail
            refine Calls.mono cq ?_
            rintro e w10 ⟨v10, rfl, r10, h10, k10⟩
            have hAE : A ≠ E ∧ M ≠ E := ⟨Ne.symm hEA.1, Ne.symm hEA.2⟩
            have A10 : Hid (AM w w10 A M n _ f) := ⟨A9.out.ac.kept k10 hAE.1 hAE.2, A9.out.kept.then k10 (fun i hi _ => by have := H8.out.e0; omega), A9.out.a0, A9.out.m0⟩
            have V10 : Hid (VR w10 v9 _) := V9.out.kept k10 (VR.not_ref R9.out V9.out)
            have F10 : Hid (Five w10 X0 1 slot r nd s') := HF9.out.kept k10 hXA.out.2.2
            have R10 : Hid (Ra w10 E u _ (votesUp f 0 512)) := h10
            have V10' : Hid (VR w10 v10 _) := r10
            clear z0 z1 z2 z3 z4 cp cq h10 k10 A9 V9 R9 r10
            have ck := keep_same (w := w10) (v1 := v9) (v2 := v10) V10.out (by have := V10'.out; rw [fromOn_votes] at this; exact this) (by simp <;> exact Nat.le_trans (votesUp_len _ _ _) (by omega))
            go_wp2_with fail
            refine Calls.mono ck ?_
            rintro e w11 ⟨rfl, m11, rfl⟩
            go_wp2_with fail
            go_meet
            have k11 : Kept (fun _ => True) w10 (w10.drewN m11) := (Kept.refl _ _).drewN _
            refine ⟨n, A, M, _, f, u, by omega, rfl, ⟨A10.out.ahead k11, R10.out.all k11, H8.out.e0, ?_⟩, F10.out.kept k11 trivial⟩
            first | exact H8.out.sound | exact H8.out.sound.prepare hl HI.out.1 HI.out.2
        · have e1 : (kind == 1) = false := by simpa using h1
          by_cases h2 : kind = 2
          · subst h2
            have hEA := apart H8.out.am.ac H8.out.ra
            obtain ⟨B, hB⟩ : ∃ B, B = (decide (slot < 0) || decide (512 ≤ slot) || !less ⟨0, 0⟩ ⟨r, nd⟩ || less ⟨r, nd⟩ p) := ⟨_, rfl⟩
            have hB' : B = (less ⟨r, nd⟩ p || (decide (r = 0) && decide (nd = 0)) || decide (slot < 0) || decide (512 ≤ slot)) := hB.trans (same_bad (b := ⟨r, nd⟩) H8.out.sound.nought slot)
            have hin : Hid (B = false → 0 ≤ slot ∧ slot < 512 ∧ less ⟨r, nd⟩ p = false ∧ less ⟨0, 0⟩ ⟨r, nd⟩ = true) := fun hb => by
              rw [hb] at hB
              cases q1 : less ⟨r, nd⟩ p <;> cases q2 : less ⟨0, 0⟩ ⟨r, nd⟩ <;> simp [q1, q2] at hB
              exact ⟨by omega, by omega, rfl, rfl⟩
            have S8 := fun W (k : Kept (fun _ => True) w8 W) => H8.out.ahead k
            have kd : Kept (fun x => x ≠ A ∧ x ≠ M ∧ x ≠ E) w8 w8.drew := (Kept.refl _ _).drew
            have T8 : Hid (Two w w8.drew A M n p f E u) := H8.out.ahead (Kept.refl _ _).drew
            have ca := accept_any T8.out.am.ac (by omega) ⟨r, nd⟩ slot s' B hB
            have u1 : ∀ W, Kept (fun x => x ≠ A ∧ x ≠ M ∧ x ≠ E) w8 W → W.cell? ⟨X0, 1, none⟩ = some (.int .i64 slot) := fun W k => cell_kept k F8.out.c1 hXA.out
            have u2 : ∀ W, Kept (fun x => x ≠ A ∧ x ≠ M ∧ x ≠ E) w8 W → W.cell? ⟨X0, 2, none⟩ = some (.int .i64 r) := fun W k => cell_kept k F8.out.c2 hXA.out
            have u3 : ∀ W, Kept (fun x => x ≠ A ∧ x ≠ M ∧ x ≠ E) w8 W → W.cell? ⟨X0, 3, none⟩ = some (.int .i64 nd) := fun W k => cell_kept k F8.out.c3 hXA.out
            have u4 : ∀ W, Kept (fun x => x ≠ A ∧ x ≠ M ∧ x ≠ E) w8 W → W.cell? ⟨X0, 4, none⟩ = some (.string s') := fun W k => cell_kept k F8.out.c4 hXA.out
            have hm : Hid (B = false → (inserted slot ⟨slot, ⟨r, nd⟩, s'⟩ (votesUp f 0 512)).length ≤ 512) := fun hb => by
              obtain ⟨q1, q2, _⟩ := hin.out hb
              obtain ⟨sn, rfl⟩ : ∃ sn : Nat, slot = sn := ⟨slot.toNat, by omega⟩
              rw [inserted_votes f (by omega)]
              exact Nat.le_trans (votesUp_len _ _ _) (by omega)
            have HB2 : Hid (B = (less ⟨r, nd⟩ p || (decide (r = 0) && decide (nd = 0)) || decide (slot < 0) || decide (512 ≤ slot))) := hB'
            clear hB hB' S8
            go_wp2_with fail
            go_region_held (fun W => Kept (fun x => x ≠ A ∧ x ≠ M ∧ x ≠ E) w8 W) (assumption) (first
              | (go_at_call 10; refine Calls.mono ca ?_; rintro e w9 ⟨rfl, h9, k9⟩; have k9' : Kept (fun x => x ≠ A ∧ x ≠ M ∧ x ≠ E) w8 w9 := kd.trans (k9.mono (fun _ _ q => ⟨q.1, q.2.1⟩)); have A9 : Hid (AM w w9 A M (n + 1) _ _) := T8.out.am.step h9 k9; have R9 : Hid (Ra w9 E u p (votesUp f 0 512)) := T8.out.ra.kept k9 hEA (T8.out.am.vr T8.out.ra.own))
              | (go_at_call 22; refine Calls.mono (raccept_any R9.out ⟨r, nd⟩ slot s' B HB2.out hm.out) ?_; rintro e w10 ⟨u10, rfl, h10, k10⟩; have k10' : Kept (fun x => x ≠ A ∧ x ≠ M ∧ x ≠ E) w8 w10 := k9'.trans (k10.mono (fun _ _ q => q.2.2)); have A10 : Hid (AM w w10 A M (n + 1) _ _) := ⟨A9.out.ac.kept k10 (Ne.symm hEA.1) (Ne.symm hEA.2), A9.out.kept.then k10 (fun i hi _ => by have := H8.out.e0; omega), A9.out.a0, A9.out.m0⟩; have R10 : Hid (Ra w10 E u10 _ _) := h10))
            all_goals
              go_wp2_with fail
              go_meet
              refine ⟨n + 1, A, M, (if B = true then p else ⟨r, nd⟩), (if B = true then f else upd f slot.toNat ⟨r, nd⟩ s'), u10, by omega, rfl, ⟨A10.out, ?_, H8.out.e0, ?_⟩, F8.out.kept k10' hXA.out⟩
              · cases B
                · obtain ⟨q1, q2, _⟩ := hin.out rfl
                  obtain ⟨sn, rfl⟩ : ∃ sn : Nat, slot = sn := ⟨slot.toNat, by omega⟩
                  have := R10.out
                  simp only [Bool.false_eq_true, if_false, Int.toNat_natCast] at this ⊢
                  rw [← inserted_votes f (by omega)]
                  exact this
                · simpa using R10.out
              · cases B
                · obtain ⟨q1, q2, q3, q4⟩ := hin.out rfl
                  simp only [Bool.false_eq_true, if_false]
                  exact H8.out.sound.accept q3 q4 HI.out.1 HI.out.2 _ HS'.out
                · simpa using H8.out.sound
          · have e2 : (kind == 2) = false := by simpa using h2
            have hEA := apart H8.out.am.ac H8.out.ra
            by_cases h3 : kind = 3
            · subst h3
              have z := F8.out
              obtain ⟨z0, z1, z2, z3, z4⟩ := z
              go_wp2_with fail
              refine Calls.mono (forget_any H8.out.am.ac slot) ?_
              rintro e w9 ⟨rfl, h9, k9⟩
              have A9 : Hid (AM w w9 A M n p (forgot f slot)) := H8.out.am.step h9 k9
              have R9 : Hid (Ra w9 E u p (votesUp f 0 512)) := H8.out.ra.kept k9 hEA (H8.out.am.vr H8.out.ra.own)
              have F9 := F8.out.kept k9 ⟨hXA.out.1, hXA.out.2.1⟩
              clear h9 k9 z0 z1 z2 z3 z4
              have HF9 : Hid (Five w9 X0 3 slot r nd s') := F9
              obtain ⟨z0, z1, z2, z3, z4⟩ := F9
              go_wp2_with fail
              refine Calls.mono (rforget_any R9.out slot) ?_
              rintro e w10 ⟨u10, rfl, h10, k10, -⟩
              go_wp2_with fail
              go_meet
              refine ⟨n, A, M, p, forgot f slot, u10, by omega, rfl, ⟨⟨A9.out.ac.kept k10 (Ne.symm hEA.1) (Ne.symm hEA.2), A9.out.kept.then k10 (fun i hi _ => by have := H8.out.e0; omega), A9.out.a0, A9.out.m0⟩, ?_, H8.out.e0, H8.out.sound.forget slot⟩, HF9.out.kept k10 hXA.out.2.2⟩
              rw [fromOn_votes, forgot_votes] at h10
              exact h10
            · have e3 : (kind == 3) = false := by simpa using h3
              have z0 := F8.out.c0
              obtain ⟨gl, hgl, hgs⟩ := load_saved H8.out.sound.fine H8.out.sound.nought H8.out.sound.pr H8.out.sound.pn
              have hsv := H8.out.sound.saved
              have csv := save_any H8.out.am.ac hsv
              generalize saved p (votesUp f 0 512) = sv at *
              go_wp2_with fail
              refine Calls.mono csv ?_
              rintro e w9 ⟨D, rfl, h9, k9, -⟩
              have cl := load_any (w := w9) (bs := sv) (cap := sv.length) (ao := some ⟨D, 0, none⟩) (by omega) (row_has h9)
              clear z0 csv h9
              go_wp2_with fail
              refine Calls.mono cl ?_
              rintro e w10 ⟨h10, k10⟩
              rcases h10 with ⟨h10, -⟩ | ⟨A9, M9, n9, p9, f9, e9, rfl, h10, hn9, a9, m9⟩
              · rw [hgl] at h10; cases h10
              rw [hgl] at e9
              simp only [Option.some.injEq, Prod.mk.injEq] at e9
              obtain ⟨rfl, rfl⟩ := e9
              have k8 : Kept (fun _ => True) w8 w10 := k9.trans k10
              have h11 : Ac w10 A9 M9 n9 p f := ⟨h10.self, h10.mp.congr (fun s hs => (hgs s hs).symm)⟩
              have H10 : Hid (Two w w10 A9 M9 n9 p f E u) := ⟨⟨h11, H8.out.am.kept.trans k8, by have := H8.out.am.kept.size; have := k9.size; omega, by have := H8.out.am.kept.size; have := k9.size; omega⟩, H8.out.ra.all k8, H8.out.e0, H8.out.sound⟩
              have F10 : Hid (Five w10 X0 kind slot r nd s') := F8.out.kept k8 trivial
              clear h10 h11 k9 k10 k8 cl hgl hgs a9 m9
              go_wp2_with fail
              go_meet
              exact ⟨n9, A9, M9, p, f, u, by omega, rfl, H10.out, F10.out⟩
      case rest =>
      obtain ⟨n', A', M', p', f', u', hn', rfl, h9, hF9⟩ := hcut
      have H9 : Hid (Two w wc A' M' n' p' f' E u') := h9
      obtain ⟨e0, e1, e2, -, -, -⟩ := acell h9.ra.self
      have q0 : ∀ W, Kept (fun _ => True) wc W → W.cell? ⟨E, 0, none⟩ = some (.int .i64 p'.r) := fun W k => cell_kept k e0 trivial
      have q1 : ∀ W, Kept (fun _ => True) wc W → W.cell? ⟨E, 1, none⟩ = some (.int .i64 p'.n) := fun W k => cell_kept k e1 trivial
      have q2 : ∀ W, Kept (fun _ => True) wc W → W.cell? ⟨X0, 1, none⟩ = some (.int .i64 slot) := fun W k => cell_kept k hF9.c1 trivial
      have l1 : Hid (∀ a, (votesFrom f' a).length ≤ 1000000) := fun a => Nat.le_trans (votesUp_len _ _ _) (by omega)
      have kd : Kept (fun _ => True) wc wc.drew := (Kept.refl _ _).drew
      have c1 : ∀ a W, Kept (fun _ => True) wc W → Calls Try.prog 11 #[.pointer (some ⟨A', 0, none⟩), .int .i64 a] W (fun e w' => ∃ v, e = .returned v ∧ VR w' v (votesFrom f' a) ∧ Kept (fun _ => True) W w') := fun a W k => Calls.mono (votes_any (H9.out.ahead k).am.ac a) (by rintro e w' ⟨v, rfl, r, k', _⟩; exact ⟨v, rfl, r, k'⟩)
      have c2 : ∀ a W, Kept (fun _ => True) wc W → Calls Try.prog 24 #[.pointer (some ⟨E, 0, none⟩), .int .i64 a] W (fun e w' => ∃ v, e = .returned v ∧ VR w' v (votesFrom f' a) ∧ Kept (fun _ => True) W w') := fun a W k => Calls.mono (rvotes_any (H9.out.ahead k).ra a) (by rintro e w' ⟨v, rfl, r, k', _⟩; exact ⟨v, rfl, by rw [← fromOn_votes]; exact r, k'⟩)
      clear h9 hF9 e0 e1 e2 H8 F8 hXA HS' HI
      go_upto_if 152 with fail
      go_cut [152] from 126 to 151 (fun t wx => t = .bool false ∧ Kept (fun _ => True) wc wx)
      case first =>
        go_wp2_with fail
        go_region_held (fun W => Kept (fun _ => True) wc W) (assumption) (first
          | (go_at_call 15; refine Calls.mono (promised_any (H9.out.ahead kd).am.ac) ?_; rintro e w10 ⟨rfl, k10⟩; have k10' : Kept (fun _ => True) wc w10 := kd.trans k10)
          | (go_at_call_of 11 (Value.int .i64 0); refine Calls.mono (c1 0 _ k10') ?_; rintro e w11 ⟨v11, rfl, r11, k11⟩; have k11' : Kept (fun _ => True) wc w11 := k10'.trans k11)
          | (go_at_call_of 24 (Value.int .i64 0); refine Calls.mono (c2 0 _ k11') ?_; rintro e w12 ⟨v12, rfl, r12, k12⟩; have k12' : Kept (fun _ => True) wc w12 := k11'.trans k12; have r11' := r11.all k12)
          | (go_at_call_of 21 v12; refine Calls.mono (keep_same r11' r12 (l1.out _)) ?_; rintro e w13 ⟨rfl, m13, rfl⟩; have k13' : Kept (fun _ => True) wc (w12.drewN m13) := k12'.drewN _)
          | (go_at_call_of 11 (Value.int .i64 slot); refine Calls.mono (c1 slot _ k13') ?_; rintro e w14 ⟨v14, rfl, r14, k14⟩; have k14' : Kept (fun _ => True) wc w14 := k13'.trans k14)
          | (go_at_call_of 24 (Value.int .i64 slot); refine Calls.mono (c2 slot _ k14') ?_; rintro e w15 ⟨v15, rfl, r15, k15⟩; have k15' : Kept (fun _ => True) wc w15 := k14'.trans k15; have r14' := r14.all k15)
          | (go_at_call_of 21 v15; refine Calls.mono (keep_same r14' r15 (l1.out _)) ?_; rintro e w16 ⟨rfl, m16, rfl⟩; have k16' : Kept (fun _ => True) wc (w15.drewN m16) := k15'.drewN _))
        all_goals (go_wp2_with fail; go_meet; exact ⟨rfl, k16'⟩)
      case rest =>
      obtain ⟨rfl, k17⟩ := hcut
      have H17 : Hid (Two w wc A' M' n' p' f' E u') := H9.out.ahead k17
      clear q0 q1 q2 kd c1 c2 k17 H9 l1
      go_wp2_with fail
      go_roundw
      case rel => exact ⟨i + 1, n', A', M', p', f', u', by omega, by omega, rfl, by go_num, H17.out⟩
      case measure => simp [intOf]; omega
    · have hex : ¬ (i : Int) < (na : Int) ∨ ((i : Int) < (na : Int) ∧ ¬ (i : Int) < 60) := by omega
      clear HS hlt
      rcases hex with hex | hex
      all_goals
        go_wp2_with fail
        refine Calls.mono known_any ?_
        rintro e w9 ⟨rfl, k9⟩
        go_wp2
        go_ret
        exact ⟨rfl, H.out.am.kept.trans k9⟩

end Go.Proofs.Ytnogpjhcpdngcaa
