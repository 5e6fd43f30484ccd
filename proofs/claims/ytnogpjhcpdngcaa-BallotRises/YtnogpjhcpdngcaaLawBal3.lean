/-
  BallotRises.
-/
import Derived.Test.YtnogpjhcpdngcaaLawBal6
namespace Go.Proofs.Ytnogpjhcpdngcaa
open Go.RowKit

/-- No vote is above what is promised. -/
def Low (p : Bl) (f : Vs) : Prop := ∀ s x, f s = some x → less p x.1 = false
/-- At no slot has a vote sunk. -/
def Risen (f g : Vs) : Prop := ∀ s x y, f s = some x → g s = some y → less y.1 x.1 = false

theorem Low.none (p : Bl) : Low p (fun _ => none) := fun _ _ h => by cases h
theorem Risen.refl (f : Vs) : Risen f f := fun _ x y h k => by rw [h] at k; cases k; exact less_self _
theorem Low.higher {p b : Bl} {f : Vs} (h : Low p f) (hl : less b p = false) : Low b f := fun s x hx => less_le (h s x hx) hl
theorem Low.vote {p b : Bl} {f : Vs} (h : Low p f) (hl : less b p = false) (s : Nat) (v : ByteArray) : Low b (upd f s b v) := by
  intro k x hx
  unfold upd at hx
  split at hx
  · cases hx; exact less_self _
  · exact h.higher hl k x hx
theorem Low.risen {p b : Bl} {f : Vs} (h : Low p f) (hl : less b p = false) (s : Nat) (v : ByteArray) : Risen f (upd f s b v) := by
  intro k x y hx hy
  unfold upd at hy
  split at hy
  · cases hy
    exact less_le (h k x hx) hl
  · rw [hx] at hy; cases hy; exact less_self _

theorem vote_in {f : Vs} {a b k : Nat} (hk : k < (votesUp f a b).length) : ∃ s : Nat, (votesUp f a b)[k].s = s ∧ ∃ x, f s = some x ∧ (votesUp f a b)[k].b = x.1 := by
  obtain ⟨s, _, _, h⟩ := votesUp_mem (List.getElem_mem hk)
  unfold voteAt at h
  cases hf : f s with
  | none => rw [hf] at h; cases h
  | some x =>
    rw [hf] at h
    simp only [Option.map_some, Option.some.injEq] at h
    exact ⟨s, by rw [← h], x, hf, by rw [← h]⟩
theorem low_at {p : Bl} {f : Vs} (h : Low p f) (a b k : Nat) (hk : k < (votesUp f a b).length) : less p (votesUp f a b)[k].b = false := by
  obtain ⟨s, _, x, hx, e⟩ := vote_in hk
  rw [e]
  exact h s x hx
theorem risen_at {f g : Vs} (h : Risen f g) (a b k n : Nat) (hk : k < (votesUp g a b).length) (hn : n < (votesUp f a b).length) (hs : (votesUp f a b)[n].s = (votesUp g a b)[k].s) : less (votesUp g a b)[k].b (votesUp f a b)[n].b = false := by
  obtain ⟨s, e1, x, hx, e2⟩ := vote_in hk
  obtain ⟨t, e3, y, hy, e4⟩ := vote_in hn
  rw [e1, e3] at hs
  have : t = s := by omega
  subst this
  rw [e2, e4]
  exact h t y x hy hx

/-- An Ask in a variable. -/
structure Five (w : World) (X : Nat) (kind slot r n : Int) (s : ByteArray) : Prop where
  c0 : w.cell? ⟨X, 0, none⟩ = some (.int .i64 kind)
  c1 : w.cell? ⟨X, 1, none⟩ = some (.int .i64 slot)
  c2 : w.cell? ⟨X, 2, none⟩ = some (.int .i64 r)
  c3 : w.cell? ⟨X, 3, none⟩ = some (.int .i64 n)
  c4 : w.cell? ⟨X, 4, none⟩ = some (.string s)
theorem five_cell {w : World} {X : Nat} {kind slot r n : Int} {s : ByteArray} {t : TypeId} {fr : Nat × Nat} (h : w.heap[X]? = some (.cells #[.int .i64 kind, .int .i64 slot, .int .i64 r, .int .i64 n, .string s] t fr)) : Five w X kind slot r n s :=
  ⟨by simp [World.cell?, h], by simp [World.cell?, h], by simp [World.cell?, h], by simp [World.cell?, h], by simp [World.cell?, h]⟩
theorem Five.kept {p : Nat → Prop} {w w' : World} {X : Nat} {kind slot r n : Int} {s : ByteArray} (h : Five w X kind slot r n s) (k : Kept p w w') (hp : p X) : Five w' X kind slot r n s :=
  ⟨cell_kept k h.c0 hp, cell_kept k h.c1 hp, cell_kept k h.c2 hp, cell_kept k h.c3 hp, cell_kept k h.c4 hp⟩

set_option maxRecDepth 100000 in
set_option maxHeartbeats 2000000 in
theorem ballotRises_any {w : World} {a : Option Addr} {na ca : Nat} (ha : IsAsks w a na) :
    Calls Try.prog 5 #[.slice a na ca] w fun e w' => e = .returned (.bool true) ∧ Kept (fun _ => True) w w' := by
  have HS : Hid (IsAsks w a na) := ha
  clear ha
  go_enter Try.func5, Try.ntmps5
  go_wp2_with fail
  refine Calls.mono new_any ?_
  rintro e w1 ⟨A, M, rfl, h1, k1, a1, m1⟩
  have H1 : Hid (AM w w1 A M 0 ⟨0, 0⟩ (fun _ => none)) := ⟨h1, k1, a1, m1⟩
  clear h1 k1 a1 m1
  go_wp2_with fail
  go_loopw [4] (fun t wr => ∃ (i n : Nat) (p : Bl) (f : Vs), i ≤ 60 ∧ n ≤ i ∧ t = .int .i64 i ∧ AM w wr A M n p f ∧ Low p f) (fun t _ => 60 - (intOf t).toNat)
  case atStart => exact ⟨0, 0, _, _, by omega, by omega, rfl, H1.out, Low.none _⟩
  case round =>
    obtain ⟨i, n, p, f, hi, hn, rfl, hm, hlow⟩ := hrel
    have HM : Hid (AM w wr A M n p f) := hm
    have HL : Hid (Low p f) := hlow
    clear hm hlow H1
    by_cases hlt : i < na ∧ i < 60
    · obtain ⟨b, off, x, rfl, hb, -, hx⟩ := ask_at HS.out hlt.1
      have g1 : (i : Int) < (na : Int) := by omega
      have g2 : (i : Int) < 60 := by omega
      have g0 : (0 : Int) ≤ (i : Int) := by omega
      obtain ⟨y0, y1, y2, y3, y4⟩ := hx wr (HM.out.kept.mono (fun _ _ _ => trivial))
      clear hx
      obtain ⟨kind, slot, r, nd, s⟩ := x
      simp only at y0 y1 y2 y3 y4
      go_wp2_with fail
      refine Calls.mono (within_any _ 5 (by decide)) ?_
      rintro e _ ⟨⟨k, hk, rfl⟩, rfl⟩
      go_wp2_with fail
      have kX : Kept (fun _ => True) wr (wr.alloc (.cells #[.int .i64 kind, .int .i64 k, .int .i64 r, .int .i64 nd, .string s] 45)) := (Kept.refl _ _).alloc _
      have HX := heap_alloc_new wr (.cells #[.int .i64 kind, .int .i64 k, .int .i64 r, .int .i64 nd, .string s] 45)
      have hAX : Hid (wr.heap.size ≠ A ∧ wr.heap.size ≠ M) := ⟨Ne.symm (Nat.ne_of_lt HM.out.ac.lt), Ne.symm (Nat.ne_of_lt HM.out.ac.mlt)⟩
      have H1 : Hid (AM w _ A M n p f) := HM.out.ahead kX
      clear kX HM y0 y1 y2 y3 y4
      generalize wr.alloc (.cells #[.int .i64 kind, .int .i64 k, .int .i64 r, .int .i64 nd, .string s] 45) = wx at *
      generalize wr.heap.size = X0 at HX hAX ⊢
      have z := five_cell HX
      clear HX
      refine Calls.mono (promised_any H1.out.ac) ?_
      rintro e w2 ⟨rfl, k2⟩
      have H2 : Hid (AM w w2 A M n p f) := H1.out.ahead k2
      have z2 := z.kept k2 trivial
      clear k2 H1 z
      go_wp2_with fail
      have k3 : Kept (fun _ => True) w2 (w2.alloc (.cells #[.int .i64 p.r, .int .i64 p.n] 26)) := (Kept.refl _ _).alloc _
      have hP := heap_alloc_new w2 (.cells #[.int .i64 p.r, .int .i64 p.n] 26)
      have hAP : Hid (w2.heap.size ≠ A ∧ w2.heap.size ≠ M) := ⟨Ne.symm (Nat.ne_of_lt H2.out.ac.lt), Ne.symm (Nat.ne_of_lt H2.out.ac.mlt)⟩
      have H3 : Hid (AM w _ A M n p f) := H2.out.ahead k3
      have z3 := z2.kept k3 trivial
      obtain ⟨q0, q1⟩ := bcell hP
      clear hP k3 H2 z2
      generalize w2.alloc (.cells #[.int .i64 p.r, .int .i64 p.n] 26) = w3 at *
      generalize w2.heap.size = P0 at *
      refine Calls.mono (votes_any H3.out.ac _) ?_
      rintro e w4 ⟨v, rfl, r4, k4, -⟩
      have H4 : Hid (AM w w4 A M n p f) := H3.out.ahead k4
      have R4 : Hid (VR w4 v (votesUp f 0 512)) := r4
      have p0 := cell_kept k4 q0 trivial
      have p1 := cell_kept k4 q1 trivial
      have z4 := z3.kept k4 trivial
      clear k4 r4 H3 q0 q1 z3
      have HZ : Hid (Five w4 X0 kind k r nd s) := z4
      obtain ⟨z0, z1, z2, z3, z5⟩ := z4
      have HP : Hid (w4.cell? ⟨P0, 0, none⟩ = some (.int .i64 p.r) ∧ w4.cell? ⟨P0, 1, none⟩ = some (.int .i64 p.n)) := ⟨p0, p1⟩
      clear p0 p1
      obtain ⟨aV, cV, rfl, hV⟩ := R4.out.shape
      have HgX : Hid (0 < (votesUp f 0 512).length → ∃ g, aV = some ⟨g, 0, none⟩) := hV
      go_upto_if 38 with fail
      go_cut [] from 36 to 50 (fun wy => ∃ p' f', AM w wy A M (n + 1) p' f' ∧ Low p' f' ∧ Risen f f' ∧ less p' p = false ∧ Kept (fun y => y ≠ A ∧ y ≠ M) w4 wy)
      case first =>
        by_cases hkind : kind = 1
        · subst hkind
          go_wp2_with fail
          refine Calls.mono (prepare_any H4.out.ac ⟨r, nd⟩ _) ?_
          rintro e w5 ⟨v5, rfl, -, h5, k5, -⟩
          have H5 := (H4.out.step h5 k5)
          go_wp2_with fail
          go_meet
          refine ⟨_, f, ⟨H5.ac.mono (Nat.le_succ _), H5.kept, H5.a0, H5.m0⟩, ?_, Risen.refl _, ?_, k5⟩
          · split
            · rename_i hl; exact HL.out.higher (less_asym hl)
            · exact HL.out
          · split
            · rename_i hl; exact less_asym hl
            · exact less_self _
        · go_wp2_with fail
          refine Calls.mono (accept_any H4.out.ac (by omega) ⟨r, nd⟩ _ _ _ rfl) ?_
          rintro e w5 ⟨rfl, h5, k5⟩
          have H5 := (H4.out.step h5 k5)
          go_wp2_with fail
          go_meet
          refine ⟨_, _, H5, ?_, ?_, ?_, k5⟩
          all_goals
            split
            · first | exact HL.out | exact Risen.refl _ | exact less_self _
            · rename_i hb
              have hb' : less ⟨r, nd⟩ p = false := by
                cases hl : less ⟨r, nd⟩ p
                · rfl
                · simp [hl] at hb
              first | exact HL.out.vote hb' _ _ | exact HL.out.risen hb' _ _ | exact hb'
      case rest =>
      obtain ⟨p', f', h5, hl5, hr5, hp5, k5⟩ := hcut
      have H5 : Hid (AM w wc A M (n + 1) p' f') := h5
      have R5 : Hid (VR wc (.slice aV (votesUp f 0 512).length cV) (votesUp f 0 512)) := R4.out.kept k5 (H4.out.vr R4.out)
      have P5 := cell_kept k5 HP.out.1 hAP.out
      have P6 := cell_kept k5 HP.out.2 hAP.out
      have hlow : Hid (∀ k (hk : k < (votesUp f' 0 512).length), less p' (votesUp f' 0 512)[k].b = false) := fun k hk => low_at hl5 0 512 k hk
      have hris : Hid (∀ k m (hk : k < (votesUp f' 0 512).length) (hm : m < (votesUp f 0 512).length), (votesUp f 0 512)[m].s = (votesUp f' 0 512)[k].s → less (votesUp f' 0 512)[k].b (votesUp f 0 512)[m].b = false) := fun k m hk hm e => risen_at hr5 0 512 k m hk hm e
      have hLow : Hid (Low p' f') := hl5
      have hXl : Hid ((votesUp f 0 512).length ≤ 512) := Nat.le_trans (votesUp_len _ _ _) (by omega)
      have hYl : Hid ((votesUp f' 0 512).length ≤ 512) := Nat.le_trans (votesUp_len _ _ _) (by omega)
      clear h5 hl5 hr5 k5 HZ HP H4 R4 HL z0 z1 z2 z3 z5 hAP hAX hV
      generalize hX : votesUp f 0 512 = X at *
      generalize hY : votesUp f' 0 512 = Y at *
      have R5' := R5
      have q0 : ∀ W, Kept (fun _ => True) wc W → W.cell? ⟨P0, 0, none⟩ = some (.int .i64 p.r) := fun W k => cell_kept k P5 trivial
      have q1 : ∀ W, Kept (fun _ => True) wc W → W.cell? ⟨P0, 1, none⟩ = some (.int .i64 p.n) := fun W k => cell_kept k P6 trivial
      clear P5 P6
      have kd : Kept (fun _ => True) wc wc.drew := (Kept.refl _ _).drew
      have cl : ∀ W, Calls Try.prog 16 #[.agg #[.int .i64 p'.r, .int .i64 p'.n], .agg #[.int .i64 p.r, .int .i64 p.n]] W (fun e w' => e = .returned (.bool false) ∧ Kept (fun _ => True) W w') := fun W => by have := less_any (w := W) p' p; rw [hp5] at this; exact this
      go_upto_if 54 with fail
      go_cut [54] from 51 to 53 (fun t wx => t = .bool false ∧ Kept (fun _ => True) wc wx)
      case first =>
        go_wp2_with fail
        go_region_held (fun W => Kept (fun _ => True) wc W) (assumption) (first
          | (go_at_call 15; refine Calls.mono (promised_any (H5.out.ahead kd).ac) ?_; rintro e w6 ⟨rfl, k6⟩; have k6' : Kept (fun _ => True) wc w6 := kd.trans k6)
          | (go_at_call 16; refine Calls.mono (cl _) ?_; rintro e w7 ⟨rfl, k7⟩; have k7' : Kept (fun _ => True) wc w7 := k6'.trans k7))
        all_goals (go_wp2_with fail; go_meet; exact ⟨rfl, k7'⟩)
      case rest =>
      obtain ⟨rfl, k6⟩ := hcut
      have H6 : Hid (AM w wc A M (n + 1) p' f') := H5.out.ahead k6
      have R6 : Hid (VR wc (.slice aV X.length cV) X) := R5.out.all k6
      clear q0 q1 kd cl H5 R5 R5' k6 hp5
      go_wp2_with fail
      refine Calls.mono (votes_any H6.out.ac 0) ?_
      rintro e w7 ⟨v8, rfl, r8, k8, -⟩
      have H7 : Hid (AM w w7 A M (n + 1) p' f') := H6.out.ahead k8
      have R7 : Hid (VR w7 (.slice aV X.length cV) X) := R6.out.all k8
      have r8' : VR w7 v8 Y := by rw [← hY]; exact r8
      obtain ⟨aY, cY, rfl, hgY⟩ := r8'.shape
      have Y7 : Hid (VR w7 (.slice aY Y.length cY) Y) := r8'
      have HgY : Hid (0 < Y.length → ∃ g, aY = some ⟨g, 0, none⟩) := hgY
      have hX5 : X.length ≤ 512 := hXl.out
      have hY5 : Y.length ≤ 512 := hYl.out
      clear r8 r8' k8 H6 R6 hgY hX hY hXl hYl
      go_wp2_with fail
      go_loopw [9] (fun t wr => ∃ j : Nat, j ≤ Y.length ∧ t = .int .i64 j ∧ Kept (fun _ => True) w7 wr) (fun t _ => Y.length - (intOf t).toNat)
      case atStart => exact ⟨0, Nat.zero_le _, rfl, Kept.refl _ _⟩
      case round =>
        obtain ⟨j, hj, rfl, kj⟩ := hrel
        by_cases hjl : j < Y.length
        · obtain ⟨G8, rfl⟩ := HgY.out (by omega)
          obtain ⟨y0, y1, y2, -⟩ := Y7.out.cells j hjl
          have hly := hlow.out j hjl
          have hry := hris.out j
          have HRY : Hid (∀ m (hm : m < X.length), X[m].s = Y[j].s → less Y[j].b X[m].b = false) := fun m hm e => hry m hjl hm e
          clear hry
          generalize Y[j] = y at *
          obtain ⟨ys, ⟨yr, yn⟩, yv⟩ := y
          simp only at y0 y1 y2
          have z0 : ∀ W, Kept (fun _ => True) w7 W → W.cell? ⟨G8, j * 4, none⟩ = some (.int .i64 ys) := fun W k => cell_kept k y0 trivial
          have z1 : ∀ W, Kept (fun _ => True) w7 W → W.cell? ⟨G8, j * 4 + 1, none⟩ = some (.int .i64 yr) := fun W k => cell_kept k y1 trivial
          have z2 : ∀ W, Kept (fun _ => True) w7 W → W.cell? ⟨G8, j * 4 + 2, none⟩ = some (.int .i64 yn) := fun W k => cell_kept k y2 trivial
          clear y0 y1 y2
          have j1 : (j : Int) < (Y.length : Int) := by omega
          have j0 : (0 : Int) ≤ (j : Int) := by omega
          have kd : Kept (fun _ => True) w7 wr.drew := kj.drew
          have Hd : Hid (AM w wr.drew A M (n + 1) p' f') := H7.out.ahead kd
          have cl : ∀ W, Calls Try.prog 16 #[.agg #[.int .i64 p'.r, .int .i64 p'.n], .agg #[.int .i64 yr, .int .i64 yn]] W (fun e w' => e = .returned (.bool false) ∧ Kept (fun _ => True) W w') := fun W => by have := less_any (w := W) p' ⟨yr, yn⟩; rw [hly] at this; exact this
          go_upto_if 70 with fail
          go_cut [70] from 63 to 69 (fun t wx => t = .bool false ∧ Kept (fun _ => True) w7 wx)
          case first =>
            go_wp2_with fail
            go_region_held (fun W => Kept (fun _ => True) w7 W) (assumption) (first
              | (go_at_call 15; refine Calls.mono (promised_any Hd.out.ac) ?_; rintro e w8 ⟨rfl, k8⟩; have k8' : Kept (fun _ => True) w7 w8 := kd.trans k8)
              | (go_at_call 16; refine Calls.mono (cl _) ?_; rintro e w9 ⟨rfl, k9⟩; have k9' : Kept (fun _ => True) w7 w9 := k8'.trans k9))
            all_goals (go_wp2_with fail; go_meet; exact ⟨rfl, k9'⟩)
          case rest =>
          obtain ⟨rfl, k10⟩ := hcut
          clear cl kd Hd hly kj
          go_wp2_with fail
          go_loopw [10] (fun t wr => ∃ m : Nat, m ≤ X.length ∧ t = .int .i64 m ∧ Kept (fun _ => True) w7 wr) (fun t _ => X.length - (intOf t).toNat)
          case atStart => exact ⟨0, Nat.zero_le _, rfl, k10⟩
          case round =>
            obtain ⟨m, hm, rfl, km⟩ := hrel
            clear k10
            by_cases hml : m < X.length
            · obtain ⟨G7, rfl⟩ := HgX.out (by omega)
              obtain ⟨x0, x1, x2, -⟩ := R7.out.cells m hml
              have hrx := HRY.out m hml
              generalize X[m] = x at *
              obtain ⟨xs, ⟨xr, xn⟩, xv⟩ := x
              simp only at x0 x1 x2 hrx
              have u0 : ∀ W, Kept (fun _ => True) w7 W → W.cell? ⟨G7, m * 4, none⟩ = some (.int .i64 xs) := fun W k => cell_kept k x0 trivial
              have u1 : ∀ W, Kept (fun _ => True) w7 W → W.cell? ⟨G7, m * 4 + 1, none⟩ = some (.int .i64 xr) := fun W k => cell_kept k x1 trivial
              have u2 : ∀ W, Kept (fun _ => True) w7 W → W.cell? ⟨G7, m * 4 + 2, none⟩ = some (.int .i64 xn) := fun W k => cell_kept k x2 trivial
              clear x0 x1 x2
              have m1 : (m : Int) < (X.length : Int) := by omega
              have m0 : (0 : Int) ≤ (m : Int) := by omega
              by_cases hs : xs = ys
              · subst hs
                have hl := hrx rfl
                have cl : ∀ W, Calls Try.prog 16 #[.agg #[.int .i64 yr, .int .i64 yn], .agg #[.int .i64 xr, .int .i64 xn]] W (fun e w' => e = .returned (.bool false) ∧ Kept (fun _ => True) W w') := fun W => by have := less_any (w := W) ⟨yr, yn⟩ ⟨xr, xn⟩; rw [hl] at this; exact this
                have kd : Kept (fun _ => True) w7 wr.drew := km.drew
                clear hrx hl
                go_wp2_with fail
                go_region_held (fun W => Kept (fun _ => True) w7 W) (assumption) (first
                  | (go_at_call 16; refine Calls.mono (cl _) ?_; rintro e w9 ⟨rfl, k9⟩; have k9' : Kept (fun _ => True) w7 w9 := kd.trans k9))
                all_goals
                  go_wp2_with fail
                  go_roundw
                  case rel => exact ⟨m + 1, by omega, by go_num, k9'⟩
                  case measure => simp [intOf]; omega
              · have hs1 : (xs == ys) = false := by simpa using hs
                have hs2 : decide (xs = ys) = false := by simpa using hs
                have t0 := u0 _ km
                have t1 := z0 _ km
                clear hrx u0 u1 u2 z0 z1 z2
                go_wp2_with fail
                go_quiet (fail)
                go_wp2_with fail
                go_roundw
                case rel => exact ⟨m + 1, by omega, by go_num, km.drewN _⟩
                case measure => simp [intOf]; omega
            · have hmx : m = X.length := by omega
              subst hmx
              go_wp2_with fail
              go_roundw
              case rel => exact ⟨j + 1, by omega, by go_num, km⟩
              case measure => simp [intOf]; omega
        · have hjy : j = Y.length := by omega
          subst hjy
          go_wp2_with fail
          go_roundw
          case rel => exact ⟨i + 1, n + 1, p', f', by omega, by omega, by go_num, H7.out.ahead kj, hLow.out⟩
          case measure => simp [intOf]; omega
    · have hex : ¬ (i : Int) < (na : Int) ∨ ((i : Int) < (na : Int) ∧ ¬ (i : Int) < 60) := by omega
      clear HS hlt
      rcases hex with hex | hex
      all_goals
        go_wp2_with fail
        refine Calls.mono known_any ?_
        rintro e w2 ⟨rfl, k2⟩
        go_wp2
        go_ret
        exact ⟨rfl, HM.out.kept.trans k2⟩

end Go.Proofs.Ytnogpjhcpdngcaa
