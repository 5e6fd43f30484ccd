/-
  DiskPlays: whatever the calls: true, and nothing old is written.
-/
import Derived.Test.YtabemdmapadaoaaDPair
import Derived.Test.YtabemdmapadaoaaDBook
import Derived.Test.YtabemdmapadaoaaDCut
import Derived.Test.YtabemdmapadaoaaDAsks
namespace Go.Proofs.Ytabemdmapadaoaa
open Go.RowKit

theorem has_full {w : World} {base R : Nat} {X : List UInt8} (h : w.ownsRow base 5 1 (.slice (some ⟨R, 0, none⟩) (X.length + 80) (X.length + 80)) (X.length + 80) (cells (full X))) : Has w (some ⟨R, 0, none⟩) X := by
  intro _
  refine ⟨_, rfl, fun j hj => ?_⟩
  rw [WideShapes.add_plain, Nat.zero_add, h.cellAt j (by omega), cells_getElem (full X) j (by rw [full_length]; omega)]
  congr 3
  simp [full, List.getElem_append_left hj]

set_option maxRecDepth 100000 in
set_option maxHeartbeats 4000000 in
theorem diskPlays_any {w : World} {a : Option Addr} {na ca : Nat} (ha : IsAsks w a na) :
    Calls Try.prog 4 #[.slice a na ca] w fun e w' => e = .returned (.bool true) ∧ Kept (fun _ => True) w w' := by
  have HA : Hid (IsAsks w a na) := ha
  clear ha
  go_enter Try.func4, Try.ntmps4
  go_wp2_with fail
  refine Calls.mono new_any ?_
  rintro e w1 ⟨rfl, d1, k1⟩
  have m1 : Hid (Mine 50 w w1 w.heap.size (.slice none 0 0) [] 0) := Mine.new d1 k1
  have hD : Hid (w.heap.size < w1.heap.size) := d1.lt
  clear d1 k1
  have p1 : Hid (Pair w (w1.alloc (.cells #[.slice none 0 0, .int .i64 0] 35)) w.heap.size (.slice none 0 0) [] 0 w1.heap.size (.slice none 0 0) [] 0) := by
    have k : Kept (fun _ => True) w1 (w1.alloc (.cells #[.slice none 0 0, .int .i64 0] 35)) := (Kept.refl _ _).alloc _
    have := hD.out
    exact ⟨m1.out.ahead k, ⟨⟨heap_alloc_new w1 _, World.ownsRow_nil _ _ _ _, by decide, by simp, by simp⟩, m1.out.kept.trans k, by omega, by simp [Value.ownBlock]⟩, by omega, by simp [Value.ownBlock], by simp [Value.ownBlock], by simp [Value.ownBlock]⟩
  obtain ⟨D, eD⟩ : ∃ D, D = w.heap.size := ⟨_, rfl⟩
  rw [← eD] at p1 ⊢
  clear eD m1 hD
  go_wp2
  go_loopw [5] (fun t wr => ∃ (k : Nat) (v1 v2 : Value) (P : List UInt8) (s : Nat), k ≤ 80 ∧ t = .int .i64 k ∧ P.length ≤ 100 * k ∧ Pair w wr D v1 P s w1.heap.size v2 P s) (fun t _ => 80 - (intOf t).toNat)
  case atStart => exact ⟨0, _, _, [], 0, Nat.zero_le _, rfl, Nat.zero_le _, p1.out⟩
  case round =>
    clear p1
    obtain ⟨k, v1, v2, P, s, hk, rfl, hP, hp⟩ := hrel
    have p : Hid (Pair w wr D v1 P s w1.heap.size v2 P s) := hp
    clear hp
    generalize w1.heap.size = E at *
    by_cases hlt : k < na ∧ k < 80
    · obtain ⟨hl1, hl2⟩ := hlt
      obtain ⟨ab, ao, kind, n, x, rfl, hab, hx0, hx1, hx2, aX, cX, X0, rfl, hX0, nX, lX⟩ := HA.out k hl1
      obtain ⟨X, hX, -, hHX, hcX, hsX⟩ := cut_to 100 hX0 nX lX
      replace hsX : ((100 : Int) < (X0.length : Int) ∧ ∀ w0, (Instr.slice 27 (.slice aX X0.length cX) none (some (.int .i64 100)) none).run Try.prog w0 = .ok (.slice aX X.length cX) w0) ∨ (¬ (100 : Int) < (X0.length : Int) ∧ X = X0) := hsX
      have q0 : wr.cell? ⟨ab, ao + k * 3, none⟩ = some (.int .i64 kind) := (kept_cell p.out.one.kept hab trivial).trans hx0
      have q1 : wr.cell? ⟨ab, ao + k * 3 + 1, none⟩ = some (.int .i64 n) := (kept_cell p.out.one.kept hab trivial).trans hx1
      have q2 : wr.cell? ⟨ab, ao + k * 3 + 2, none⟩ = some (.slice aX X0.length cX) := (kept_cell p.out.one.kept hab trivial).trans hx2
      have NX : Hid (aX = none → cX = 0) := nX
      have HX : Hid (Has w aX X) := hHX
      have g1 : (k : Int) < (na : Int) := by omega
      have g2 : (k : Int) < 80 := by omega
      have g0 : (0 : Int) ≤ (k : Int) := by omega
      clear hx0 hx1 hx2 hX0 nX hHX
      go_upto_if 30 with fail
      go_cut [] from 27 to 34 (fun wx => wx = wr.alloc (.cells #[.int .i64 kind, .int .i64 n, .slice aX X.length cX] 37))
      case first =>
        rcases hsX with ⟨gX, hsX⟩ | ⟨gX, rfl⟩
        all_goals (go_wp2_with fail; go_meet; rfl)
      case rest =>
      subst hcut
      clear hsX q0 q1 q2
      obtain ⟨G, eG⟩ : ∃ G, G = wr.heap.size := ⟨_, rfl⟩
      have r2 := heap_alloc_new wr (.cells #[.int .i64 kind, .int .i64 n, .slice aX X.length cX] 37)
      have p2 : Hid (Pair w (wr.alloc (.cells #[.int .i64 kind, .int .i64 n, .slice aX X.length cX] 37)) D v1 P s E v2 P s) := p.out.ahead ((Kept.refl _ _).alloc _)
      have HG : Hid ((D < G ∧ ∀ x, v1.ownBlock = some x → x < G) ∧ (E < G ∧ ∀ x, v2.ownBlock = some x → x < G) ∧ w.heap.size ≤ G) := by rw [eG]; exact ⟨⟨p.out.one.now.lt, p.out.one.now.rowlt⟩, ⟨p.out.two.now.lt, p.out.two.now.rowlt⟩, p.out.one.kept.size⟩
      rw [← eG] at r2 ⊢
      generalize wr.alloc (.cells #[.int .i64 kind, .int .i64 n, .slice aX X.length cX] 37) = w2 at *
      clear eG p
      have R2 : Hid (w2.heap[G]? = some (.cells #[.int .i64 kind, .int .i64 n, .slice aX X.length cX] 37 (0, 0))) := r2
      have q0 : w2.cell? ⟨G, 0, none⟩ = some (.int .i64 kind) := by simp [World.cell?, r2]
      have q1 : w2.cell? ⟨G, 1, none⟩ = some (.int .i64 n) := by simp [World.cell?, r2]
      have q2 : w2.cell? ⟨G, 2, none⟩ = some (.slice aX X.length cX) := by simp [World.cell?, r2]
      clear r2
      by_cases h1 : kind = 1
      · subst h1
        have c := roomy_any (cap := cX) (HX.out.kept p2.out.one.kept (fun _ _ => trivial)) (by omega)
        go_wp2_with fail
        refine Calls.mono c ?_
        rintro e w3 ⟨R, rfl, ho3, k3⟩
        clear c
        have hG2 : Hid (G < w2.heap.size) := lt_of_block R2.out
        have hR : Hid (w2.heap.size ≤ R) := (ho3.lt R rfl).1
        have p3 : Hid (Pair w w3.drew D v1 P s E v2 P s) := p2.out.ahead (k3.trans ((Kept.refl _ _).drewN 1))
        have q3 : w3.drew.cell? ⟨G, 2, none⟩ = some (.slice aX X.length cX) := (kept_cell k3 hG2.out trivial).trans q2
        have HO3 : Hid (w3.drew.ownsRow w2.heap.size 5 1 (.slice (some ⟨R, 0, none⟩) (X.length + 80) (X.length + 80)) (X.length + 80) (cells (full X))) := ho3.drew
        have H3 : Hid (w2.heap.size ≤ w3.drew.heap.size) := k3.size
        have hfx : Hid (Has w3.drew (some ⟨R, 0, none⟩) X) := has_full HO3.out
        have hsl : ∀ w0, (Instr.slice 27 (.slice (some ⟨R, 0, none⟩) (X.length + 80) (X.length + 80)) none (some (.int .i64 (X.length : Int))) none).run Try.prog w0 = .ok (.slice (some ⟨R, 0, none⟩) X.length (X.length + 80)) w0 := slice_take (some ⟨R, 0, none⟩) (X.length + 80) (X.length + 80) X.length (by omega) (by simp)
        clear q0 q1 q2 ho3 k3 p2
        go_wp2
        go_region_held (fun W => W.cell? ⟨G, 2, none⟩ = some (.slice aX X.length cX)) (assumption) (first
          | (go_at_call 10; refine Calls.mono (append_any (cap := X.length + 80) p3.out.one.now hfx.out (by simp) (by omega)) ?_; rintro e w4 ⟨rfl, v1', s4⟩; have p4 : Hid (Pair w w4 D v1' (P ++ X) s E v2 P s) := p3.out.stepOne s4; have q4 : w4.cell? ⟨G, 2, none⟩ = some (.slice aX X.length cX) := (kept_cell s4.kept (by have := hG2.out; have := H3.out; omega) ⟨by have := HG.out.1.1; omega, fun e => by have := HG.out.1.2 _ e; omega⟩).trans q3; have HO4 : Hid (w4.ownsRow w2.heap.size 5 1 (.slice (some ⟨R, 0, none⟩) (X.length + 80) (X.length + 80)) (X.length + 80) (cells (full X))) := own_kept HO3.out s4.kept (fun k hk => ⟨by have := (HO3.out.lt k hk).1; have := HG.out.1.1; have := hG2.out; omega, fun e => by have := HG.out.1.2 _ e; have := (HO3.out.lt k hk).1; have := hG2.out; omega⟩); have H4 : Hid (w2.heap.size ≤ w4.heap.size) := Nat.le_trans H3.out s4.kept.size; clear s4 q3)
          | (go_at_call 17; refine Calls.mono (rappend_any (cap := cX) p4.out.two.now (HX.out.kept p4.out.one.kept (fun _ _ => trivial)) NX.out (by omega)) ?_; rintro e w5 ⟨rfl, v2', s5⟩; have p5 : Hid (Pair w w5 D v1' (P ++ X) s E v2' (P ++ X) s) := p4.out.stepTwo s5; have q5 : w5.cell? ⟨G, 2, none⟩ = some (.slice aX X.length cX) := (kept_cell s5.kept (by have := hG2.out; have := H4.out; omega) ⟨by have := HG.out.2.1.1; omega, fun e => by have := HG.out.2.1.2 _ e; omega⟩).trans q4; have HO5 : Hid (w5.ownsRow w2.heap.size 5 1 (.slice (some ⟨R, 0, none⟩) (X.length + 80) (X.length + 80)) (X.length + 80) (cells (full X))) := own_kept HO4.out s5.kept (fun k hk => ⟨by have := (HO4.out.lt k hk).1; have := HG.out.2.1.1; have := hG2.out; omega, fun e => by have := HG.out.2.1.2 _ e; have := (HO4.out.lt k hk).1; have := hG2.out; omega⟩); clear s5 q4)
          | (go_at_call 18; refine Calls.mono (intact_any (d := cX) HO5.out (HX.out.kept p5.out.one.kept (fun _ _ => trivial)) (by omega)) ?_; rintro e w6 ⟨rfl, n6, hw6⟩; have q6 : w6.cell? ⟨G, 2, none⟩ = some (.slice aX X.length cX) := by rw [hw6]; exact q5))
        have p9 : Hid (Pair w (w5.drewN n6) D v1' (P ++ X) s E v2' (P ++ X) s) := p5.out.ahead ((Kept.refl _ _).drewN n6)
        clear p5 q6 q5 HO5 p4 p3 HO3 HO4 H3 H4 hfx hsl hR hG2 hw6
        generalize w5.drewN n6 = w9 at *
        obtain ⟨bo, bc, rfl, -, hbn⟩ := p9.out.two.now.shape
        obtain ⟨z0, z1, -, -⟩ := two_cell p9.out.two.now.self
        have hE0 : ∀ W, Kept (fun _ => True) w9 W → W.cell? ⟨E, 0, none⟩ = some (.slice bo (P ++ X).length bc) := fun W k => (kept_cell k p9.out.two.now.lt trivial).trans z0
        have hE1 : ∀ W, Kept (fun _ => True) w9 W → W.cell? ⟨E, 1, none⟩ = some (.int .i64 ((s : Nat) : Int)) := fun W k => (kept_cell k p9.out.two.now.lt trivial).trans z1
        have hcE : ∀ W, Kept (fun _ => True) w9 W → (convert 27 9 (.slice bo (P ++ X).length bc)).run Try.prog W = .ok (.string ⟨(P ++ X).toArray⟩) W := fun W k => conv_sl ⟨bo, bc, rfl, hbn, p9.out.two.now.has.kept k (fun _ _ => trivial)⟩
        have kd1 : Kept (fun _ => True) w9 w9.drew := (Kept.refl _ _).drew
        have lP : Hid ((P ++ X).length ≤ 100 * (k + 1)) := by show _ ≤ _; rw [List.length_append]; omega
        clear hbn z0 z1
        generalize (P ++ X) = P9 at *
        generalize (s) = s9 at *
        go_wp2_with fail
        go_region_held (fun W => Kept (fun _ => True) w9 W) (assumption) (first
          | (go_at_call 14; refine Calls.mono (bytes_any (p9.out.one.ahead kd1).now) ?_; rintro e w10 ⟨rfl, r10, k10⟩; have k10' : Kept (fun _ => True) w9 w10 := kd1.trans k10; have cv : (convert 27 9 (.slice (some ⟨w9.heap.size, 0, none⟩) P9.length P9.length)).run Try.prog w10 = .ok (.string ⟨P9.toArray⟩) w10 := conv_row (cap := P9.length) r10; have p10 : Hid (Pair w w10 D v1' P9 s9 E (.slice bo P9.length bc) P9 s9) := p9.out.ahead k10'; clear r10 k10)
          | (go_at_call 13; refine Calls.mono (safe_any p10.out.one.now) ?_; rintro e w10 ⟨rfl, rfl⟩))
        all_goals
          go_wp2_with fail
          go_roundw
          case rel => exact ⟨k + 1, _, _, P9, s9, by omega, by go_num, lP.out, p10.out⟩
          case measure => simp [intOf]; omega
      · by_cases h2 : kind = 2
        · subst h2
          have c := sync_any p2.out.one.now
          go_wp2_with fail
          refine Calls.mono c ?_
          rintro e w3 ⟨rfl, s3⟩
          clear c
          have p3 : Hid (Pair w w3 D v1 P P.length E v2 P s) := p2.out.stepOne s3
          clear s3 p2 q0 q1 q2
          have c := rsync_any p3.out.two.now
          go_wp2_with fail
          refine Calls.mono c ?_
          rintro e w9 ⟨rfl, s4⟩
          clear c
          obtain ⟨s9, hs9⟩ : ∃ s9, s9 = P.length := ⟨_, rfl⟩
          have p9 : Hid (Pair w w9 D v1 P s9 E v2 P s9) := by rw [hs9]; exact p3.out.stepTwo s4
          clear s4 p3 hs9
          obtain ⟨bo, bc, rfl, -, hbn⟩ := p9.out.two.now.shape
          obtain ⟨z0, z1, -, -⟩ := two_cell p9.out.two.now.self
          have hE0 : ∀ W, Kept (fun _ => True) w9 W → W.cell? ⟨E, 0, none⟩ = some (.slice bo (P).length bc) := fun W k => (kept_cell k p9.out.two.now.lt trivial).trans z0
          have hE1 : ∀ W, Kept (fun _ => True) w9 W → W.cell? ⟨E, 1, none⟩ = some (.int .i64 ((s9 : Nat) : Int)) := fun W k => (kept_cell k p9.out.two.now.lt trivial).trans z1
          have hcE : ∀ W, Kept (fun _ => True) w9 W → (convert 27 9 (.slice bo (P).length bc)).run Try.prog W = .ok (.string ⟨(P).toArray⟩) W := fun W k => conv_sl ⟨bo, bc, rfl, hbn, p9.out.two.now.has.kept k (fun _ _ => trivial)⟩
          have kd1 : Kept (fun _ => True) w9 w9.drew := (Kept.refl _ _).drew
          have lP : Hid ((P).length ≤ 100 * (k + 1)) := by show _ ≤ _; omega
          clear hbn z0 z1
          generalize (P) = P9 at *
          go_wp2_with fail
          go_region_held (fun W => Kept (fun _ => True) w9 W) (assumption) (first
            | (go_at_call 14; refine Calls.mono (bytes_any (p9.out.one.ahead kd1).now) ?_; rintro e w10 ⟨rfl, r10, k10⟩; have k10' : Kept (fun _ => True) w9 w10 := kd1.trans k10; have cv : (convert 27 9 (.slice (some ⟨w9.heap.size, 0, none⟩) P9.length P9.length)).run Try.prog w10 = .ok (.string ⟨P9.toArray⟩) w10 := conv_row (cap := P9.length) r10; have p10 : Hid (Pair w w10 D v1 P9 s9 E (.slice bo P9.length bc) P9 s9) := p9.out.ahead k10'; clear r10 k10)
            | (go_at_call 13; refine Calls.mono (safe_any p10.out.one.now) ?_; rintro e w10 ⟨rfl, rfl⟩))
          all_goals
            go_wp2_with fail
            go_roundw
            case rel => exact ⟨k + 1, _, _, P9, s9, by omega, by go_num, lP.out, p10.out⟩
            case measure => simp [intOf]; omega
        · by_cases h3 : kind = 3
          · subst h3
            have hG2 : Hid (G < w2.heap.size) := lt_of_block R2.out
            have q3 : w2.drew.cell? ⟨G, 1, none⟩ = some (.int .i64 n) := q1
            have p3 : Hid (Pair w w2.drew D v1 P s E v2 P s) := p2.out.ahead ((Kept.refl _ _).drewN 1)
            by_cases hn : 0 ≤ n ∧ n ≤ (P.length : Int)
            · obtain ⟨j, rfl⟩ : ∃ j : Nat, n = j := ⟨n.toNat, by omega⟩
              have hj : Hid (j ≤ P.length) := by show _ ≤ _; omega
              clear hn
              go_wp2_with fail
              clear p2 q0 q2 q1
              go_region_held (fun W => W.cell? ⟨G, 1, none⟩ = some (.int .i64 j)) (assumption) (first
                | (go_at_call 11; refine Calls.mono (cut_any p3.out.one.now j hj.out) ?_; rintro e w4 ⟨rfl, v1', s4⟩; have p4 : Hid (Pair w w4 D v1' (P.take j) (min s j) E v2 P s) := p3.out.stepOne s4; have q4 : w4.cell? ⟨G, 1, none⟩ = some (.int .i64 j) := (kept_cell s4.kept hG2.out ⟨by have := HG.out.1.1; omega, fun e => by have := HG.out.1.2 _ e; omega⟩).trans q3; have H4 : Hid (w2.heap.size ≤ w4.heap.size) := s4.kept.size; clear s4 q3)
                | (go_at_call 20; refine Calls.mono (rcut_any p4.out.two.now j hj.out) ?_; rintro e w5 ⟨rfl, v2', s5⟩; have p9 : Hid (Pair w w5 D v1' (P.take j) (min s j) E v2' (P.take j) (min s j)) := p4.out.stepTwo s5; have q5 : w5.cell? ⟨G, 1, none⟩ = some (.int .i64 j) := (kept_cell s5.kept (by have := hG2.out; have := H4.out; omega) ⟨by have := HG.out.2.1.1; omega, fun e => by have := HG.out.2.1.2 _ e; omega⟩).trans q4; clear s5 q4))
              have hlj : Hid ((P.take j).length ≤ 100 * (k + 1)) := by show _ ≤ _; simp; omega
              clear q5 p4 p3 H4 hG2
              generalize w5 = w9 at *
              generalize P.take j = P9 at *
              generalize min s j = s9 at *
              obtain ⟨bo, bc, rfl, -, hbn⟩ := p9.out.two.now.shape
              obtain ⟨z0, z1, -, -⟩ := two_cell p9.out.two.now.self
              have hE0 : ∀ W, Kept (fun _ => True) w9 W → W.cell? ⟨E, 0, none⟩ = some (.slice bo (P9).length bc) := fun W k => (kept_cell k p9.out.two.now.lt trivial).trans z0
              have hE1 : ∀ W, Kept (fun _ => True) w9 W → W.cell? ⟨E, 1, none⟩ = some (.int .i64 ((s9 : Nat) : Int)) := fun W k => (kept_cell k p9.out.two.now.lt trivial).trans z1
              have hcE : ∀ W, Kept (fun _ => True) w9 W → (convert 27 9 (.slice bo (P9).length bc)).run Try.prog W = .ok (.string ⟨(P9).toArray⟩) W := fun W k => conv_sl ⟨bo, bc, rfl, hbn, p9.out.two.now.has.kept k (fun _ _ => trivial)⟩
              have kd1 : Kept (fun _ => True) w9 w9.drew := (Kept.refl _ _).drew
              have lP : Hid ((P9).length ≤ 100 * (k + 1)) := hlj.out
              clear hbn z0 z1
              go_wp2_with fail
              go_region_held (fun W => Kept (fun _ => True) w9 W) (assumption) (first
                | (go_at_call 14; refine Calls.mono (bytes_any (p9.out.one.ahead kd1).now) ?_; rintro e w10 ⟨rfl, r10, k10⟩; have k10' : Kept (fun _ => True) w9 w10 := kd1.trans k10; have cv : (convert 27 9 (.slice (some ⟨w9.heap.size, 0, none⟩) P9.length P9.length)).run Try.prog w10 = .ok (.string ⟨P9.toArray⟩) w10 := conv_row (cap := P9.length) r10; have p10 : Hid (Pair w w10 D v1' P9 s9 E (.slice bo P9.length bc) P9 s9) := p9.out.ahead k10'; clear r10 k10)
                | (go_at_call 13; refine Calls.mono (safe_any p10.out.one.now) ?_; rintro e w10 ⟨rfl, rfl⟩))
              all_goals
                go_wp2_with fail
                go_roundw
                case rel => exact ⟨k + 1, _, _, P9, s9, by omega, by go_num, lP.out, p10.out⟩
                case measure => simp [intOf]; omega
            · have hn' : n < 0 ∨ (P.length : Int) < n := by omega
              clear hn
              go_wp2_with fail
              clear p2 q0 q2 q1
              have c1 := cut_bad p3.out.one.now n hn'
              have c2 := rcut_bad p3.out.two.now n hn'
              clear hn'
              go_region_held (fun W => W.cell? ⟨G, 1, none⟩ = some (.int .i64 n)) (assumption) (first
                | (go_at_call 11; refine Calls.mono c1 ?_; rintro e _ ⟨rfl, rfl⟩)
                | (go_at_call 20; refine Calls.mono c2 ?_; rintro e _ ⟨rfl, rfl⟩))
              have p9 : Hid (Pair w w2.drew D v1 P s E v2 P s) := p3.out
              clear q3 p3 c1 c2
              generalize w2.drew = w9 at *
              generalize s = s9 at *
              obtain ⟨bo, bc, rfl, -, hbn⟩ := p9.out.two.now.shape
              obtain ⟨z0, z1, -, -⟩ := two_cell p9.out.two.now.self
              have hE0 : ∀ W, Kept (fun _ => True) w9 W → W.cell? ⟨E, 0, none⟩ = some (.slice bo (P).length bc) := fun W k => (kept_cell k p9.out.two.now.lt trivial).trans z0
              have hE1 : ∀ W, Kept (fun _ => True) w9 W → W.cell? ⟨E, 1, none⟩ = some (.int .i64 ((s9 : Nat) : Int)) := fun W k => (kept_cell k p9.out.two.now.lt trivial).trans z1
              have hcE : ∀ W, Kept (fun _ => True) w9 W → (convert 27 9 (.slice bo (P).length bc)).run Try.prog W = .ok (.string ⟨(P).toArray⟩) W := fun W k => conv_sl ⟨bo, bc, rfl, hbn, p9.out.two.now.has.kept k (fun _ _ => trivial)⟩
              have kd1 : Kept (fun _ => True) w9 w9.drew := (Kept.refl _ _).drew
              have lP : Hid ((P).length ≤ 100 * (k + 1)) := by show _ ≤ _; omega
              clear hbn z0 z1
              generalize (P) = P9 at *
              go_wp2_with fail
              go_region_held (fun W => Kept (fun _ => True) w9 W) (assumption) (first
                | (go_at_call 14; refine Calls.mono (bytes_any (p9.out.one.ahead kd1).now) ?_; rintro e w10 ⟨rfl, r10, k10⟩; have k10' : Kept (fun _ => True) w9 w10 := kd1.trans k10; have cv : (convert 27 9 (.slice (some ⟨w9.heap.size, 0, none⟩) P9.length P9.length)).run Try.prog w10 = .ok (.string ⟨P9.toArray⟩) w10 := conv_row (cap := P9.length) r10; have p10 : Hid (Pair w w10 D v1 P9 s9 E (.slice bo P9.length bc) P9 s9) := p9.out.ahead k10'; clear r10 k10)
                | (go_at_call 13; refine Calls.mono (safe_any p10.out.one.now) ?_; rintro e w10 ⟨rfl, rfl⟩))
              all_goals
                go_wp2_with fail
                go_roundw
                case rel => exact ⟨k + 1, _, _, P9, s9, by omega, by go_num, lP.out, p10.out⟩
                case measure => simp [intOf]; omega
          · have c := crash_any p2.out.one.now n
            go_wp2_with fail
            refine Calls.mono c ?_
            rintro e w3 ⟨rfl, v1', s3⟩
            clear c
            have hG2 : Hid (G < w2.heap.size) := lt_of_block R2.out
            have p3 : Hid (Pair w w3 D v1' (P.take (left P.length s n)) (left P.length s n) E v2 P s) := p2.out.stepOne s3
            have q3 : w3.cell? ⟨G, 1, none⟩ = some (.int .i64 n) := (kept_cell s3.kept hG2.out ⟨by have := HG.out.1.1; omega, fun e => by have := HG.out.1.2 _ e; omega⟩).trans q1
            clear s3 p2 q0 q1 q2
            have c := rcrash_any p3.out.two.now n
            go_wp2_with fail
            refine Calls.mono c ?_
            rintro e w9 ⟨rfl, v2', s4⟩
            clear c
            have p9 : Hid (Pair w w9 D v1' (P.take (left P.length s n)) (left P.length s n) E v2' (P.take (left P.length s n)) (left P.length s n)) := p3.out.stepTwo s4
            have hlj : Hid ((P.take (left P.length s n)).length ≤ 100 * (k + 1)) := by show _ ≤ _; simp; omega
            clear s4 p3 q3 hG2
            generalize P.take (left P.length s n) = P9 at *
            generalize left P.length s n = s9 at *
            obtain ⟨bo, bc, rfl, -, hbn⟩ := p9.out.two.now.shape
            obtain ⟨z0, z1, -, -⟩ := two_cell p9.out.two.now.self
            have hE0 : ∀ W, Kept (fun _ => True) w9 W → W.cell? ⟨E, 0, none⟩ = some (.slice bo (P9).length bc) := fun W k => (kept_cell k p9.out.two.now.lt trivial).trans z0
            have hE1 : ∀ W, Kept (fun _ => True) w9 W → W.cell? ⟨E, 1, none⟩ = some (.int .i64 ((s9 : Nat) : Int)) := fun W k => (kept_cell k p9.out.two.now.lt trivial).trans z1
            have hcE : ∀ W, Kept (fun _ => True) w9 W → (convert 27 9 (.slice bo (P9).length bc)).run Try.prog W = .ok (.string ⟨(P9).toArray⟩) W := fun W k => conv_sl ⟨bo, bc, rfl, hbn, p9.out.two.now.has.kept k (fun _ _ => trivial)⟩
            have kd1 : Kept (fun _ => True) w9 w9.drew := (Kept.refl _ _).drew
            have lP : Hid ((P9).length ≤ 100 * (k + 1)) := hlj.out
            clear hbn z0 z1
            go_wp2_with fail
            go_region_held (fun W => Kept (fun _ => True) w9 W) (assumption) (first
              | (go_at_call 14; refine Calls.mono (bytes_any (p9.out.one.ahead kd1).now) ?_; rintro e w10 ⟨rfl, r10, k10⟩; have k10' : Kept (fun _ => True) w9 w10 := kd1.trans k10; have cv : (convert 27 9 (.slice (some ⟨w9.heap.size, 0, none⟩) P9.length P9.length)).run Try.prog w10 = .ok (.string ⟨P9.toArray⟩) w10 := conv_row (cap := P9.length) r10; have p10 : Hid (Pair w w10 D v1' P9 s9 E (.slice bo P9.length bc) P9 s9) := p9.out.ahead k10'; clear r10 k10)
              | (go_at_call 13; refine Calls.mono (safe_any p10.out.one.now) ?_; rintro e w10 ⟨rfl, rfl⟩))
            all_goals
              go_wp2_with fail
              go_roundw
              case rel => exact ⟨k + 1, _, _, P9, s9, by omega, by go_num, lP.out, p10.out⟩
              case measure => simp [intOf]; omega
    · have hcond : ¬ ((k : Int) < (na : Int)) ∨ ((k : Int) < (na : Int) ∧ ¬ ((k : Int) < 80)) := by omega
      rcases hcond with g1 | ⟨g1, g2⟩
      all_goals
        go_wp2_with fail
        refine Calls.mono (known_any _) ?_
        rintro e w10 ⟨rfl, k10⟩
        go_wp2
        go_ret
        exact ⟨rfl, p.out.one.kept.trans k10⟩

end Go.Proofs.Ytabemdmapadaoaa
