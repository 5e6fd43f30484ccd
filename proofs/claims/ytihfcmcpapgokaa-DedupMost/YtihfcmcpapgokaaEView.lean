/-
  Texts that are looked at, in a row that begins anywhere; the book's Texts of such.
-/
import Derived.Test.YtihfcmcpapgokaaE9
namespace Go.Proofs.Ytihfcmcpapgokaa
open Go.RowKit

/-- A slice of texts that is looked at. -/
def Vw (w : World) (u : Value) (ss : List (List UInt8)) : Prop :=
  ∃ ao cap, u = .slice ao ss.length cap ∧ (0 < ss.length → ∃ b off cur fr, ao = some ⟨b, off, none⟩ ∧ w.heap[b]? = some (.cells cur 9 fr) ∧ ∀ i (h : i < ss.length), w.cell? ⟨b, off + i, none⟩ = some (.string ⟨(ss[i]).toArray⟩))
theorem Vw.nil (w : World) : Vw w (.slice none 0 0) [] := ⟨none, 0, rfl, fun h => by simp at h⟩
theorem Vw.kept {p : Nat → Prop} {w w' : World} {u : Value} {ss : List (List UInt8)} (h : Vw w u ss) (k : Kept p w w') (hp : ∀ b cur fr, w.heap[b]? = some (.cells cur 9 fr) → p b) : Vw w' u ss := by
  obtain ⟨ao, cap, rfl, hc⟩ := h
  refine ⟨ao, cap, rfl, fun h0 => ?_⟩
  obtain ⟨b, off, cur, fr, e, hb, hcell⟩ := hc h0
  exact ⟨b, off, cur, fr, e, (k.block b (lt_of_block hb) (hp b cur fr hb)).trans hb, fun i hi => cell_kept k (hcell i hi) (hp b cur fr hb)⟩
theorem Vw.all {w w' : World} {u : Value} {ss : List (List UInt8)} (h : Vw w u ss) (k : Kept (fun _ => True) w w') : Vw w' u ss := h.kept k (fun _ _ _ _ => trivial)
/-- Through a call that turns a table. -/
theorem Vw.step {w w' : World} {B : Nat} {v v' : Value} {m : Int} {xs ys : List La} {u : Value} {ss : List (List UInt8)} (h : Vw w u ss) (t : Pt w B v m xs) (k : PS w w' B v v' m ys) : Vw w' u ss :=
  h.kept k.kept (fun b cur fr hb => ⟨fun e => by subst e; rw [t.self] at hb; simp at hb, own_type t.own hb (by decide)⟩)
theorem Txs.view {w : World} {base : Nat} {u : Value} {ss : List (List UInt8)} (h : Txs w base u ss) : Vw w u ss := by
  have hs := h.shape
  obtain ⟨ao, cap, rfl, hc, hg⟩ := hs
  refine ⟨ao, cap, rfl, fun h0 => ?_⟩
  obtain ⟨g, rfl⟩ := hg h0
  rcases h.2 with ⟨hv, _⟩ | ⟨g', cap', cur, hv, _, hh, _⟩
  · simp at hv
  · simp at hv
    obtain ⟨rfl, rfl⟩ := hv
    exact ⟨g, 0, cur, (0, 0), rfl, hh, fun i hi => by rw [Nat.zero_add]; exact h.cell i hi⟩
/-- All but the first. -/
theorem Txs.rest {w : World} {base g n cap : Nat} {ss : List (List UInt8)} (h : Txs w base (.slice (some ⟨g, 0, none⟩) n cap) ss) : Vw w (.slice (some ⟨g, 1, none⟩) (ss.drop 1).length (cap - 1)) (ss.drop 1) := by
  refine ⟨_, _, rfl, fun h0 => ?_⟩
  obtain ⟨_, _, e, hb⟩ := h.view
  rw [List.length_drop] at h0
  injection e with e1 e2 e3
  obtain ⟨b, off, cur, fr, e, hb, hcell⟩ := hb (by omega)
  rw [← e1] at e
  cases e
  refine ⟨_, _, cur, fr, rfl, hb, fun i hi => ?_⟩
  have := hcell (1 + i) (by rw [List.length_drop] at hi; omega)
  rw [Nat.zero_add] at this
  rw [this, List.getElem_drop]
theorem Txs.spot {w : World} {base n cap : Nat} {ao : Option Addr} {ss : List (List UInt8)} (h : Txs w base (.slice ao n cap) ss) (h0 : 0 < ss.length) : ∃ g, ao = some ⟨g, 0, none⟩ ∧ n ≤ cap := by
  obtain ⟨ao', cap', e, hc, hg⟩ := h.shape
  injection e with e1 e2 e3
  subst e1 e2 e3
  obtain ⟨g, rfl⟩ := hg h0
  exact ⟨g, rfl, hc⟩
/-- What Go makes of it. -/
theorem run_rest {g n cap : Nat} (h1 : 1 ≤ n) (_ : n ≤ cap) (h2 : 2 ≤ cap) (w0 : World) : (Instr.slice 33 (.slice (some ⟨g, 0, none⟩) n cap) (some (.int .i64 1)) none none).run Try.prog w0 = .ok (.slice (some ⟨g, 1, none⟩) (n - 1) (cap - 1)) w0 := by
  have := run_slice_l (P := Try.prog) w0 33 (some ⟨g, 0, none⟩) n cap Try.underlying33 .i64 1 (by omega) (by omega)
  rw [this, size_text]
  have e1 : ¬ (cap = 1) := by omega
  simp [Result.andThen, sliced, Addr.add, e1]

set_option maxRecDepth 100000 in
set_option maxHeartbeats 1000000 in
theorem texts_view {w : World} {b1 : Nat} {v1 v2 : Value} {xs ys : List (List UInt8)} (h1 : Txs w b1 v1 xs) (h2 : Vw w v2 ys) (hl : xs.length ≤ 1000000) :
    Calls Try.prog 13 #[v1, v2] w fun e w' => e = .returned (.bool (decide (xs = ys))) ∧ ∃ m, w' = w.drewN m := by
  obtain ⟨a1, c1, rfl, -, g1⟩ := h1.shape
  obtain ⟨a2, c2, rfl, g2⟩ := h2
  have H1 : Hid (Txs w b1 (.slice a1 xs.length c1) xs) := h1
  have H2 : Hid (0 < ys.length → ∃ b off cur fr, a2 = some ⟨b, off, none⟩ ∧ w.heap[b]? = some (.cells cur 9 fr) ∧ ∀ i (h : i < ys.length), w.cell? ⟨b, off + i, none⟩ = some (.string ⟨(ys[i]).toArray⟩)) := g2
  have G1 : Hid (0 < xs.length → ∃ g, a1 = some ⟨g, 0, none⟩) := g1
  clear h1 g1 g2
  by_cases hn : xs.length = ys.length
  · have hn' : (xs.length : Int) = (ys.length : Int) := by omega
    go_enter Try.func13, Try.ntmps13
    go_wp2
    go_loopw [5] (fun t wr => ∃ k m : Nat, k ≤ xs.length ∧ xs.take k = ys.take k ∧ t = .int .i64 k ∧ wr = w.drewN m) (fun t _ => xs.length - (intOf t).toNat)
    case atStart => exact ⟨0, 0, Nat.zero_le _, rfl, rfl, rfl⟩
    case round =>
      obtain ⟨k, m, hk, hE, rfl, rfl⟩ := hrel
      have HE : Hid (xs.take k = ys.take k) := hE
      clear hE
      by_cases hlt : k < xs.length
      · obtain ⟨G, rfl⟩ := G1.out (by omega)
        obtain ⟨b2, off2, _, _, rfl, -, hcell⟩ := H2.out (by omega)
        have q1 := H1.out.cell k hlt
        have q2 := hcell k (by omega)
        have hkl : (k : Int) < (xs.length : Int) := by omega
        have hkl2 : (k : Int) < (ys.length : Int) := by omega
        have hk0 : (0 : Int) ≤ (k : Int) := by omega
        clear hcell
        by_cases he : xs[k] = ys[k]'(by omega)
        · have HT : Hid (xs.take (k + 1) = ys.take (k + 1)) := by
            show _ = _
            rw [List.take_succ_eq_append_getElem hlt, List.take_succ_eq_append_getElem (by omega), HE.out, he]
          rw [← he] at q2
          generalize xs[k] = y at *
          clear he
          go_wp2
          go_quiet (fail)
          go_wp2
          go_roundw
          case rel => exact ⟨k + 1, _, by omega, HT.out, by go_num, rfl⟩
          case measure => simp [intOf]; omega
        · have hne : (xs[k] == ys[k]'(by omega)) = false := beq_eq_false_iff_ne.2 he
          have HX : Hid (xs ≠ ys) := fun e => he (by subst e; rfl)
          generalize xs[k] = x at *
          generalize ys[k]'(by omega) = y at *
          clear he
          go_wp2
          go_quiet (fail)
          go_wp2
          go_ret
          exact ⟨by rw [decide_eq_false HX.out]; rfl, _, drew_two _ _ _⟩
      · have hkl : ¬ ((k : Int) < (xs.length : Int)) := by omega
        go_wp2
        go_ret
        refine ⟨?_, m, rfl⟩
        have e : xs = ys := by
          have := HE.out
          rwa [List.take_of_length_le (by omega), List.take_of_length_le (by omega)] at this
        rw [decide_eq_true e]
        rfl
  · have hn' : ((xs.length : Int) == (ys.length : Int)) = false := by simp; omega
    have HX : Hid (xs ≠ ys) := fun e => hn (by rw [e])
    go_enter Try.func13, Try.ntmps13
    go_wp2
    go_ret
    exact ⟨by rw [decide_eq_false HX.out]; rfl, 0, rfl⟩

end Go.Proofs.Ytihfcmcpapgokaa
