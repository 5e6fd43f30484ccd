/-
  Save.
-/
import Derived.Test.YtnogpjhcpdngcaaB6
import Derived.Test.YtnogpjhcpdngcaaXWr4
import Derived.Test.YtnogpjhcpdngcaaXWr3
namespace Go.Proofs.Ytnogpjhcpdngcaa
open Go.RowKit

def encBal (b : Bl) : List UInt8 := enc (u64 b.r) 8 ++ enc (u64 b.n) 8
def encVote (x : Vo) : List UInt8 := enc (u64 x.s) 4 ++ encBal x.b ++ enc (u64 x.v.size) 4 ++ x.v.data.toList
/-- An acceptor as bytes. -/
def savedHead (p : Bl) (n : Nat) : List UInt8 := encBal p ++ enc (u64 n) 4
def saved (p : Bl) (xs : List Vo) : List UInt8 := savedHead p xs.length ++ xs.flatMap encVote

theorem encBal_length (b : Bl) : (encBal b).length = 16 := by simp [encBal, enc_length]
theorem encVote_length (x : Vo) : (encVote x).length = 24 + x.v.size := by
  have : x.v.data.toList.length = x.v.size := rfl
  unfold encVote
  rw [List.length_append, List.length_append, List.length_append, enc_length, enc_length, encBal_length, this]
theorem savedHead_length (p : Bl) (n : Nat) : (savedHead p n).length = 20 := by simp [savedHead, enc_length, encBal_length]
theorem saved_take {xs : List Vo} {i : Nat} (hi : i < xs.length) : (xs.take (i + 1)).flatMap encVote = (xs.take i).flatMap encVote ++ encVote xs[i] := by
  rw [List.take_succ_eq_append_getElem hi, List.flatMap_append, List.flatMap_singleton]
theorem saved_most {xs : List Vo} {i : Nat} (hi : i < xs.length) : ((xs.take i).flatMap encVote).length + (24 + xs[i].v.size) ≤ (xs.flatMap encVote).length := by
  have e : xs.flatMap encVote = (xs.take (i + 1)).flatMap encVote ++ (xs.drop (i + 1)).flatMap encVote := by
    rw [← List.flatMap_append, List.take_append_drop]
  rw [e, saved_take hi]
  simp [encVote_length]

theorem vcell {w : World} {b : Nat} {x y z u : Value} {t : TypeId} {fr : Nat × Nat} (h : w.heap[b]? = some (.cells #[x, y, z, u] t fr)) :
    w.cell? ⟨b, 0, none⟩ = some x ∧ w.cell? ⟨b, 1, none⟩ = some y ∧ w.cell? ⟨b, 2, none⟩ = some z ∧ w.cell? ⟨b, 3, none⟩ = some u := ⟨by simp [World.cell?, h], by simp [World.cell?, h], by simp [World.cell?, h], by simp [World.cell?, h]⟩

set_option maxHeartbeats 400000 in
theorem writeBallot_any {w : World} {B : Nat} {G : Option Nat} {v : Value} {bs : List UInt8} (b : Bl) (h : Wr w B G v bs) (hb : (bs.length : Int) + 16 ≤ 140737488355328) :
    Calls Try.prog 33 #[.pointer (some ⟨B, 0, none⟩), .agg #[.int .i64 b.r, .int .i64 b.n]] w fun e w' => e = .returned (.tuple #[]) ∧ ∃ G' v', Wr w' B G' v' (bs ++ encBal b) ∧
      Kept (fun x => x ≠ B ∧ G ≠ some x) w w' ∧ (∀ x, G' = some x → G = some x ∨ w.heap.size ≤ x) := by
  have k1 : Kept (fun _ => True) w (w.alloc (.cells #[.int .i64 b.r, .int .i64 b.n] 26)) := (Kept.refl _ _).alloc _
  have hB := heap_alloc_new w (.cells #[.int .i64 b.r, .int .i64 b.n] 26)
  have hne : w.heap.size ≠ B ∧ G ≠ some w.heap.size := ⟨Ne.symm (Nat.ne_of_lt h.lt), fun e => Nat.lt_irrefl _ (h.rowlt _ e)⟩
  have h1 : Wr _ B G v bs := h.kept k1 trivial (fun _ _ => trivial)
  go_enter Try.func33, Try.ntmps33
  go_wp2_with fail
  have hs : w.heap.size ≤ (w.alloc (.cells #[.int .i64 b.r, .int .i64 b.n] 26)).heap.size := k1.size
  generalize hw1 : w.alloc (.cells #[.int .i64 b.r, .int .i64 b.n] 26) = w1 at *
  generalize hX : w.heap.size = X at hB hne ⊢
  clear hw1
  refine Calls.mono (weight_any b.r h1 (by omega)) ?_
  rintro e w2 ⟨rfl, G2, v2, h2, k2, n2⟩
  have hB2 := (k2.block X (lt_of_block hB) ⟨hne.1, hne.2⟩).trans hB
  obtain ⟨c0, c1⟩ := bcell hB2
  have h3 := weight_any b.n h2 (by simp [enc_length]; omega)
  clear hB hB2 h1 h2
  go_wp2_with fail
  refine Calls.mono h3 ?_
  rintro e w3 ⟨rfl, G3, v3, h4, k3, n3⟩
  go_wp2
  go_end0
  obtain ⟨k4, n4⟩ := grow_trans k2 n2 k3 n3
  refine ⟨rfl, G3, v3, by rw [encBal, ← List.append_assoc]; exact h4, (k1.mono (fun _ _ _ => trivial)).trans k4, fun x hx => ?_⟩
  rcases n4 x hx with h | h
  · exact .inl h
  · exact .inr (Nat.le_trans (by omega) h)

set_option maxRecDepth 100000 in
set_option maxHeartbeats 1000000 in
theorem save_any {w : World} {A M n : Nat} {p : Bl} {f : Vs} (h : Ac w A M n p f) (hb : (saved p (votesUp f 0 512)).length ≤ 140737488355328) :
    Calls Try.prog 13 #[.pointer (some ⟨A, 0, none⟩)] w fun e w' => ∃ D, e = .returned (.slice (some ⟨D, 0, none⟩) (saved p (votesUp f 0 512)).length (saved p (votesUp f 0 512)).length) ∧ w'.heap[D]? = some (.cells (cells (saved p (votesUp f 0 512))).toArray 5 (0, 0)) ∧ Kept (fun _ => True) w w' ∧ w.heap.size ≤ D := by
  have HA : Hid (Ac w A M n p f) := h
  have hX : (votesUp f 0 512).length ≤ 512 := Nat.le_trans (votesUp_len _ _ _) (by omega)
  have cv := votes_any h 0
  have HC : Hid (∀ xs, xs = votesUp f 0 512 → (saved p xs).length ≤ 140737488355328) := fun xs e => by rw [e]; exact hb
  unfold votesFrom at cv
  simp only [Int.toNat_zero] at cv
  clear h hb
  generalize votesUp f 0 512 = X at *
  have hb : (saved p X).length ≤ 140737488355328 := HC.out X rfl
  clear HC
  have hl : (saved p X).length = 20 + (X.flatMap encVote).length := by simp [saved, savedHead_length]
  rw [hl] at hb
  go_enter Try.func13, Try.ntmps13
  go_wp2_with fail
  refine Calls.mono cv ?_
  rintro e w1 ⟨v, rfl, r1, k1, -⟩
  obtain ⟨aX, cX, rfl, gX⟩ := r1.shape
  have H1 : Hid (Ac w1 A M n p f) := HA.out.all k1
  have K1 : Hid (Kept (fun _ => True) w w1) := k1
  have R1 : Hid (VR w1 (.slice aX X.length cX) X) := r1
  have GX : Hid (0 < X.length → ∃ g, aX = some ⟨g, 0, none⟩) := gX
  clear k1 r1 gX HA cv
  go_wp2_with fail
  refine Calls.mono newWriter_any ?_
  rintro e w2 ⟨rfl, h2, k2, l2⟩
  obtain ⟨c0, c1, c2, f0, f1, f2⟩ := acell (H1.out.all k2).self
  have HB : Hid (w1.heap.size ≤ w1.heap.size) := Nat.le_refl _
  generalize hBe : w1.heap.size = B at h2 HB ⊢
  have hB0 : Hid (w1.heap.size ≤ B) := Nat.le_of_eq hBe
  clear hBe HB
  have K2 : Hid (Kept (fun x => x < w1.heap.size) w1 w2) := k2.mono (fun _ _ _ => trivial)
  have c3 := writeBallot_any p h2 (by simp)
  clear h2 k2 l2
  go_wp2_with fail
  refine Calls.mono c3 ?_
  rintro e w3 ⟨rfl, G3, v3, h3, k3, n3⟩
  have K3 : Hid (Kept (fun x => x < w1.heap.size) w1 w3) := K2.out.then k3 (fun i hi _ => ⟨by have := hB0.out; omega, by simp⟩)
  have N3 : Hid (∀ x, G3 = some x → w1.heap.size ≤ x) := fun x hx => by
    rcases n3 x hx with h | h
    · cases h
    · exact Nat.le_trans K2.out.size h
  have c4 := wfour_any X.length h3 (by simp [encBal_length])
  clear h3 k3 n3 K2 c3
  go_wp2_with fail
  refine Calls.mono c4 ?_
  rintro e w4 ⟨rfl, G4, v4, h4, k4, n4⟩
  have K4 : Hid (Kept (fun x => x < w1.heap.size) w1 w4) := K3.out.then k4 (fun i hi _ => ⟨by have := hB0.out; omega, fun e => by have := N3.out i e; omega⟩)
  have N4 : Hid (∀ x, G4 = some x → w1.heap.size ≤ x) := fun x hx => by
    rcases n4 x hx with h | h
    · exact N3.out x h
    · exact Nat.le_trans K3.out.size h
  have H4 : Hid (Wr w4 B G4 v4 (savedHead p X.length)) := by
    show Wr _ _ _ _ _
    have e : ([] ++ encBal p) ++ enc (u64 X.length) 4 = savedHead p X.length := rfl
    rw [← e]
    exact h4
  clear h4 k4 n4 K3 N3 c4 c0 c1 c2 f0 f1 f2
  go_wp2_with fail
  go_loopw [22] (fun t wr => ∃ (i : Nat) (G : Option Nat) (u : Value), i ≤ X.length ∧ t = .int .i64 i ∧ Wr wr B G u (savedHead p X.length ++ (X.take i).flatMap encVote) ∧ Kept (fun x => x < w1.heap.size) w1 wr ∧ (∀ x, G = some x → w1.heap.size ≤ x)) (fun t _ => X.length - (intOf t).toNat)
  case atStart => exact ⟨0, G4, v4, Nat.zero_le _, rfl, by simpa using H4.out, K4.out, N4.out⟩
  case round =>
    obtain ⟨i, G, u, hi, rfl, hw, hk, hn⟩ := hrel
    have HW : Hid (Wr wr B G u (savedHead p X.length ++ (X.take i).flatMap encVote)) := hw
    have HK : Hid (Kept (fun x => x < w1.heap.size) w1 wr) := hk
    have HN : Hid (∀ x, G = some x → w1.heap.size ≤ x) := hn
    clear hw hk hn H4 K4 N4
    by_cases hlt : i < X.length
    · obtain ⟨g, rfl⟩ := GX.out (by omega)
      obtain ⟨y0, y1, y2, y3⟩ := R1.out.cells i hlt
      have hg : g < w1.heap.size := World.block_lt_of_cell? w1 _ y0
      have z0 := cell_kept HK.out y0 hg
      have z1 := cell_kept HK.out y1 hg
      have z2 := cell_kept HK.out y2 hg
      have z3 := cell_kept HK.out y3 hg
      have hm := saved_most hlt
      have HT : Hid (savedHead p X.length ++ (X.take (i + 1)).flatMap encVote = savedHead p X.length ++ (X.take i).flatMap encVote ++ encVote X[i]) := by
        show _ = _
        rw [saved_take hlt, List.append_assoc]
      have hpl : (savedHead p X.length ++ (X.take i).flatMap encVote).length = 20 + ((X.take i).flatMap encVote).length := by simp [savedHead_length]
      generalize hnx : (savedHead p X.length ++ (X.take (i + 1)).flatMap encVote) = nxt at *
      generalize (savedHead p X.length ++ (X.take i).flatMap encVote) = cur at *
      generalize X[i] = x at *
      have i1 : (i : Int) < (X.length : Int) := by omega
      have i0 : (0 : Int) ≤ (i : Int) := by omega
      clear y0 y1 y2 y3 hg
      obtain ⟨xs, ⟨xr, xn⟩, xv⟩ := x
      simp only at z0 z1 z2 z3 hm
      go_wp2_with fail
      have kV : Kept (fun _ => True) wr (wr.alloc (.cells #[.int .i64 xs, .int .i64 xr, .int .i64 xn, .string xv] 36)) := (Kept.refl _ _).alloc _
      have hV := heap_alloc_new wr (.cells #[.int .i64 xs, .int .i64 xr, .int .i64 xn, .string xv] 36)
      have W5 := HW.out.kept kV trivial (fun _ _ => trivial)
      have hVB : wr.heap.size ≠ B ∧ G ≠ some wr.heap.size := ⟨Ne.symm (Nat.ne_of_lt HW.out.lt), fun e => Nat.lt_irrefl _ (HW.out.rowlt _ e)⟩
      have hs5 := kV.size
      have HK5 : Hid (Kept (fun x => x < w1.heap.size) w1 (wr.alloc (.cells #[.int .i64 xs, .int .i64 xr, .int .i64 xn, .string xv] 36))) := HK.out.trans (kV.mono (fun _ _ _ => trivial))
      clear kV z0 z1 z2 z3 HK
      generalize hw5 : wr.alloc (.cells #[.int .i64 xs, .int .i64 xr, .int .i64 xn, .string xv] 36) = w5 at *
      generalize wr.heap.size = V0 at hV hVB ⊢
      have hV5 := lt_of_block hV
      clear hw5 hs5 HW
      refine Calls.mono (wfour_any xs W5 (by omega)) ?_
      rintro e w6 ⟨rfl, G6, v6, h6, k6, n6⟩
      have hV6 := (k6.block V0 hV5 hVB).trans hV
      have l6 := lt_of_block hV6
      have hVB6 : V0 ≠ B ∧ G6 ≠ some V0 := ⟨hVB.1, fun e => by
        rcases n6 V0 e with h | h
        · exact hVB.2 h
        · omega⟩
      obtain ⟨a0, a1, a2, a3⟩ := vcell hV6
      have c7 := writeBallot_any ⟨xr, xn⟩ h6 (by simp [enc_length]; omega)
      clear hV W5 h6
      go_wp2_with fail
      refine Calls.mono c7 ?_
      rintro e w7 ⟨rfl, G7, v7, h7, k7, n7⟩
      have hV7 := (k7.block V0 l6 hVB6).trans hV6
      obtain ⟨b0, b1, b2, b3⟩ := vcell hV7
      have c8 := wtext_any xv h7 (by simp [enc_length, encBal_length]; omega)
      obtain ⟨k67, n67⟩ := grow_trans k6 n6 k7 n7
      clear a0 a1 a2 a3 hV6 h7 k6 n6 k7 n7 c7
      go_wp2_with fail
      refine Calls.mono c8 ?_
      rintro e w8 ⟨rfl, G8, v8, h8, k8, n8⟩
      obtain ⟨k9, n9⟩ := grow_trans k67 n67 k8 n8
      have H8 : Hid (Wr w8 B G8 v8 nxt) := by
        show Wr _ _ _ _ _
        rw [HT.out]
        simpa [encVote, List.append_assoc] using h8
      have K8 : Hid (Kept (fun x => x < w1.heap.size) w1 w8) := HK5.out.then k9 (fun i hi _ => ⟨by have := hB0.out; omega, fun e => by have := HN.out i e; omega⟩)
      have N8 : Hid (∀ x, G8 = some x → w1.heap.size ≤ x) := fun x hx => by
        rcases n9 x hx with h | h
        · exact HN.out x h
        · exact Nat.le_trans HK5.out.size h
      clear h8 k8 n8 k9 n9 k67 n67 c8 hV7 b0 b1 b2 b3
      go_wp2_with fail
      go_roundw
      case rel => exact ⟨i + 1, G8, v8, by omega, by go_num, by rw [hnx]; exact H8.out, K8.out, N8.out⟩
      case measure => simp [intOf]; omega
    · have hie : i = X.length := by omega
      subst hie
      have HW' : Hid (Wr wr B G u (saved p X)) := by
        show Wr _ _ _ _ _
        have := HW.out
        rw [List.take_length] at this
        exact this
      clear HW
      have cd := done_any HW'.out (by omega)
      clear hl
      go_wp2_with fail
      refine Calls.mono cd ?_
      rintro e w9 ⟨D, rfl, hD, kD, lD⟩
      go_wp2
      go_ret
      have k9 : Kept (fun _ => True) w wr := K1.out.then HK.out (fun i hi _ => Nat.lt_of_lt_of_le hi K1.out.size)
      exact ⟨D, rfl, hD, k9.trans kD, Nat.le_trans k9.size lD⟩

end Go.Proofs.Ytnogpjhcpdngcaa
