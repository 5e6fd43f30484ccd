/-
  Texts of the proofs, 12 of 52.
-/
import Derived.Test.YtmcaoimgmgjjiaaWK
namespace Go.Proofs.Ytmcaoimgmgjjiaa
open Go.RowKit

set_option maxRecDepth 100000 in
theorem cut_mid (b o len cap n m : Nat) (h : n ≤ m) (h2 : m ≤ len) (hc : len ≤ cap) (hn : n < cap) (w0 : World) : (Instr.slice 25 (.slice (some ⟨b, o, none⟩) len cap) (some (.int .i64 (n : Int))) (some (.int .i64 (m : Int))) none).run Try.prog w0 = .ok (.slice (some ⟨b, o + n, none⟩) (m - n) (cap - n)) w0 := by
  rw [run_slice_lh (P := Try.prog) w0 25 (some ⟨b, o, none⟩) len cap Try.underlying25 .i64 .i64 n m (by omega) (by omega) (by omega), size_u8]
  have : ¬ cap = n := by omega
  simp [Result.andThen, sliced, this, Addr.add]
theorem has_mid {w : World} {b o : Nat} {bs : List UInt8} (h : ∀ j (hj : j < bs.length), w.cell? ⟨b, o + j, none⟩ = some (.int .u8 (bs[j]).toNat)) (n m : Nat) : Has w (some ⟨b, o + n, none⟩) ((bs.drop n).take m) := by
  intro h0
  refine ⟨_, rfl, fun j hj => ?_⟩
  simp at hj
  rw [WideShapes.add_plain, Nat.add_assoc, h (n + j) (by omega)]
  simp

set_option maxRecDepth 100000 in
theorem cut_tail (ao : Option Addr) (bs : List UInt8) (cap n : Nat) (h : n ≤ bs.length) (hc : bs.length ≤ cap) : ∃ ao', (∀ w0, (Instr.slice 25 (.slice ao bs.length cap) (some (.int .i64 (n : Int))) none none).run Try.prog w0 = .ok (.slice ao' (bs.drop n).length (cap - n)) w0) ∧ ∀ w0, Has w0 ao bs → Has w0 ao' (bs.drop n) := by
  refine ⟨if cap = n then ao else ao.map (·.add n), fun w0 => ?_, fun w0 hh h0 => ?_⟩
  · rw [run_slice_l (P := Try.prog) w0 25 ao bs.length cap Try.underlying25 .i64 n (by omega) (by omega), size_u8]
    simp [Result.andThen, sliced]
  · have hl : n < bs.length := by simp at h0; omega
    obtain ⟨b, o, rfl, hcs⟩ := has_plain hh (by omega)
    rw [if_neg (by omega)]
    have := has_drop hcs n h0
    obtain ⟨ad, e, hx⟩ := this
    refine ⟨_, rfl, ?_⟩
    cases e
    intro j hj
    have := hx j hj
    rw [WideShapes.add_plain] at this
    show w0.cell? (((⟨b, o, none⟩ : Addr).add n).add j) = _
    rw [WideShapes.add_plain, WideShapes.add_plain]
    exact this
theorem store_cells {w : World} {b t n : Nat} {z : Value} {old xs : List Value} (hT : ArrT t n z) (ha : Ar w b t old) (ho : old.length = n) (hl : xs.length = n) (h1 : ∀ u ∈ xs, u.oneCell' = true) : (storeCells ⟨b, 0, none⟩ xs).run Try.prog w = .ok () (w.setRow b xs.toArray) := by
  have := run_storeVar_row (P := Try.prog) w b t t old.toArray xs.toArray ha (by rw [hT.size]; simp [hl]) (by simp [ho, hl]) (by simpa using h1)
  cases hq : Try.prog.info? t with
  | none => have h := hT.size; simp [hq] at h
  | some i =>
    have h := hT.size
    have hs : i.size = xs.length := by simp [hq] at h; omega
    simpa [storeVar, sizeOf, typeInfo, hq, Value.cells, hs] using this

def out4 (ws : List Nat) : List UInt8 := ws.flatMap fun w => bytesOf w 4
theorem out4_length (ws : List Nat) : (out4 ws).length = 4 * ws.length := by
  induction ws with
  | nil => rfl
  | cons x ws ih =>
    simp only [out4, List.flatMap_cons, List.length_append, bytesOf_length, List.length_cons] at *
    omega
theorem out4_put (ws : List Nat) (hl : ws.length = 8) (i : Nat) (hi : i < 8) : putN (out4 (ws.take i) ++ List.replicate (32 - 4 * i) 0) (4 * i) (ws.getD i 0) 4 = out4 (ws.take (i + 1)) ++ List.replicate (32 - 4 * (i + 1)) 0 := by
  have ll : (out4 (ws.take i)).length = 4 * i := by rw [out4_length]; simp; omega
  have e : out4 (ws.take i) ++ List.replicate (32 - 4 * i) (0 : UInt8) = out4 (ws.take i) ++ [0, 0, 0, 0] ++ List.replicate (32 - 4 * (i + 1)) 0 := by
    rw [show 32 - 4 * i = 4 + (32 - 4 * (i + 1)) by omega, ← List.replicate_append_replicate, List.append_assoc]
    rfl
  have hp := putN_four (out4 (ws.take i)) (List.replicate (32 - 4 * (i + 1)) 0) 0 0 0 0 (ws.getD i 0)
  rw [ll] at hp
  have e2 : out4 (ws.take (i + 1)) = out4 (ws.take i) ++ bytesOf ws[i] 4 := by
    rw [List.take_succ_eq_append_getElem (by omega)]
    unfold out4
    rw [List.flatMap_append, List.flatMap_singleton]
  rw [e, hp, e2, getD_at ws (by omega)]
theorem words_lt (u : H8) (h : u.ok) (i : Nat) : u.words.getD i 0 < 4294967296 := by
  obtain ⟨h0, h1, h2, h3, h4, h5, h6, h7⟩ := h
  match i with
  | 0 => exact h0
  | 1 => exact h1
  | 2 => exact h2
  | 3 => exact h3
  | 4 => exact h4
  | 5 => exact h5
  | 6 => exact h6
  | 7 => exact h7
  | n + 8 => exact (by decide : 0 < 4294967296)
theorem arr_tail (B i : Nat) (h : i < 8) (w0 : World) : (Instr.sliceAt 78 (.pointer (some ⟨B, 0, none⟩)) (some (.int .i64 (4 * (i : Int)))) none none).run Try.prog w0 = .ok (.slice (some ⟨B, 4 * i, none⟩) (32 - 4 * i) (32 - 4 * i)) w0 := by
  have hu : Try.prog.underlying 78 = some (.array (Try.prog.arrayLen 78) (Try.prog.elem 78)) := by kernel_rfl
  have hn : Try.prog.arrayLen 78 = 32 := by kernel_rfl
  have he : Try.prog.elem 78 = Try.prog.elem 25 := by kernel_rfl
  rw [run_sliceAt_array_l (P := Try.prog) w0 78 ⟨B, 0, none⟩ hu .i64 (4 * (i : Int)) (by omega) (by rw [hn]; omega), he, size_u8, hn]
  have h1 : (4 * (i : Int)).toNat = 4 * i := by omega
  have h2 : ¬ 32 = 4 * i := by omega
  simp [Result.andThen, slicedAt, h1, h2, Addr.add]
  omega

set_option maxRecDepth 100000 in
set_option maxHeartbeats 1000000 in
theorem sha_any {w : World} {ao : Option Addr} {cap : Nat} {bs : List UInt8} (hh : Has w ao bs) (hcap : bs.length ≤ cap) (hl : (bs.length : Int) ≤ 140737488355328) :
    Calls Try.prog 94 #[.slice ao bs.length cap] w fun e w' => e = .returned (.agg (cells (shaOf bs)).toArray) ∧ Kept (fun _ => True) w w' := by
  have HH : Hid (Has w ao bs) := hh
  clear hh
  have hwhole : (bs.length : Int) - (bs.length : Int) % 64 = ((64 * (bs.length / 64) : Nat) : Int) := by omega
  obtain ⟨q, hq⟩ : ∃ q, q = bs.length / 64 := ⟨_, rfl⟩
  have hq1 : 64 * q ≤ bs.length := by omega
  rw [← hq] at hwhole
  have HQ : Hid (q = bs.length / 64) := hq
  clear hq
  go_enter Try.func94, Try.ntmps94
  go_wp2_with (first
    | ((with_reducible refine w_alloc (d := some 2) arr32 ?_); intro w1 a2 k1 s1)
    | ((with_reducible refine w_alloc (d := some 3) arr8 ?_); intro w2 a3 k2 s2)
    | ((with_reducible apply w_store (x := .tmp 3) (b := w1.heap.size) (xs := wcells h0.words) (old := List.replicate 8 (.int .u32 0)) arr8); (case hx => rfl); (case hy => rfl); (case ha => exact a3); (case ho => simp); (case hl => rfl); (case h1 => exact wcells_one _); intro w3 a3' k3 s3))
  have q1 := s1.out
  have q2 := s2.out
  have q3 := s3.out
  have a2' := (a2.kept k2 trivial).kept k3 (by omega)
  have K03 : Kept (fun _ => True) w w3 := (k1.trans k2).then k3 (fun i hi _ => by omega)
  have d1 : w.heap.size < w1.heap.size := by omega
  have d2 : w1.heap.size < w3.heap.size := by omega
  clear a2 a3 k1 k2 k3 s1 s2 s3 q1 q2 q3
  generalize w1.heap.size = B3 at *
  obtain ⟨B2, hB⟩ : ∃ B, B = w.heap.size := ⟨_, rfl⟩
  rw [← hB] at a2' d1 ⊢
  have HB : Hid (B2 = w.heap.size) := hB
  clear hB
  go_loopw [5] (fun t wr => ∃ k : Nat, k ≤ q ∧ t = .int .i64 ((64 * k : Nat) : Int) ∧ Ar wr B3 151 (wcells (h0.blocks (padded bs) k).words) ∧ Kept (· ≠ B3) w3 wr) (fun t _ => 64 * q - (intOf t).toNat)
  case atStart => exact ⟨0, by omega, rfl, a3', Kept.refl _ _⟩
  case round =>
    clear a3'
    obtain ⟨k, hk, rfl, ar, kr⟩ := hrel
    by_cases hlk : k < q
    · have hkl : 64 * (k : Int) < 64 * (q : Int) := by omega
      have hk0 : (0 : Int) ≤ 64 * (k : Int) := by omega
      have hk1 : 64 * (k : Int) + 64 ≤ (bs.length : Int) := by omega
      obtain ⟨sb, so, rfl, hcs⟩ := has_plain HH.out (by omega)
      have hlt : sb < w.heap.size := World.block_lt_of_cell? w _ (hcs 0 (by omega))
      have hcr : ∀ j (hj : j < bs.length), wr.cell? ⟨sb, so + j, none⟩ = some (.int .u8 (bs[j]).toNat) := fun j hj => (kept_cell kr (by have := HB.out; omega) (by have := HB.out; omega)).trans ((kept_cell K03 hlt trivial).trans (hcs j hj))
      have hcut := cut_mid sb so bs.length cap (64 * k) (64 * k + 64) (by omega) (by omega) hcap (by omega)
      rw [show ((64 * k : Nat) : Int) = 64 * (k : Int) by omega, show ((64 * k + 64 : Nat) : Int) = 64 * (k : Int) + 64 by omega, show 64 * k + 64 - 64 * k = 64 by omega] at hcut
      have uok : (h0.blocks (padded bs) k).ok := H8.blocks_ok _ _ _ (by unfold h0 H8.ok; decide)
      have HN : Hid ((h0.blocks (padded bs) k).block ((bs.drop (64 * k)).take 64) 0 = h0.blocks (padded bs) (k + 1)) := by
        show _ = _
        rw [← cut_front64 bs k (by rw [← HQ.out]; exact hlk), block_cut]
        rfl
      generalize hU : h0.blocks (padded bs) (k + 1) = u' at *
      have HU : Hid (h0.blocks (padded bs) (k + 1) = u') := hU
      clear hU
      generalize h0.blocks (padded bs) k = u at *
      have lc : ((bs.drop (64 * k)).take 64).length = 64 := by simp; omega
      obtain ⟨xs, hxs⟩ : ∃ xs, xs = wcells u'.words := ⟨_, rfl⟩
      have lx : xs.length = 8 := by rw [hxs]; rfl
      have ox : Hid (∀ x ∈ xs, x.oneCell' = true) := by rw [hxs]; exact wcells_one _
      have HX : Hid (xs = wcells u'.words) := hxs
      clear hxs
      have cm : ∀ w0 : World, (∀ j (hj : j < bs.length), w0.cell? ⟨sb, so + j, none⟩ = some (Value.int .u8 (bs[j]).toNat)) → Calls Try.prog 95 #[.agg #[.int .u32 (u.a : Nat), .int .u32 (u.b : Nat), .int .u32 (u.c : Nat), .int .u32 (u.d : Nat), .int .u32 (u.e : Nat), .int .u32 (u.f : Nat), .int .u32 (u.g : Nat), .int .u32 (u.h : Nat)], .slice (some ⟨sb, so + 64 * k, none⟩) 64 (cap - 64 * k)] w0 fun e w' => e = .returned (.agg xs.toArray) ∧ Kept (fun _ => True) w0 w' := fun w0 h => by
        rw [HX.out]
        have := mix_any (w := w0) (cap := cap - 64 * k) u uok (has_mid h (64 * k) 64) lc (by omega)
        rw [HN.out] at this
        exact this
      have c0 : wr.cell? ⟨B3, 0, none⟩ = some (.int .u32 (u.a : Nat)) := ar.word 0 (by simp [H8.words])
      have c1 : wr.cell? ⟨B3, 1, none⟩ = some (.int .u32 (u.b : Nat)) := ar.word 1 (by simp [H8.words])
      have c2 : wr.cell? ⟨B3, 2, none⟩ = some (.int .u32 (u.c : Nat)) := ar.word 2 (by simp [H8.words])
      have c3 : wr.cell? ⟨B3, 3, none⟩ = some (.int .u32 (u.d : Nat)) := ar.word 3 (by simp [H8.words])
      have c4 : wr.cell? ⟨B3, 4, none⟩ = some (.int .u32 (u.e : Nat)) := ar.word 4 (by simp [H8.words])
      have c5 : wr.cell? ⟨B3, 5, none⟩ = some (.int .u32 (u.f : Nat)) := ar.word 5 (by simp [H8.words])
      have c6 : wr.cell? ⟨B3, 6, none⟩ = some (.int .u32 (u.g : Nat)) := ar.word 6 (by simp [H8.words])
      have c7 : wr.cell? ⟨B3, 7, none⟩ = some (.int .u32 (u.h : Nat)) := ar.word 7 (by simp [H8.words])
      have hwr : IntKind.i64.wrap (64 * (k : Int) + 64) = 64 * (k : Int) + 64 := by simp [IntKind.wrap, IntKind.bits, IntKind.signed]; omega
      go_wp2
      go_region_with (go_at_call 95; refine Calls.mono (cm _ (fun j hj => hcr j hj)) ?_; rintro e w5 ⟨rfl, k5⟩; have hsc := store_cells (xs := xs) arr8 (ar.drew.kept k5 trivial) rfl lx ox.out)
      all_goals
        clear c0 c1 c2 c3 c4 c5 c6 c7 hcut cm hcr hcs
        go_wp2
        go_roundw
        case rel =>
          refine ⟨k + 1, by omega, by go_num, ?_, ?_⟩
          · rw [HU.out, ← HX.out]
            exact setRow_heap w5 B3 _ xs.toArray _ _ (ar.drew.kept k5 trivial)
          · exact (kr.drew.trans (k5.mono (fun _ _ _ => trivial))).setRow (by simp) _
        case measure => simp [intOf]; omega
    · have hkl : ¬ 64 * (k : Int) < 64 * (q : Int) := by omega
      have hkq : k = q := by omega
      subst hkq
      have K0r : Kept (fun _ => True) w wr := K03.then kr (fun i hi _ => by have := HB.out; omega)
      have hhr : Has wr ao bs := HH.out.kept K0r (fun _ _ => trivial)
      have a2r := a2'.kept kr (by omega)
      have d3 : B3 < wr.heap.size := ar.lt
      obtain ⟨ao', hcut, hlast⟩ := cut_tail ao bs cap (64 * k) hq1 hcap
      rw [show ((64 * k : Nat) : Int) = 64 * (k : Int) by omega] at hcut
      have hm : (bs.drop (64 * k)).length = bs.length % 64 := by have := HQ.out; simp; omega
      have cp := padded_any (w := wr) (cap := cap - 64 * k) (n := bs.length) (hlast wr hhr) (by omega) (by omega)
      have lE : (cells (padEnd (bs.drop (64 * k)) bs.length)).length = 128 := by rw [cells_length]; exact padEnd_length _ _ (by omega)
      have hE : ∀ j, 64 * j + 64 ≤ padSize (bs.drop (64 * k)).length → ((padded bs).drop (64 * (k + j))).take 64 = ((padEnd (bs.drop (64 * k)) bs.length).drop (64 * j)).take 64 := fun j hj => by
        have := HQ.out
        subst this
        exact cut_end64 bs j (by rw [hm] at hj; exact hj)
      have hcount : (bs.length + 72) / 64 = k + padSize (bs.drop (64 * k)).length / 64 := by rw [hm, HQ.out]; exact blocks_count bs
      have hps : padSize (bs.drop (64 * k)).length = 64 ∨ padSize (bs.drop (64 * k)).length = 128 := by unfold padSize; split <;> omega
      have HR : Hid (shaOf bs = (h0.blocks (padded bs) (k + padSize (bs.drop (64 * k)).length / 64)).words.flatMap fun w => bytesOf w 4) := by show _ = _; rw [← hcount]; rfl
      generalize padSize (bs.drop (64 * k)).length = sz at *
      generalize hE0 : padEnd (bs.drop (64 * k)) bs.length = E at *
      generalize (bs.drop (64 * k)).length = lr at *
      have HE : Hid (∀ j, 64 * j + 64 ≤ sz → ((padded bs).drop (64 * (k + j))).take 64 = (E.drop (64 * j)).take 64) := hE
      have oE := cells_one E
      have LE : Hid (E.length = 128) := by rw [cells_length] at lE; exact lE
      clear hE hE0 hcount hlast hhr K03 kr a2' hm
      obtain ⟨ec, hec⟩ : ∃ ec, ec = cells E := ⟨_, rfl⟩
      rw [← hec] at cp lE oE
      have HC : Hid (ec = cells E) := hec
      clear hec
      go_wp2_with (first
        | (go_at_call 96; refine Calls.mono cp ?_; rintro e w4 ⟨rfl, k4⟩)
        | ((with_reducible refine w_alloc (d := some 6) arr128 ?_); intro w5 a6 k5 s5)
        | ((with_reducible apply w_store (x := .tmp 6) (b := w4.heap.size) (xs := ec) (old := List.replicate 128 (.int .u8 0)) arr128); (case hx => rfl); (case hy => rfl); (case ha => exact a6); (case ho => simp); (case hl => exact lE); (case h1 => exact oE); intro w6 a6' k6 s6))
      have q5 := s5.out
      have q6 := s6.out
      have z4 := k4.size
      have ar6 := ((ar.kept k4 trivial).kept k5 trivial).kept k6 (by omega)
      have a26 := ((a2r.kept k4 trivial).kept k5 trivial).kept k6 (by omega)
      have K06 : Kept (fun _ => True) w w6 := ((K0r.trans k4).trans k5).then k6 (fun i hi _ => by have := K0r.size; omega)
      have d6 : B3 < w4.heap.size := by omega
      have d7 : w4.heap.size < w6.heap.size := by omega
      rw [HC.out] at a6'
      clear q5 q6 z4 s5 s6 k4 k5 k6 a6 ar a2r K0r cp hcut lE oE HC
      generalize w4.heap.size = B6 at *
      go_loopw [8] (fun t x => ∃ j : Nat, 64 * j ≤ sz ∧ t = .int .i64 ((64 * j : Nat) : Int) ∧ Ar x B3 151 (wcells (h0.blocks (padded bs) (k + j)).words) ∧ Kept (· ≠ B3) w6 x) (fun t _ => sz - (intOf t).toNat)
      case atStart => exact ⟨0, by omega, rfl, ar6, Kept.refl _ _⟩
      case round =>
        clear ar6
        obtain ⟨j, hj, rfl, ar, kx⟩ := hrel
        by_cases hlj : 64 * j < sz
        · have hjl : 64 * (j : Int) < (sz : Int) := by omega
          have AE : Ar wr B6 156 (cells E) := a6'.kept kx (by omega)
          have le := LE.out
          have uok : (h0.blocks (padded bs) (k + j)).ok := H8.blocks_ok _ _ _ (by unfold h0 H8.ok; decide)
          have HN : Hid ((h0.blocks (padded bs) (k + j)).block ((E.drop (64 * j)).take 64) 0 = h0.blocks (padded bs) (k + (j + 1))) := by
            show _ = _
            rw [← HE.out j (by omega), block_cut]
            rfl
          generalize hU : h0.blocks (padded bs) (k + (j + 1)) = u' at *
          have HU : Hid (h0.blocks (padded bs) (k + (j + 1)) = u') := hU
          clear hU
          generalize h0.blocks (padded bs) (k + j) = u at *
          obtain ⟨xs, hxs⟩ : ∃ xs, xs = wcells u'.words := ⟨_, rfl⟩
          have lx : xs.length = 8 := by rw [hxs]; rfl
          have ox : Hid (∀ x ∈ xs, x.oneCell' = true) := by rw [hxs]; exact wcells_one _
          have HX : Hid (xs = wcells u'.words) := hxs
          clear hxs
          have c0 : wr.cell? ⟨B3, 0, none⟩ = some (.int .u32 (u.a : Nat)) := ar.word 0 (by simp [H8.words])
          have c1 : wr.cell? ⟨B3, 1, none⟩ = some (.int .u32 (u.b : Nat)) := ar.word 1 (by simp [H8.words])
          have c2 : wr.cell? ⟨B3, 2, none⟩ = some (.int .u32 (u.c : Nat)) := ar.word 2 (by simp [H8.words])
          have c3 : wr.cell? ⟨B3, 3, none⟩ = some (.int .u32 (u.d : Nat)) := ar.word 3 (by simp [H8.words])
          have c4 : wr.cell? ⟨B3, 4, none⟩ = some (.int .u32 (u.e : Nat)) := ar.word 4 (by simp [H8.words])
          have c5 : wr.cell? ⟨B3, 5, none⟩ = some (.int .u32 (u.f : Nat)) := ar.word 5 (by simp [H8.words])
          have c6 : wr.cell? ⟨B3, 6, none⟩ = some (.int .u32 (u.g : Nat)) := ar.word 6 (by simp [H8.words])
          have c7 : wr.cell? ⟨B3, 7, none⟩ = some (.int .u32 (u.h : Nat)) := ar.word 7 (by simp [H8.words])
          have w64 : IntKind.i64.wrap 64 = 64 := by decide
          have w128 : IntKind.i64.wrap 128 = 128 := by decide
          obtain rfl | rfl : j = 0 ∨ j = 1 := by omega
          · have cm : ∀ w0 : World, Ar w0 B6 156 (cells E) → Calls Try.prog 95 #[.agg #[.int .u32 (u.a : Nat), .int .u32 (u.b : Nat), .int .u32 (u.c : Nat), .int .u32 (u.d : Nat), .int .u32 (u.e : Nat), .int .u32 (u.f : Nat), .int .u32 (u.g : Nat), .int .u32 (u.h : Nat)], .slice (some ⟨B6, 0, none⟩) 64 128] w0 fun e w' => e = .returned (.agg xs.toArray) ∧ Kept (fun _ => True) w0 w' := fun w0 h => by
              rw [HX.out]
              have := mix_any (w := w0) (cap := 128) u uok (h.has 0 64 (by omega)) (by simp; omega) (by omega)
              rw [show (E.drop 0).take 64 = (E.drop (64 * 0)).take 64 from rfl, HN.out] at this
              exact this
            go_wp2
            go_region_with (go_at_call 95; refine Calls.mono (cm _ AE) ?_; rintro e w8 ⟨rfl, k8⟩; have hsc := store_cells (xs := xs) arr8 (ar.drew.kept k8 trivial) rfl lx ox.out)
            all_goals
              clear c0 c1 c2 c3 c4 c5 c6 c7 cm
              go_wp2
              go_roundw
              case rel =>
                refine ⟨0 + 1, by omega, by go_num, ?_, ?_⟩
                · rw [HU.out, ← HX.out]
                  exact setRow_heap w8 B3 _ xs.toArray _ _ (ar.drew.kept k8 trivial)
                · exact (kx.drew.trans (k8.mono (fun _ _ _ => trivial))).setRow (by simp) _
              case measure => simp [intOf]; omega
          · have cm : ∀ w0 : World, Ar w0 B6 156 (cells E) → Calls Try.prog 95 #[.agg #[.int .u32 (u.a : Nat), .int .u32 (u.b : Nat), .int .u32 (u.c : Nat), .int .u32 (u.d : Nat), .int .u32 (u.e : Nat), .int .u32 (u.f : Nat), .int .u32 (u.g : Nat), .int .u32 (u.h : Nat)], .slice (some ⟨B6, 64, none⟩) 64 64] w0 fun e w' => e = .returned (.agg xs.toArray) ∧ Kept (fun _ => True) w0 w' := fun w0 h => by
              rw [HX.out]
              have := mix_any (w := w0) (cap := 64) u uok (h.has 64 64 (by omega)) (by simp; omega) (by omega)
              rw [show (E.drop 64).take 64 = (E.drop (64 * 1)).take 64 from rfl, HN.out] at this
              exact this
            go_wp2
            go_region_with (go_at_call 95; refine Calls.mono (cm _ AE) ?_; rintro e w8 ⟨rfl, k8⟩; have hsc := store_cells (xs := xs) arr8 (ar.drew.kept k8 trivial) rfl lx ox.out)
            all_goals
              clear c0 c1 c2 c3 c4 c5 c6 c7 cm
              go_wp2
              go_roundw
              case rel =>
                refine ⟨1 + 1, by omega, by go_num, ?_, ?_⟩
                · rw [HU.out, ← HX.out]
                  exact setRow_heap w8 B3 _ xs.toArray _ _ (ar.drew.kept k8 trivial)
                · exact (kx.drew.trans (k8.mono (fun _ _ _ => trivial))).setRow (by simp) _
              case measure => simp [intOf]; omega
        · have hjl : ¬ 64 * (j : Int) < (sz : Int) := by omega
          have hjz : j = sz / 64 := by omega
          rw [← hjz] at HR
          have a2x := a26.kept kx (by omega)
          have K0x : Kept (fun _ => True) w wr := K06.then kx (fun i hi _ => by have := HB.out; omega)
          have uok : (h0.blocks (padded bs) (k + j)).ok := H8.blocks_ok _ _ _ (by unfold h0 H8.ok; decide)
          generalize h0.blocks (padded bs) (k + j) = u at *
          obtain ⟨us, hus⟩ : ∃ us, us = wcells u.words := ⟨_, rfl⟩
          have lu : us.length = 8 := by rw [hus]; rfl
          have hix : ∀ i : Nat, i < 8 → ∀ w0, (Instr.index 151 (.agg us.toArray) (.int .i64 (i : Int))).run Try.prog w0 = .ok (.int .u32 (u.words.getD i 0 : Nat)) w0 := fun i hi w0 => by rw [hus]; exact index_words u.words 151 8 Try.underlying151 i hi rfl w0
          rw [← hus] at ar
          clear hus a6' a26 K06 kx hjz HE LE hps
          go_wp2_with (first
            | ((with_reducible refine w_alloc (d := some 9) arr32 ?_); intro w8 a9 k8 s8)
            | ((with_reducible apply w_load (d := some 52) (b := B3) (xs := us) arr8); (case hx => rfl); (case ha => exact ar.kept k8 trivial); (case hl => exact lu)))
          have q8 := s8.out
          have a2y := a2x.kept k8 trivial
          have K08 := K0x.trans k8
          have d8 : B2 < wr.heap.size := by have := ar.lt; omega
          rw [zeros_b] at a9
          clear q8 s8 k8 a2x K0x ar
          generalize wr.heap.size = B9 at *
          go_loopw [53] (fun t x => ∃ i : Nat, i ≤ 8 ∧ t = .int .i64 i ∧ Ar x B9 78 (cells (out4 (u.words.take i) ++ List.replicate (32 - 4 * i) 0)) ∧ Kept (· ≠ B9) w8 x) (fun t _ => 8 - (intOf t).toNat)
          case atStart => exact ⟨0, by omega, rfl, a9, Kept.refl _ _⟩
          case round =>
            clear a9
            obtain ⟨i, hi, rfl, ar, kx⟩ := hrel
            by_cases hli : i < 8
            · have hil : (i : Int) < 8 := by omega
              have hi0 : (0 : Int) ≤ (i : Int) := by omega
              have hixi := hix i hli
              have hsl := arr_tail B9 i hli
              have lo : (out4 (u.words.take i) ++ List.replicate (32 - 4 * i) (0 : UInt8)).length = 32 := by
                have : (u.words.take i).length = i := by simp [H8.words]; omega
                rw [List.length_append, out4_length, this, List.length_replicate]
                omega
              have cp := putWord_any (w := wr) (b := B9) (o := 4 * i) (n := 32 - 4 * i) (cap := 32 - 4 * i) (u.words.getD i 0) (words_lt u uok i) ar (by omega) (by omega)
              rw [out4_put u.words rfl i hli] at cp
              clear hix ar lo
              go_wp2_with fail
              refine Calls.mono cp ?_
              rintro e w9 ⟨rfl, a9, k9, s9⟩
              clear cp s9
              go_wp2
              go_roundw
              case rel => exact ⟨i + 1, by omega, by go_num, a9, kx.trans k9⟩
              case measure => simp [intOf]; omega
            · have hil : ¬ (i : Int) < 8 := by omega
              obtain rfl : i = 8 := by omega
              have hr : out4 (u.words.take 8) ++ List.replicate (32 - 4 * 8) 0 = shaOf bs := by
                rw [HR.out, List.take_of_length_le (by simp [H8.words])]
                simp [out4]
              rw [hr] at ar
              have a2z := a2y.kept kx (by omega)
              obtain ⟨xs, hxs⟩ : ∃ xs, xs = cells (shaOf bs) := ⟨_, rfl⟩
              have lx : xs.length = 32 := by
                rw [hxs, cells_length, ← hr, List.length_append, out4_length]
                simp [H8.words]
              have ox : ∀ x ∈ xs, x.oneCell' = true := by rw [hxs]; exact cells_one _
              rw [← hxs] at ar
              have HX : Hid (xs = cells (shaOf bs)) := hxs
              clear hxs hix hr
              go_wp2_with (first
                | ((with_reducible apply w_load (d := some 63) (b := B9) (xs := xs) arr32); (case hx => rfl); (case ha => exact ar); (case hl => exact lx))
                | ((with_reducible apply w_store (x := .tmp 2) (b := B2) (xs := xs) (old := List.replicate 32 (.int .u8 0)) arr32); (case hx => rfl); (case hy => rfl); (case ha => exact a2z); (case ho => simp); (case hl => exact lx); (case h1 => exact ox); intro w10 a10 k10 s10))
              refine bodyPost_ret (results_ar (p := 2) arr32 rfl _ _ rfl a10 lx) rfl ⟨by rw [HX.out], ?_⟩
              have hb2 := HB.out
              exact (K08.then kx (fun i hi _ => by omega)).then k10 (fun i hi _ => by omega)

end Go.Proofs.Ytmcaoimgmgjjiaa
