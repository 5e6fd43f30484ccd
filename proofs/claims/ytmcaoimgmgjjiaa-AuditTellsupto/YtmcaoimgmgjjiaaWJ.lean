/-
  Texts of the proofs, 10 of 52.
-/
import Derived.Test.YtmcaoimgmgjjiaaWG
namespace Go.Proofs.Ytmcaoimgmgjjiaa
open Go.RowKit

set_option maxRecDepth 100000 in
theorem cut_back (b o len cap n : Nat) (h : n ≤ len) (_hc : len ≤ cap) (hn : n < cap) (w0 : World) : (Instr.slice 25 (.slice (some ⟨b, o, none⟩) len cap) (some (.int .i64 (n : Int))) none none).run Try.prog w0 = .ok (.slice (some ⟨b, o + n, none⟩) (len - n) (cap - n)) w0 := by
  rw [run_slice_l (P := Try.prog) w0 25 (some ⟨b, o, none⟩) len cap Try.underlying25 .i64 n (by omega) (by omega), size_u8]
  have : ¬ cap = n := by omega
  simp [Result.andThen, sliced, this, Addr.add]
theorem has_drop {w : World} {b o : Nat} {bs : List UInt8} (h : ∀ j (hj : j < bs.length), w.cell? ⟨b, o + j, none⟩ = some (.int .u8 (bs[j]).toNat)) (n : Nat) : Has w (some ⟨b, o + n, none⟩) (bs.drop n) := by
  intro _
  refine ⟨_, rfl, fun j hj => ?_⟩
  rw [WideShapes.add_plain, Nat.add_assoc, h (n + j) (by simp at hj; omega)]
  simp
theorem wordAt_drop (bs : List UInt8) (n : Nat) : wordAt (bs.drop n) 0 = wordAt bs n := by simp [wordAt, List.getD]
theorem wordAt_lt (bs : List UInt8) (n : Nat) : wordAt bs n < 4294967296 := by
  unfold wordAt
  have h0 := (bs.getD n 0).toNat_lt
  have h1 := (bs.getD (n + 1) 0).toNat_lt
  have h2 := (bs.getD (n + 2) 0).toNat_lt
  have h3 := (bs.getD (n + 3) 0).toNat_lt
  omega
theorem wordsAt_succ (bs : List UInt8) (a k : Nat) : wordsAt bs a (k + 1) = wordsAt bs a k ++ [wordAt bs (a + 4 * k)] := by simp [wordsAt, List.range_succ]
theorem wordsAt_length (bs : List UInt8) (a k : Nat) : (wordsAt bs a k).length = k := by simp [wordsAt]
def below32 (ws : List Nat) : Prop := ∀ x ∈ ws, x < 4294967296
theorem wordsAt_lt (bs : List UInt8) (a k : Nat) : below32 (wordsAt bs a k) := by
  intro x hx
  obtain ⟨i, _, rfl⟩ := List.mem_map.1 hx
  exact wordAt_lt _ _
theorem sched_lt (k : Nat) (ws : List Nat) (h : below32 ws) : below32 (sched k ws) := by
  induction k with
  | zero => exact h
  | succ k ih =>
    intro x hx
    rcases List.mem_append.1 hx with hx | hx
    · exact ih x hx
    · rw [List.mem_singleton.1 hx]
      exact Nat.mod_lt _ (by decide)
theorem fill_set (ws : List Nat) (n x : Nat) : (ws ++ List.replicate (n + 1) 0).set ws.length x = (ws ++ [x]) ++ List.replicate n 0 := by
  rw [List.set_append_right _ _ (Nat.le_refl _), Nat.sub_self, List.replicate_succ, List.set_cons_zero]
  simp
theorem fill_get (ws : List Nat) (n i : Nat) (h : i < ws.length) (h2 : i < (ws ++ List.replicate n 0).length) : (ws ++ List.replicate n 0)[i] = ws.getD i 0 := by
  rw [List.getElem_append_left h, getD_at ws h]
theorem zeros_w (n : Nat) : List.replicate n (Value.int .u32 0) = wcells (List.replicate n 0) := by simp [wcells]
theorem below_getD {ws : List Nat} (h : below32 ws) (i : Nat) : ws.getD i 0 < 4294967296 := by
  by_cases hi : i < ws.length
  · rw [getD_at ws hi]; exact h _ (List.getElem_mem hi)
  · have : ws.getD i 0 = 0 := by simp [List.getD, hi]
    omega

set_option maxRecDepth 100000 in
set_option maxHeartbeats 2000000 in
theorem schedule_any {w : World} {ao : Option Addr} {cap : Nat} {bs : List UInt8} (hh : Has w ao bs) (h4 : bs.length = 64) (hc : 64 ≤ cap) :
    Calls Try.prog 98 #[.slice ao 64 cap] w fun e w' => e = .returned (.agg (wcells (sched 48 (wordsAt bs 0 16))).toArray) ∧ Kept (fun _ => True) w w' := by
  obtain ⟨sb, so, rfl, hcs⟩ := has_plain hh (by omega)
  have hlt : sb < w.heap.size := World.block_lt_of_cell? w _ (hcs 0 (by omega))
  have HC : Hid (∀ j (hj : j < bs.length), w.cell? ⟨sb, so + j, none⟩ = some (.int .u8 (bs[j]).toNat)) := hcs
  clear hh hcs
  obtain ⟨W, hW⟩ : ∃ W, W = wordsAt bs 0 16 := ⟨_, rfl⟩
  have bW := wordsAt_lt bs 0 16
  have lW := wordsAt_length bs 0 16
  rw [← hW] at bW lW ⊢
  have HW : Hid (W = wordsAt bs 0 16) := hW
  clear hW
  go_enter Try.func98, Try.ntmps98
  go_wp2_with (first
    | (refine w_alloc (d := some 2) arr64 ?_; intro w1 a2 k1 s1)
    | (refine w_alloc (d := some 3) arr64 ?_; intro w2 a3 k2 s2))
  have a2' := a2.kept k2 trivial
  have k02 : Kept (fun _ => True) w w2 := k1.trans k2
  have hb1 : w.heap.size < w1.heap.size := by have := s1.out; omega
  have hb2 : w1.heap.size < w2.heap.size := by have := s2.out; omega
  rw [zeros_w] at a3
  generalize w1.heap.size = B at *
  clear a2 k1 k2 s1 s2
  go_loopw [10] (fun t wr => ∃ k : Nat, k ≤ 16 ∧ t = .int .i64 k ∧ Ar wr B 152 (wcells (wordsAt bs 0 k ++ List.replicate (64 - k) 0)) ∧ Kept (fun x => x ≠ B) w2 wr) (fun t _ => 16 - (intOf t).toNat)
  case atStart => exact ⟨0, by omega, rfl, by simpa [wordsAt] using a3, Kept.refl _ _⟩
  case round =>
    obtain ⟨k, hk, rfl, ar, kr⟩ := hrel
    by_cases hlk : k < 16
    · have hkl : (k : Int) < 16 := by omega
      have hk0 : (0 : Int) ≤ (k : Int) := by omega
      have hcut := cut_back sb so 64 cap (4 * k) (by omega) hc (by omega)
      rw [show ((4 * k : Nat) : Int) = 4 * (k : Int) by omega] at hcut
      have hcr : ∀ j (hj : j < bs.length), wr.cell? ⟨sb, so + j, none⟩ = some (.int .u8 (bs[j]).toNat) := fun j hj => (kept_cell kr (by omega) (by omega)).trans ((kept_cell k02 hlt trivial).trans (HC.out j hj))
      have cw := word_any (cap := cap - 4 * k) (has_drop hcr (4 * k)) (by simp; omega) (by simp; omega)
      rw [List.length_drop, h4, wordAt_drop] at cw
      have ll : (wordsAt bs 0 k ++ List.replicate (64 - k) 0).length = 64 := by simp [wordsAt_length]; omega
      have hcell := ar.cell k
      rw [wcells_get _ k (by omega)] at hcell
      have hf := ar.free k
      have HS : Hid (∀ u, Ar (wr.setCell ⟨B, k, none⟩ u) B 152 _) := fun u => ar.set k u
      have HE : Hid ((wordsAt bs 0 k ++ List.replicate (64 - k) 0).set k (wordAt bs (4 * k)) = wordsAt bs 0 (k + 1) ++ List.replicate (64 - (k + 1)) 0) := by
        have := fill_set (wordsAt bs 0 k) (63 - k) (wordAt bs (4 * k))
        rw [wordsAt_length, show 63 - k + 1 = 64 - k by omega] at this
        show _ = _
        rw [this, wordsAt_succ, Nat.zero_add, show 64 - (k + 1) = 63 - k by omega]
      generalize wordAt bs (4 * k) = x at *
      generalize (wordsAt bs 0 k ++ List.replicate (64 - k) 0)[k] = y at *
      clear hcr ar
      go_wp2_with fail
      refine Calls.mono cw ?_
      rintro e _ ⟨rfl, m, rfl⟩
      clear cw
      go_wp2
      go_roundw
      case rel =>
        refine ⟨k + 1, by omega, by go_num, ?_, ?_⟩
        · have := (HS.out (.int .u32 x))
          rw [wcells_set, HE.out] at this
          exact this
        · exact (kr.setCell (by simp) _).drewN m
      case measure => simp [intOf]; omega
    · have hkl : ¬ (k : Int) < 16 := by omega
      obtain rfl : k = 16 := by omega
      rw [← HW.out] at ar
      clear a3
      go_wp2
      go_loopw [5] (fun t v => ∃ j : Nat, j ≤ 48 ∧ t = .int .i64 ((16 + j : Nat) : Int) ∧ Ar v B 152 (wcells (sched j W ++ List.replicate (48 - j) 0)) ∧ Kept (fun x => x ≠ B) w2 v) (fun t _ => 64 - (intOf t).toNat)
      case atStart => exact ⟨0, by omega, rfl, ar, kr⟩
      case round =>
        clear ar kr
        obtain ⟨j, hj, rfl, ar, kr⟩ := hrel
        by_cases hlj : j < 48
        · have hjl : (16 : Int) + (j : Int) < 64 := by omega
          have hj0 : (0 : Int) ≤ (j : Int) := by omega
          have ls := sched_length j W
          have bs' := sched_lt j W bW
          have ll : (sched j W ++ List.replicate (48 - j) 0).length = 64 := by simp [ls]; omega
          have c1 := ar.word (1 + j) (by omega)
          have c2 := ar.word (14 + j) (by omega)
          have c3 := ar.word (9 + j) (by omega)
          have c4 := ar.word j (by omega)
          have c5 := ar.word (16 + j) (by omega)
          rw [fill_get _ _ _ (by omega)] at c1 c2 c3 c4
          have b1 := below_getD bs' (1 + j)
          have b2 := below_getD bs' (14 + j)
          have b3 := below_getD bs' (9 + j)
          have b4 := below_getD bs' j
          have hf := ar.free (16 + j)
          have hn : nextWord (sched j W) = ((sched j W).getD j 0 + ssig0 ((sched j W).getD (1 + j) 0) + (sched j W).getD (9 + j) 0 + ssig1 ((sched j W).getD (14 + j) 0)) % 4294967296 := by
            unfold nextWord
            rw [ls, lW, show 16 + j - 16 = j by omega, show 16 + j - 15 = 1 + j by omega, show 16 + j - 7 = 9 + j by omega, show 16 + j - 2 = 14 + j by omega]
          have HS : Hid (∀ u, Ar (wr.setCell ⟨B, 16 + j, none⟩ u) B 152 _) := fun u => ar.set (16 + j) u
          have HE : Hid ((sched j W ++ List.replicate (48 - j) 0).set (16 + j) (nextWord (sched j W)) = sched (j + 1) W ++ List.replicate (48 - (j + 1)) 0) := by
            have := fill_set (sched j W) (47 - j) (nextWord (sched j W))
            rw [ls, lW, show 47 - j + 1 = 48 - j by omega] at this
            show _ = _
            rw [this, show 48 - (j + 1) = 47 - j by omega]
            rfl
          generalize nextWord (sched j W) = nw at *
          generalize (sched j W).getD j 0 = x4 at *
          generalize (sched j W).getD (1 + j) 0 = x1 at *
          generalize (sched j W).getD (9 + j) 0 = x3 at *
          generalize (sched j W).getD (14 + j) 0 = x2 at *
          generalize (sched j W ++ List.replicate (48 - j) 0)[16 + j] = x5 at *
          have e1 : (16 : Int) + (j : Int) - 15 = ((1 + j : Nat) : Int) := by omega
          have e2 : (16 : Int) + (j : Int) - 2 = ((14 + j : Nat) : Int) := by omega
          have e3 : (16 : Int) + (j : Int) - 7 = ((9 + j : Nat) : Int) := by omega
          have e4 : (16 : Int) + (j : Int) - 16 = ((j : Nat) : Int) := by omega
          clear ar bs' ll
          go_wp2
          go_quiet (fail)
          have t1 : ∀ v, Calls Try.prog 101 #[.int .u32 x1, .int .i64 7] v fun e w' => e = .returned (.int .u32 (rotr x1 7 : Nat)) ∧ w' = v := fun v => turn_any x1 7 b1 (by decide) (by decide)
          have t2 : ∀ v, Calls Try.prog 101 #[.int .u32 x1, .int .i64 18] v fun e w' => e = .returned (.int .u32 (rotr x1 18 : Nat)) ∧ w' = v := fun v => turn_any x1 18 b1 (by decide) (by decide)
          have t3 : ∀ v, Calls Try.prog 101 #[.int .u32 x2, .int .i64 17] v fun e w' => e = .returned (.int .u32 (rotr x2 17 : Nat)) ∧ w' = v := fun v => turn_any x2 17 b2 (by decide) (by decide)
          have t4 : ∀ v, Calls Try.prog 101 #[.int .u32 x2, .int .i64 19] v fun e w' => e = .returned (.int .u32 (rotr x2 19 : Nat)) ∧ w' = v := fun v => turn_any x2 19 b2 (by decide) (by decide)
          have q1 := xor_bits (rotr x1 7) (rotr x1 18) (rotr_lt _ _ b1) (rotr_lt _ _ b1)
          have q2 : bits BinOp.xor .u32 ((rotr x1 7 ^^^ rotr x1 18 : Nat) : Int) ((x1 : Int) / 8) = ((ssig0 x1 : Nat) : Int) := xor_bits (rotr x1 7 ^^^ rotr x1 18) (x1 / 8) (xor_lt32 (rotr_lt _ _ b1) (rotr_lt _ _ b1)) (div_lt32 _ b1)
          have q3 := xor_bits (rotr x2 17) (rotr x2 19) (rotr_lt _ _ b2) (rotr_lt _ _ b2)
          have q4 : bits BinOp.xor .u32 ((rotr x2 17 ^^^ rotr x2 19 : Nat) : Int) ((x2 : Int) / 1024) = ((ssig1 x2 : Nat) : Int) := xor_bits (rotr x2 17 ^^^ rotr x2 19) (x2 / 1024) (xor_lt32 (rotr_lt _ _ b2) (rotr_lt _ _ b2)) (div_lt32 _ b2)
          have p1 := ssig0_lt x1 b1
          have p2 := ssig1_lt x2 b2
          generalize rotr x1 7 = r1 at *
          generalize rotr x1 18 = r2 at *
          generalize rotr x2 17 = r3 at *
          generalize rotr x2 19 = r4 at *
          generalize ssig0 x1 = lo at *
          generalize ssig1 x2 = hi at *
          go_wp2_with fail
          refine Calls.mono (t1 _) ?_
          rintro e _ ⟨rfl, rfl⟩
          go_wp2_with fail
          refine Calls.mono (t2 _) ?_
          rintro e _ ⟨rfl, rfl⟩
          go_wp2_with fail
          refine Calls.mono (t3 _) ?_
          rintro e _ ⟨rfl, rfl⟩
          go_wp2_with fail
          refine Calls.mono (t4 _) ?_
          rintro e _ ⟨rfl, rfl⟩
          clear t1 t2 t3 t4
          have hv : ((hi : Int) + (x3 : Int) + (lo : Int) + (x4 : Int)) % 4294967296 = ((nw : Nat) : Int) := by omega
          clear hn
          go_wp2
          go_region
          all_goals
            go_wp2
            go_roundw
            case rel =>
              refine ⟨j + 1, by omega, by go_num, ?_, ?_⟩
              · have := HS.out (.int .u32 nw)
                rw [wcells_set, HE.out] at this
                exact this
              · exact (kr.drewN (nq + 1)).setCell (by simp) _
            case measure => simp [intOf]; omega
        · have hjl : ¬ (16 : Int) + (j : Int) < 64 := by omega
          obtain rfl : j = 48 := by omega
          rw [Nat.sub_self, List.replicate_zero, List.append_nil] at ar
          have ls : (wcells (sched 48 W)).length = 64 := by rw [wcells_length, sched_length, lW]
          have h1 := wcells_one (sched 48 W)
          have a2w := a2'.kept kr (by omega)
          obtain ⟨xs, hxs⟩ : ∃ xs, xs = wcells (sched 48 W) := ⟨_, rfl⟩
          rw [← hxs] at ar ls h1
          have HX : Hid (xs = wcells (sched 48 W)) := hxs
          clear hxs
          go_wp2_with (first
            | (refine w_load (d := some 64) arr64 rfl ar ls ?_)
            | (refine w_store (x := .tmp 2) arr64 rfl rfl a2w (by simp) ls h1 ?_; intro w5 a5 k5 s5))
          refine bodyPost_ret (results_ar (p := 2) arr64 rfl _ _ rfl a5 ls) rfl ⟨by rw [HX.out], ?_⟩
          exact (k02.then kr (fun i hi _ => by omega)).then k5 (fun i hi _ => by omega)

end Go.Proofs.Ytmcaoimgmgjjiaa
