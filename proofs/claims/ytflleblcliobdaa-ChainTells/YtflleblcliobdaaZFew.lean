/-
  The law's few: the first texts, each cut to a hundred letters; two rows of the same texts held against one another; texts that came in.
-/
import Derived.Test.YtflleblcliobdaaWStr
namespace Go.Proofs.Ytflleblcliobdaa
open Go.RowKit

/-- Texts that are looked at. -/
def Tv (w : World) (a : Option Addr) (ss : List (List UInt8)) : Prop :=
  0 < ss.length → ∃ b off, a = some ⟨b, off, none⟩ ∧ b < w.heap.size ∧ ∀ i (h : i < ss.length), w.cell? ⟨b, off + i, none⟩ = some (.string ⟨(ss[i]).toArray⟩)
theorem Tv.all {w w' : World} {a : Option Addr} {ss : List (List UInt8)} (h : Tv w a ss) (k : Kept (fun _ => True) w w') : Tv w' a ss := fun h0 => by
  obtain ⟨b, off, e, hb, hc⟩ := h h0
  exact ⟨b, off, e, Nat.lt_of_lt_of_le hb k.size, fun i hi => (kept_cell k hb trivial).trans (hc i hi)⟩
theorem Txs.tv {w : World} {base : Nat} {ao : Option Addr} {n cap : Nat} {ss : List (List UInt8)} (h : Txs w base (.slice ao n cap) ss) : Tv w ao ss := fun h0 => by
  obtain ⟨ao', cap', e, _, hg⟩ := h.shape
  injection e with e1 e2 e3
  subst e1 e2
  obtain ⟨g, rfl⟩ := hg h0
  exact ⟨g, 0, rfl, World.block_lt_of_cell? w _ (h.cell 0 h0), fun i hi => by rw [Nat.zero_add]; exact h.cell i hi⟩

def fewP (ss : List (List UInt8)) (most : Nat) : List (List UInt8) := (ss.take most).map (·.take 100)
theorem fewP_length (ss : List (List UInt8)) (most : Nat) : (fewP ss most).length = min most ss.length := by simp [fewP]
theorem fewP_short {ss : List (List UInt8)} {most : Nat} {s : List UInt8} (h : s ∈ fewP ss most) : s.length ≤ 100 := by
  obtain ⟨x, _, rfl⟩ := List.mem_map.1 h
  simp; omega
theorem fewP_succ (ss : List (List UInt8)) (k : Nat) (hk : k < ss.length) : fewP ss (k + 1) = fewP ss k ++ [ss[k].take 100] := by
  unfold fewP
  rw [List.take_succ_eq_append_getElem hk, List.map_append]
  rfl

theorem tcut100 (bs : List UInt8) (hk : 100 ≤ bs.length) (w0 : World) : (Instr.slice 9 (.string ⟨bs.toArray⟩) none (some (.int .i64 100)) none).run Try.prog w0 = .ok (.string ⟨(bs.take 100).toArray⟩) w0 := by
  have hs : ((⟨bs.toArray⟩ : ByteArray).size : Int) = (bs.length : Int) := by simp [ByteArray.size]
  rw [run_slice_string_to_if (P := Try.prog) w0 9 ⟨bs.toArray⟩ .i64 100 Try.underlying9, if_pos ⟨by omega, by omega⟩]
  congr 2
  apply ByteArray.ext
  simp

set_option maxRecDepth 100000 in
set_option maxHeartbeats 2000000 in
theorem fewL_any {w : World} {ao : Option Addr} {cap : Nat} {ss : List (List UInt8)} (most : Nat) (hm : most ≤ 10) (h : Tv w ao ss) :
    Calls Try.prog 15 #[.slice ao ss.length cap, .int .i64 most] w fun e w' => ∃ a' c', e = .returned (.slice a' (fewP ss most).length c') ∧ Txs w' w.heap.size (.slice a' (fewP ss most).length c') (fewP ss most) ∧ Kept (fun _ => True) w w' := by
  have HV : Hid (Tv w ao ss) := h
  clear h
  go_enter Try.func15, Try.ntmps15
  go_wp2
  go_loopw [5, 6] (fun v t wr => ∃ (k : Nat) (a' : Option Addr) (c' : Nat), k ≤ ss.length ∧ k ≤ most ∧ t = .int .i64 k ∧ v = .slice a' k c' ∧ Txs wr w.heap.size (.slice a' k c') (fewP ss k) ∧ Kept (fun _ => True) w wr) (fun _ t _ => most - (intOf t).toNat)
  case atStart => exact ⟨0, none, 0, Nat.zero_le _, Nat.zero_le _, rfl, rfl, Txs.nil w _, Kept.refl _ _⟩
  case round =>
    obtain ⟨k, a', c', hk, hkm, rfl, rfl, ht, kr⟩ := hrel
    have lk : (fewP ss k).length = k := by rw [fewP_length]; omega
    by_cases hlt : k < ss.length
    · by_cases hlm : k < most
      · obtain ⟨b, off, rfl, hb, hc⟩ := HV.out (by omega)
        have c0 := (kept_cell kr hb trivial).trans (hc k hlt)
        have i0 : (0 : Int) ≤ (k : Int) := by omega
        have i1 : (k : Int) < (ss.length : Int) := by omega
        have i2 : (k : Int) < (most : Int) := by omega
        have HS : Hid (fewP ss (k + 1) = fewP ss k ++ [ss[k].take 100]) := fewP_succ ss k hlt
        have hz := kr.size
        clear hc
        by_cases hcut : 100 < (ss[k]).length
        · have hs := tcut100 ss[k] (by omega)
          have j0 : (100 : Int) < ((ss[k]).length : Int) := by omega
          generalize ss[k].take 100 = s at *
          generalize ss[k] = s0 at *
          go_wp2_with (at_builtin; refine wpList_append_text rfl (.tmp 28) (.tmp 30) rfl w.heap.size (.slice a' k c') (fewP ss k) rfl (ht.kept ((Kept.refl (fun _ => True) wr).alloc _) (fun _ _ => trivial)) (by simp; omega) _ rfl s (0, 0) (heap_alloc_new wr _) (by omega) ?_; intro a2 c2 w2 ht2 hg2 hl2)
          go_roundw
          case rel =>
            rw [lk] at ht2
            refine ⟨k + 1, a2, c2, by omega, by omega, by go_num, by first | rfl | rw [lk], by rw [HS.out]; exact ht2, ?_⟩
            exact (kr.alloc _).grown hg2 (fun i hi e => by have := (World.ownsRow.lt ht i e).1; omega)
          case measure => simp [intOf]; omega
        · have j0 : ¬ (100 : Int) < ((ss[k]).length : Int) := by omega
          rw [List.take_of_length_le (by omega)] at HS
          generalize ss[k] = s at *
          go_wp2_with (at_builtin; refine wpList_append_text rfl (.tmp 28) (.tmp 30) rfl w.heap.size (.slice a' k c') (fewP ss k) rfl (ht.kept ((Kept.refl (fun _ => True) wr).alloc _) (fun _ _ => trivial)) (by simp; omega) _ rfl s (0, 0) (heap_alloc_new wr _) (by omega) ?_; intro a2 c2 w2 ht2 hg2 hl2)
          go_roundw
          case rel =>
            rw [lk] at ht2
            refine ⟨k + 1, a2, c2, by omega, by omega, by go_num, by first | rfl | rw [lk], by rw [HS.out]; exact ht2, ?_⟩
            exact (kr.alloc _).grown hg2 (fun i hi e => by have := (World.ownsRow.lt ht i e).1; omega)
          case measure => simp [intOf]; omega
      · have i1 : (k : Int) < (ss.length : Int) := by omega
        have i2 : ¬ (k : Int) < (most : Int) := by omega
        have hke : k = most := by omega
        subst hke
        go_wp2
        go_ret
        exact ⟨a', c', rfl, ht, kr⟩
    · have i1 : ¬ (k : Int) < (ss.length : Int) := by omega
      have hke : k = ss.length := by omega
      have he : fewP ss most = fewP ss k := by
        unfold fewP
        rw [List.take_of_length_le (by omega), List.take_of_length_le (by omega)]
      clear hlt
      have HE : Hid (fewP ss most = fewP ss k ∧ (fewP ss k).length = k) := ⟨he, lk⟩
      clear he lk hke
      go_wp2
      go_ret
      rw [HE.out.1, HE.out.2]
      exact ⟨a', c', rfl, ht, kr⟩

set_option maxRecDepth 100000 in
set_option maxHeartbeats 1000000 in
theorem strsame_any {w : World} {a1 a2 : Option Addr} {c1 c2 : Nat} {xs : List (List UInt8)} (h1 : Tv w a1 xs) (h2 : Tv w a2 xs) (hl : xs.length ≤ 1000) :
    Calls Try.prog 26 #[.slice a1 xs.length c1, .slice a2 xs.length c2] w fun e w' => e = .returned (.bool true) ∧ ∃ m, w' = w.drewN m := by
  have H1 : Hid (Tv w a1 xs) := h1
  have H2 : Hid (Tv w a2 xs) := h2
  clear h1 h2
  go_enter Try.func26, Try.ntmps26
  go_wp2
  go_loopw [5] (fun t wr => ∃ i m : Nat, i ≤ xs.length ∧ t = .int .i64 i ∧ wr = w.drewN m) (fun t _ => xs.length - (intOf t).toNat)
  case atStart => exact ⟨0, 0, Nat.zero_le _, rfl, rfl⟩
  case round =>
    obtain ⟨i, m, hi, rfl, rfl⟩ := hrel
    by_cases hlt : i < xs.length
    · obtain ⟨b, off, rfl, hb, hc⟩ := H1.out (by omega)
      obtain ⟨b', off', rfl, hb', hc'⟩ := H2.out (by omega)
      have d0 := hc i hlt
      have e0 := hc' i hlt
      clear hc hc'
      generalize xs[i] = s at *
      have i0 : (0 : Int) ≤ (i : Int) := by omega
      have i1 : (i : Int) < (xs.length : Int) := by omega
      go_wp2
      go_quiet (fail)
      go_wp2
      go_roundw
      case rel => exact ⟨i + 1, _, by omega, by go_num, rfl⟩
      case measure => simp [intOf]; omega
    · have i1 : ¬ (i : Int) < (xs.length : Int) := by omega
      go_wp2
      go_ret
      exact ⟨rfl, m, rfl⟩

end Go.Proofs.Ytflleblcliobdaa
