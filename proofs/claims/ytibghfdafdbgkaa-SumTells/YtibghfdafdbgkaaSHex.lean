/-
  The program's Hex: two digits a byte.
-/
import Derived.Test.YtibghfdafdbgkaaSCrc
import Derived.Deep.RegionLaw
namespace Go.Proofs.Ytibghfdafdbgkaa
open Go.RowKit

/-- append within the room of a row of one's own, as one step of a region that draws. -/
theorem step_fits {ops : Array Oper} {o : Oper} {a : Act} {w : World} {K : Act → World → Prop} {Q : Exit → Act → World → Prop} {E : Prop}
    (hg : o.guard = none) (s x : Operand) (hop : o.op = Op.call { callee := Callee.builtin Builtin.append, args := #[s, x], argTypes := #[24, 24] })
    (base g k cap : Nat) (xs : List Value) (hs : a.eval s = .slice (some ⟨g, 0, none⟩) k cap) (hown : w.ownsRow base 5 1 (.slice (some ⟨g, 0, none⟩) k cap) k xs) (ad : Addr) (m c : Nat) (news : List Value) (hx : a.eval x = .slice (some ad) m c) (hn : news.length = m)
    (hc : ∀ j u, news[j]? = some u → w.cell? (ad.add j) = some u) (h1c : ∀ u ∈ news, u.oneCell' = true) (b1 : k + m ≤ cap)
    (hK : ∀ w', w'.ownsRow base 5 1 (.slice (some ⟨g, 0, none⟩) (k + m) cap) (k + m) (xs ++ news) → w.grownBy w' (some g) → K (a.put o.dst (.slice (some ⟨g, 0, none⟩) (k + m) cap)) w') :
    if Region.wanted o (yielded ops a.tmps) = true then Oper.wp Try.prog o a w K Q else E := by
  obtain ⟨i, hi, hz0, hz1, hz2⟩ := info_parts Try.infoU8
  have hw : Region.wanted o (yielded ops a.tmps) = true := by simp [Region.wanted, hg]
  rw [if_pos hw]
  obtain ⟨w', hrun, r1, r2⟩ := run_append_fits (P := Try.prog) w base 24 o.type 5 i 1 Try.underlying24 hi hz1 g k cap xs hown ad m c news (by simpa using hn) hc h1c b1
  unfold Oper.wp
  simp [execOp, hop, resolve, invoke, builtin, hs, hx, hrun, Result.andThen]
  exact hK w' r1 r2

def digits : ByteArray := ⟨#[48, 49, 50, 51, 52, 53, 54, 55, 56, 57, 97, 98, 99, 100, 101, 102]⟩
theorem digits_all : ∀ n : Fin 16, digits.data[n.val]? = some (hexDigit n.val) := by decide +kernel
theorem digits_at (z : Int) (n : Nat) (hz : z = (n : Int)) (hn : n < 16) (h : z.toNat < digits.size) : digits[z.toNat]'h = hexDigit n := by
  subst hz
  exact (Array.getElem?_eq_some_iff.1 (digits_all ⟨n, hn⟩)).2

theorem hexOf_take (bs : List UInt8) (k : Nat) (h : k < bs.length) : hexOf (bs.take (k + 1)) = hexOf (bs.take k) ++ [hexDigit ((bs[k]).toNat / 16), hexDigit ((bs[k]).toNat % 16)] := by
  rw [List.take_succ_eq_append_getElem h, hexOf_snoc]
  rfl
theorem low4_bits (s : Nat) (h : s < 256) : bits BinOp.and .u8 (s : Int) 15 = ((s % 16 : Nat) : Int) := by
  have := u8_and_nat s 15 h (by decide)
  rw [show (15 : Nat) = 2 ^ 4 - 1 from rfl, Nat.and_two_pow_sub_one_eq_mod] at this
  exact this

set_option maxRecDepth 100000 in
set_option maxHeartbeats 1000000 in
theorem hex_any {w : World} {ao : Option Addr} {cap : Nat} {bs : List UInt8} (hh : Has w ao bs) (hl : (bs.length : Int) ≤ 1000000000000) :
    Calls Try.prog 9 #[.slice ao bs.length cap] w fun e w' => e = .returned (.string ⟨(hexOf bs).toArray⟩) ∧ Kept (fun _ => True) w w' := by
  obtain ⟨i, hi, hz0, hz1, hz2⟩ := info_parts Try.infoU8
  have HH : Hid (Has w ao bs) := hh
  have b1 : i.bytes * (2 * bs.length) ≤ 281474976710656 := by rw [hz2]; omega
  have b2 : 2 * bs.length ≤ maxLen := by unfold maxLen; omega
  clear hh
  go_enter Try.func9, Try.ntmps9
  go_wp2_with (at_make; refine wpList_make_own _ rfl _ _ 24 rfl w.heap.size 5 i (.int .u8 0) 1 Try.underlying24 hi hz0 hz1 _ _ _ (2 * bs.length) rfl rfl (by simp) b1 b2 (Nat.le_refl _) ?_; intro w1 hown hg)
  have k1 : Kept (fun _ => True) w w1 := (Kept.refl _ _).grown hg (fun k _ h => by cases h)
  clear hg
  go_loopw [12, 3] (fun t r wr => ∃ k : Nat, k ≤ bs.length ∧ t = .int .i64 k ∧ r = .slice (some ⟨w.heap.size, 0, none⟩) (2 * k) (2 * bs.length) ∧ wr.ownsRow w.heap.size 5 1 (.slice (some ⟨w.heap.size, 0, none⟩) (2 * k) (2 * bs.length)) (2 * k) (cells (hexOf (bs.take k))) ∧ Kept (fun _ => True) w wr) (fun t _ _ => bs.length - (intOf t).toNat)
  case atStart => exact ⟨0, Nat.zero_le _, rfl, rfl, by simpa [hexOf, cells] using hown, k1⟩
  case round =>
    clear hown k1
    obtain ⟨k, hk, rfl, rfl, ho, kr⟩ := hrel
    by_cases hlt : k < bs.length
    · obtain ⟨a1, o1, rfl, hc0⟩ := has_plain HH.out (by omega)
      have c0 := hc0 k hlt
      have hbl : a1 < w.heap.size := World.block_lt_of_cell? w _ c0
      have c1 : wr.cell? ⟨a1, o1 + k, none⟩ = some (.int .u8 (bs[k]).toNat) := (kept_cell kr hbl trivial).trans c0
      have hkl : (k : Int) < (bs.length : Int) := by omega
      have hk0 : (0 : Int) ≤ (k : Int) := by omega
      have hs := hexOf_take bs k hlt
      have hy := (bs[k]).toNat_lt
      have HS : Hid (hexOf (bs.take (k + 1)) = hexOf (bs.take k) ++ [hexDigit ((bs[k]).toNat / 16), hexDigit ((bs[k]).toNat % 16)]) := hs
      have HO : Hid (wr.ownsRow w.heap.size 5 1 (.slice (some ⟨w.heap.size, 0, none⟩) (2 * k) (2 * bs.length)) (2 * k) (cells (hexOf (bs.take k)))) := ho
      generalize (bs[k]).toNat = y at *
      have d1 := digits_at ((y : Int) / 16) (y / 16) (by omega) (by omega)
      have d2 := digits_at ((y : Int) % 16) (y % 16) (by omega) (by omega)
      unfold digits at d1 d2
      generalize hexDigit (y / 16) = h1 at *
      generalize hexDigit (y % 16) = h2 at *
      have l1 := low4_bits y (by omega)
      have p1 : 0 ≤ (y : Int) / 16 ∧ (y : Int) / 16 < 16 := by omega
      have p2 : 0 ≤ (y : Int) % 16 ∧ (y : Int) % 16 < 16 := by omega
      clear hc0 c0 hs ho
      go_wp2
      go_region_law
        ((refine step_fits rfl (.tmp 16) (.tmp 23) rfl w.heap.size w.heap.size (2 * k) (2 * bs.length) (cells (hexOf (bs.take k))) (by rfl) ((HO.out.alloc _).drew) ⟨wr.heap.size, 0, none⟩ 2 2 [.int .u8 h1.toNat, .int .u8 h2.toNat] (by rfl) (by rfl) (World.news_of_block (cs := #[.int .u8 h1.toNat, .int .u8 h2.toNat]) (t := 5) (fr := (0, 0)) (heap_alloc_new wr _)) (by simp [Value.oneCell']) (by omega) ?_; intro w2 ho2 hg2))
      all_goals
        go_wp2
        go_roundw
        case rel =>
          refine ⟨k + 1, by omega, by go_num, by simp <;> omega, ?_, ?_⟩
          · rw [HS.out, cells_append]
            exact ho2
          · exact ((kr.alloc _).drew).grown hg2 (fun b hb e _ => by cases e; omega)
        case measure => simp [intOf]; omega
    · have hkl : ¬ ((k : Int) < (bs.length : Int)) := by omega
      obtain rfl : k = bs.length := by omega
      rw [List.take_length] at ho
      have hcv : (convert 24 9 (.slice (some ⟨w.heap.size, 0, none⟩) (2 * bs.length) (2 * bs.length))).run Try.prog wr = .ok (.string ⟨(hexOf bs).toArray⟩) wr := conv_own (b := w.heap.size) (bs := hexOf bs) (by rw [hexOf_length]; exact ho)
      clear ho
      go_wp2
      go_ret
      exact ⟨rfl, kr⟩

end Go.Proofs.Ytibghfdafdbgkaa
