/-
  The program's Hex: two digits a byte.
-/
import Derived.Test.YtebpkhemkdgbjaaSCrc
import Derived.Deep.RegionLaw
namespace Go.Proofs.Ytebpkhemkdgbjaa
open Go.RowKit

/-- append within the room of a row of one's own, as one step of a region that draws. -/
theorem step_fits {ops : Array Oper} {o : Oper} {a : Act} {w : World} {K : Act → World → Prop} {Q : Exit → Act → World → Prop} {E : Prop}
    (hg : o.guard = none) (s x : Operand) (hop : o.op = Op.call { callee := Callee.builtin Builtin.append, args := #[s, x], argTypes := #[42, 42] })
    (base g k cap : Nat) (xs : List Value) (hs : a.eval s = .slice (some ⟨g, 0, none⟩) k cap) (hown : w.ownsRow base 5 1 (.slice (some ⟨g, 0, none⟩) k cap) k xs) (ad : Addr) (m c : Nat) (news : List Value) (hx : a.eval x = .slice (some ad) m c) (hn : news.length = m)
    (hc : ∀ j u, news[j]? = some u → w.cell? (ad.add j) = some u) (h1c : ∀ u ∈ news, u.oneCell' = true) (b1 : k + m ≤ cap)
    (hK : ∀ w', w'.ownsRow base 5 1 (.slice (some ⟨g, 0, none⟩) (k + m) cap) (k + m) (xs ++ news) → w.grownBy w' (some g) → K (a.put o.dst (.slice (some ⟨g, 0, none⟩) (k + m) cap)) w') :
    if Region.wanted o (yielded ops a.tmps) = true then Oper.wp Try.prog o a w K Q else E := by
  obtain ⟨i, hi, hz0, hz1, hz2⟩ := info_parts Try.infoU8
  have hw : Region.wanted o (yielded ops a.tmps) = true := by simp [Region.wanted, hg]
  rw [if_pos hw]
  obtain ⟨w', hrun, r1, r2⟩ := run_append_fits (P := Try.prog) w base 42 o.type 5 i 1 Try.underlying42 hi hz1 g k cap xs hown ad m c news (by simpa using hn) hc h1c b1
  unfold Oper.wp
  simp [execOp, hop, resolve, invoke, builtin, hs, hx, hrun, Result.andThen]
  exact hK w' r1 r2

def digits : ByteArray := ⟨#[48, 49, 50, 51, 52, 53, 54, 55, 56, 57, 97, 98, 99, 100, 101, 102]⟩
theorem digits_all : ∀ n : Fin 16, digits.data[n.val]? = some (hexDigit n.val) := by decide +kernel
theorem digits_at (z : Int) (n : Nat) (hz : z = (n : Int)) (hn : n < 16) (h : z.toNat < digits.size) : digits[z.toNat]'h = hexDigit n := by
  subst hz
  exact (Array.getElem?_eq_some_iff.1 (digits_all ⟨n, hn⟩)).2

theorem hexOf_take (bs : List UInt8) (k : Nat) (h : k < bs.length) : hexOf (bs.take (k + 1)) = hexOf (bs.take k) ++ [hexDigit ((bs[k]).toNat / 16), hexDigit ((bs[k]).toNat % 16)] := by
  rw [List.take_succ_eq_append_getElem h, hexOf_snoc]
  rfl
theorem low4_bits (s : Nat) (h : s < 256) : bits BinOp.and .u8 (s : Int) 15 = ((s % 16 : Nat) : Int) := by
  have := u8_and_nat s 15 h (by decide)
  rw [show (15 : Nat) = 2 ^ 4 - 1 from rfl, Nat.and_two_pow_sub_one_eq_mod] at this
  exact this

end Go.Proofs.Ytebpkhemkdgbjaa
