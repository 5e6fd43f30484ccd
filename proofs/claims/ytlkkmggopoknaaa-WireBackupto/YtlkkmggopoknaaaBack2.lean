/-
  Plain facts on WireBack: each Part's four writings, and how they are read.
-/
import Derived.Test.YtlkkmggopoknaaaRef3
import Derived.Test.YtlkkmggopoknaaaWr4
import Derived.Test.YtlkkmggopoknaaaRd6
namespace Go.Proofs.Ytlkkmggopoknaaa
open Go.RowKit

def PartV.all (p : PartV) : List UInt8 := Proofs.Ytlkkmggopoknaaa.enc (u64 p.n) 1 ++ Proofs.Ytlkkmggopoknaaa.enc (u64 p.n) 4 ++ Proofs.Ytlkkmggopoknaaa.enc (u64 p.wide) 8 ++ (Proofs.Ytlkkmggopoknaaa.enc (u64 p.s.size) 4 ++ p.s.data.toList)
def allTo (ps : List PartV) (k : Nat) : List UInt8 := (ps.take k).flatMap PartV.all
theorem all_length (p : PartV) : p.all.length = 17 + p.s.size := by
  have e : p.s.data.toList.length = p.s.size := rfl
  simp only [PartV.all, List.length_append, enc_length, e]
  omega
theorem allTo_succ (ps : List PartV) (k : Nat) (p : PartV) (h : ps[k]? = some p) : allTo ps (k + 1) = allTo ps k ++ p.all := by
  unfold allTo
  rw [List.take_add_one, h]
  simp
theorem allTo_split (ps : List PartV) (k m : Nat) (p : PartV) (h : ps[k]? = some p) (hkm : k < m) : ∃ rest, allTo ps m = allTo ps k ++ p.all ++ rest := by
  refine ⟨((ps.take m).drop (k + 1)).flatMap PartV.all, ?_⟩
  rw [← allTo_succ ps k p h]
  unfold allTo
  rw [← List.flatMap_append]
  congr 1
  have : ps.take (k + 1) = (ps.take m).take (k + 1) := by rw [List.take_take]; congr 1; omega
  rw [this, List.take_append_drop]
theorem allTo_len (ps : List PartV) (k : Nat) : (allTo ps k).length ≤ 3 * weigh ps := by
  induction ps generalizing k with
  | nil => simp [allTo]
  | cons p ps ih =>
    cases k with
    | zero => simp [allTo]
    | succ k =>
      have h1 := ih k
      have h2 := all_length p
      simp only [allTo, List.take_succ_cons, List.flatMap_cons, List.length_append, weigh, List.map_cons, List.sum_cons] at *
      omega
theorem part_room (ps : List PartV) (k : Nat) (p : PartV) (h : ps[k]? = some p) : (allTo ps k).length + (17 + p.s.size) ≤ 3 * weigh ps := by
  have h1 := allTo_len ps (k + 1)
  rw [allTo_succ ps k p h, List.length_append, all_length] at h1
  exact h1
theorem part_size (ps : List PartV) (k : Nat) (p : PartV) (h : ps[k]? = some p) : p.s.size ≤ weigh ps := by
  have := part_weigh ps k p h; omega

/-- Where a Reader stands. -/
def RS.on (n : Nat) : RS := ⟨n, 0⟩

/-- What a Reader reads of a Part, and where it stands behind it. -/
theorem read_part (cur rest : List UInt8) (p : PartV) (hs : p.s.size < 4294967296) :
    ∃ b1 b2 b3 : Nat, (RS.on cur.length).num (cur ++ p.all ++ rest) 1 = (b1, RS.on (cur.length + 1)) ∧ b1 = (u64 p.n).toNat % 256 ∧
      (RS.on (cur.length + 1)).num (cur ++ p.all ++ rest) 4 = (b2, RS.on (cur.length + 5)) ∧ b2 = (u64 p.n).toNat % 4294967296 ∧
      (RS.on (cur.length + 5)).num (cur ++ p.all ++ rest) 8 = (b3, RS.on (cur.length + 13)) ∧ b3 = (u64 p.wide).toNat ∧
      (RS.on (cur.length + 13)).text (cur ++ p.all ++ rest) p.s.size = (p.s.data.toList, RS.on (cur ++ p.all).length) := by
  have e : p.s.data.toList.length = p.s.size := rfl
  refine ⟨_, _, _, ?_, rfl, ?_, rfl, ?_, rfl, ?_⟩
  · have := num_back cur (enc (u64 p.n) 4 ++ enc (u64 p.wide) 8 ++ (enc (u64 p.s.size) 4 ++ p.s.data.toList) ++ rest) (u64 p.n) 1
    simpa [PartV.all, List.append_assoc, RS.on] using this
  · have := num_back (cur ++ enc (u64 p.n) 1) (enc (u64 p.wide) 8 ++ (enc (u64 p.s.size) 4 ++ p.s.data.toList) ++ rest) (u64 p.n) 4
    simpa [PartV.all, List.append_assoc, RS.on, enc_length, Nat.add_assoc] using this
  · have h := num_back (cur ++ enc (u64 p.n) 1 ++ enc (u64 p.n) 4) (enc (u64 p.s.size) 4 ++ p.s.data.toList ++ rest) (u64 p.wide) 8
    have hw : (u64 p.wide).toNat % 256 ^ 8 = (u64 p.wide).toNat := by
      apply Nat.mod_eq_of_lt
      simp [u64, IntKind.wrap, IntKind.bits, IntKind.signed]
      omega
    rw [hw] at h
    simpa [PartV.all, List.append_assoc, RS.on, enc_length, Nat.add_assoc] using h
  · have h := text_back (cur ++ enc (u64 p.n) 1 ++ enc (u64 p.n) 4 ++ enc (u64 p.wide) 8) rest p.s.data.toList p.s.size (by rw [e]; exact hs) (by rw [e]; omega)
    have hu : u64 (p.s.size : Int) = (p.s.size : Int) := by simp [u64, IntKind.wrap, IntKind.bits, IntKind.signed]; omega
    have hl : (cur ++ p.all).length = cur.length + (17 + p.s.size) := by rw [List.length_append, all_length]
    rw [e] at h
    simp only [List.length_append, enc_length] at h
    have e2 : cur.length + 1 + 4 + 8 + 4 + p.s.size = (cur ++ p.all).length := by rw [hl]; omega
    rw [e2] at h
    have e3 : cur ++ p.all ++ rest = cur ++ enc (u64 p.n) 1 ++ enc (u64 p.n) 4 ++ enc (u64 p.wide) 8 ++ enc (p.s.size : Nat) 4 ++ p.s.data.toList ++ rest := by
      simp [PartV.all, hu, List.append_assoc]
    rw [e3]
    simpa [RS.on, Nat.add_assoc] using h

theorem and_byte (n : Int) : bits BinOp.and .i64 n 255 = (((u64 n).toNat % 256 : Nat) : Int) := by
  have h255 : (BitVec.ofInt 64 255).toNat = 2 ^ 8 - 1 := by decide
  have key : (BitVec.ofInt 64 n &&& BitVec.ofInt 64 255).toNat = (n % ((2 ^ 64 : Nat) : Int)).toNat % 2 ^ 8 := by
    rw [BitVec.toNat_and, BitVec.toNat_ofInt, h255, Nat.and_two_pow_sub_one_eq_mod]
  show IntKind.i64.wrap ((BitVec.ofInt 64 n &&& BitVec.ofInt 64 255).toNat : Nat) = _
  rw [key, IntKind.wrap_i64]
  simp [u64, IntKind.wrap, IntKind.bits, IntKind.signed]
  omega
theorem i64_back (n : Int) (h0 : (Lit.int .i64 n).wf = true) : i64 (((u64 n).toNat : Nat) : Int) = n := by
  simp [Lit.wf, IntKind.min, IntKind.max, IntKind.signed, IntKind.bits] at h0
  simp [i64, wrap64, u64, IntKind.wrap, IntKind.bits, IntKind.signed]
  omega
theorem u32_back (n : Int) : IntKind.u32.wrap n = (((u64 n).toNat % 4294967296 : Nat) : Int) := by
  simp [u64, IntKind.wrap, IntKind.bits, IntKind.signed]
  omega

end Go.Proofs.Ytlkkmggopoknaaa
