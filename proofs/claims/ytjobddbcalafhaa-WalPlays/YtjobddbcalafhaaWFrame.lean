/-
  The program's Frame, and the document's Four and Frame: new bytes, those of the frame.
-/
import Derived.Test.YtjobddbcalafhaaWPlain
import Derived.Test.YtjobddbcalafhaaSCrc
import Derived.Test.YtjobddbcalafhaaRCrc
import Derived.Test.YtjobddbcalafhaaXWr3
namespace Go.Proofs.Ytjobddbcalafhaa
open Go.RowKit

/-- A row of one byte that was made just now. -/
theorem own_block {w : World} {base D : Nat} {bs : List UInt8} (h : w.heap[D]? = some (.cells (cells bs).toArray 5 (0, 0))) (hb : base ≤ D) (hl : bs.length ≤ 140737488355328) : w.ownsRow base 5 1 (.slice (some ⟨D, 0, none⟩) bs.length bs.length) bs.length (cells bs) :=
  ⟨by simp [cells_length], .inr ⟨D, bs.length, (cells bs).toArray, rfl, hb, h, Nat.le_refl _, by unfold maxLen; omega, by simp [cells_length], by rw [List.take_of_length_le (by simp [cells_length])]⟩⟩
/-- A row that lies where no older one did. -/
theorem own_raise {w : World} {b n : Nat} {v : Value} {xs : List Value} (h : w.ownsRow 0 5 1 v n xs) (hx : ∀ x, v.ownBlock = some x → b ≤ x) : w.ownsRow b 5 1 v n xs := by
  refine ⟨h.1, ?_⟩
  rcases h.2 with h0 | ⟨g, cap, cur, rfl, _, rest⟩
  · exact .inl h0
  · exact .inr ⟨g, cap, cur, rfl, hx g rfl, rest⟩
theorem own_lower {w : World} {b b' n : Nat} {v : Value} {xs : List Value} (h : w.ownsRow b 5 1 v n xs) (hb : b' ≤ b) : w.ownsRow b' 5 1 v n xs := by
  refine ⟨h.1, ?_⟩
  rcases h.2 with h0 | ⟨g, cap, cur, hv, hg, rest⟩
  · exact .inl h0
  · exact .inr ⟨g, cap, cur, hv, Nat.le_trans hb hg, rest⟩
theorem u64_nat (n : Nat) (h : n < 18446744073709551616) : u64 (n : Int) = (n : Int) := by
  simp [u64, IntKind.wrap, IntKind.bits, IntKind.signed]; omega

theorem size_list (s : ByteArray) : s.data.toList.length = s.size := Array.length_toList
theorem crc_at {w : World} {ao : Option Addr} {n cap : Nat} {bs : List UInt8} (hh : Has w ao bs) (hn : bs.length = n) (hl : n ≤ 140737488355328) :
    Calls Try.prog 27 #[.slice ao n cap] w fun e w' => e = .returned (.int .u32 (crcOf bs : Nat)) ∧ w' = w := by
  subst hn
  exact crc_any hh (by omega)
theorem rcrc_at {w : World} {ao : Option Addr} {n cap : Nat} {bs : List UInt8} (hh : Has w ao bs) (hn : bs.length = n) (hl : n ≤ 140737488355328) :
    Calls Try.prog 21 #[.slice ao n cap] w fun e w' => e = .returned (.int .u32 (crcOf bs : Nat)) ∧ w' = w := by
  subst hn
  exact rcrc_any hh (by omega)

theorem frame_eq (first : Bool) (r : List UInt8) (c : Nat) (hc : c = crcOf (kindOf first :: r)) (hr : r.length ≤ 1099511627776) :
    (([] ++ enc (u64 (r.length : Nat)) 4) ++ enc (u64 (c : Nat)) 4) ++ (kindOf first :: r) = frameOf first r := by
  have := crcOf_lt (kindOf first :: r)
  rw [u64_nat _ (by omega), u64_nat _ (by omega), hc]
  simp [frameOf]

/-- What a frame's bytes behind its length are, just made. -/
structure Body (w w1 : World) (ao : Option Addr) (n cap : Nat) (bs : List UInt8) : Prop where
  own : w1.ownsRow w.heap.size 5 1 (.slice ao n cap) n (cells bs)
  len : bs.length = n
  kept : Kept (fun _ => True) w w1
theorem Body.mk1 {w wa w1 : World} {x : UInt8} {ao : Option Addr} {cap : Nat} {s : ByteArray} (_ : wa.ownsRow w.heap.size 5 1 (.slice (some ⟨w.heap.size, 0, none⟩) 1 1) 1 (cells [x])) (hk : Kept (fun _ => True) w wa)
    (ho : w1.ownsRow 0 5 1 (.slice ao (1 + s.size) cap) (1 + s.size) (cells [x] ++ cells s.data.toList)) (hg : wa.grownBy w1 (some w.heap.size))
    (hat : (some w.heap.size : Option Nat) = (Value.slice ao (1 + s.size) cap).ownBlock ∨ ∃ g, (Value.slice ao (1 + s.size) cap).ownBlock = some g ∧ wa.heap.size ≤ g) : Body w w1 ao (1 + s.size) cap (x :: s.data.toList) := by
  refine ⟨?_, ?_, hk.grown hg (fun k hk' e => by cases e; omega)⟩
  · rw [← cells_append] at ho
    refine own_raise ho (fun y hy => ?_)
    rcases hat with e | ⟨g, e, hg'⟩
    · rw [← e] at hy; cases hy; exact Nat.le_refl _
    · rw [e] at hy; cases hy; exact Nat.le_trans hk.size hg'
  · rw [List.length_cons, size_list, Nat.add_comm]
theorem Body.has {w w1 : World} {ao : Option Addr} {n cap : Nat} {bs : List UInt8} (h : Body w w1 ao n cap bs) : Has w1 ao bs := by
  obtain ⟨ho, rfl, -⟩ := h
  exact own_has ho
theorem Body.nil {w w1 : World} {ao : Option Addr} {n cap : Nat} {bs : List UInt8} (h : Body w w1 ao n cap bs) : ao = none → cap = 0 := by
  rcases h.own.2 with ⟨hv, _⟩ | ⟨g, c, cur, hv, _⟩
  · injection hv with e1 e2 e3
    intro _; exact e3
  · injection hv with e1 e2 e3
    intro e; rw [e] at e1; cases e1
theorem Body.next {p : Nat → Prop} {w w1 w2 : World} {ao : Option Addr} {n cap : Nat} {bs : List UInt8} (h : Body w w1 ao n cap bs) (hk : Kept p w1 w2) (hp : ∀ k, k < w.heap.size → p k) (ho : ∀ k, (Value.slice ao n cap).ownBlock = some k → p k) : Body w w2 ao n cap bs :=
  ⟨own_kept h.own hk ho, h.len, h.kept.then hk (fun i hi _ => hp i hi)⟩
theorem Body.blk {w w1 : World} {ao : Option Addr} {n cap : Nat} {bs : List UInt8} (h : Body w w1 ao n cap bs) : ∀ k, (Value.slice ao n cap).ownBlock = some k → k < w1.heap.size := fun k hk => (h.own.lt k hk).2

set_option maxHeartbeats 1000000 in
theorem frame_any {w : World} (first : Bool) (s : ByteArray) (hs : s.size ≤ 1099511627776) :
    Calls Try.prog 22 #[.bool first, .string s] w fun e w' => ∃ r, e = .returned r ∧ w'.ownsRow w.heap.size 5 1 r (frameOf first s.data.toList).length (cells (frameOf first s.data.toList)) ∧ Kept (fun _ => True) w w' := by
  have hc := crcOf_lt (kindOf first :: s.data.toList)
  have hW : IntKind.i64.wrap ((crcOf (kindOf first :: s.data.toList) : Nat) : Int) = (crcOf (kindOf first :: s.data.toList) : Nat) := by simp [IntKind.wrap, IntKind.bits, IntKind.signed]; omega
  have HE := frame_eq first s.data.toList (crcOf (kindOf first :: s.data.toList)) rfl (by rw [size_list]; exact hs)
  have hsz : ((s.data.toList).length : Int) = (s.size : Int) := by rw [size_list]
  generalize hC : crcOf (kindOf first :: s.data.toList) = C at *
  have HC : Hid (crcOf (kindOf first :: s.data.toList) = C) := hC
  have HE' : Hid (([] ++ enc (u64 (s.size : Nat)) 4) ++ enc (u64 (C : Nat)) 4 ++ (kindOf first :: s.data.toList) = frameOf first s.data.toList) := by rw [← HE, hsz]; exact rfl
  clear hC HE hsz
  generalize hF : frameOf first s.data.toList = F at *
  clear hF
  cases first
  all_goals
    go_enter Try.func22, Try.ntmps22
    go_wp2_with (at_builtin; (first
          | refine wpList_append_str rfl (.tmp 11) (.tmp 12) rfl (.slice (some ⟨w.heap.size, 0, none⟩) 1 1) 1 (cells [kindOf false]) rfl (own_block (bs := [kindOf false]) (heap_alloc_new w _) (Nat.zero_le _) (by decide)) s rfl (by omega) ?_
          | refine wpList_append_str rfl (.tmp 11) (.tmp 12) rfl (.slice (some ⟨w.heap.size, 0, none⟩) 1 1) 1 (cells [kindOf true]) rfl (own_block (bs := [kindOf true]) (heap_alloc_new w _) (Nat.zero_le _) (by decide)) s rfl (by omega) ?_); intro ao cap w1 ho hg hat)
    have hB := by first
      | exact Body.mk1 (w := w) (own_block (bs := [kindOf false]) (heap_alloc_new w _) (Nat.le_refl _) (by decide)) ((Kept.refl _ _).alloc _) ho hg hat
      | exact Body.mk1 (w := w) (own_block (bs := [kindOf true]) (heap_alloc_new w _) (Nat.le_refl _) (by decide)) ((Kept.refl _ _).alloc _) ho hg hat
    clear ho hg hat
    refine Calls.mono newWriter_any ?_
    rintro e w2 ⟨rfl, hw2, k2, -⟩
    have b1 := hB.blk
    have b2 := hB.kept.size
    have hB2 := hB.next k2 (fun _ _ => trivial) (fun _ _ => trivial)
    have k2s := k2.size
    clear hB k2
    generalize w1.heap.size = B at *
    go_wp2_with fail
    refine Calls.mono (wfour_any (s.size : Int) hw2 (by simp)) ?_
    rintro e w3 ⟨rfl, G3, v3, hw3, k3, n3⟩
    have hB3 := hB2.next k3 (fun k hk => ⟨by omega, by simp⟩) (fun k hk => ⟨by have := b1 k hk; omega, by simp⟩)
    replace n3 : ∀ x, G3 = some x → w2.heap.size ≤ x := fun x hx => (n3 x hx).resolve_left (by simp)
    have b3 := hB2.blk
    have b4 := hB2.kept.size
    clear hB2 hw2 k3
    go_wp2_with fail
    refine Calls.mono (crc_at hB3.has hB3.len (by omega)) ?_
    rintro e w3 ⟨rfl, rfl⟩
    rw [HC.out]
    go_wp2_with fail
    refine Calls.mono (wfour_any (C : Int) hw3 (by simp [enc_length])) ?_
    rintro e w4 ⟨rfl, G4, v4, hw4, k4, n4⟩
    have hB4 := hB3.next k4 (fun k hk => ⟨by omega, fun e => by have := n3 k e; omega⟩) (fun k hk => ⟨by have := b1 k hk; omega, fun e => by have := n3 k e; have := b3 k hk; omega⟩)
    clear hB3 hw3 k4 n4
    go_wp2_with fail
    refine Calls.mono (done_any hw4 (by simp [enc_length])) ?_
    rintro e w5 ⟨D, rfl, hD, k5, hD5⟩
    have hB5 := hB4.next k5 (fun _ _ => trivial) (fun _ _ => trivial)
    have hDw : w.heap.size ≤ D := Nat.le_trans hB4.kept.size hD5
    clear hB4 hw4 k5
    have HB5 : Hid (Body w w5 ao (1 + s.size) cap _) := hB5
    clear hB5
    have hll : ([] ++ enc (u64 (s.size : Int)) 4 ++ enc (u64 (C : Int)) 4).length = 8 := by simp [enc_length]
    have HO : Hid (w5.ownsRow w.heap.size 5 1 (.slice (some ⟨D, 0, none⟩) 8 8) 8 (cells ([] ++ enc (u64 (s.size : Int)) 4 ++ enc (u64 (C : Int)) 4))) := by
      have := own_block hD hDw (by omega)
      rw [hll] at this
      exact this
    rw [hll]
    clear hD
    go_wp2_with (at_builtin; refine wpList_append_has rfl (.tmp 25) (.tmp 26) rfl w.heap.size (.slice (some ⟨D, 0, none⟩) 8 8) 8 _ rfl HO.out (Nat.le_trans hDw (Nat.le_of_lt (HO.out.lt D rfl).2)) ao (1 + s.size) cap rfl _ HB5.out.len HB5.out.nil HB5.out.has (by omega) ?_; intro a6 c6 w6 ho6 hg6 hl6)
    go_ret
    refine ⟨_, rfl, ?_, HB5.out.kept.grown hg6 (fun k hk e => by have e' : D = k := (by simpa [Value.ownBlock] using e); omega)⟩
    rw [← cells_append, HE'.out] at ho6
    have hlF : F.length = 8 + (1 + s.size) := by
      rw [← HE'.out, List.length_append, hll, HB5.out.len]
    rw [hlF]
    exact ho6

theorem byte0 (n : Int) : IntKind.u8.wrap n = ((byteAt (u64 n) 0).toNat : Int) := by
  rw [byteAt_toNat]
  simp [u64, IntKind.wrap, IntKind.bits, IntKind.signed]; omega
theorem byte1 (n : Int) : IntKind.u8.wrap (n / 256) = ((byteAt (u64 n) 1).toNat : Int) := by
  rw [byteAt_toNat]
  simp [u64, IntKind.wrap, IntKind.bits, IntKind.signed]; omega
theorem byte2 (n : Int) : IntKind.u8.wrap (n / 65536) = ((byteAt (u64 n) 2).toNat : Int) := by
  rw [byteAt_toNat]
  simp [u64, IntKind.wrap, IntKind.bits, IntKind.signed]; omega
theorem byte3 (n : Int) : IntKind.u8.wrap (n / 16777216) = ((byteAt (u64 n) 3).toNat : Int) := by
  rw [byteAt_toNat]
  simp [u64, IntKind.wrap, IntKind.bits, IntKind.signed]; omega

end Go.Proofs.Ytjobddbcalafhaa
