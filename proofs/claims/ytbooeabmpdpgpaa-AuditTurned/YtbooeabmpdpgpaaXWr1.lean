/-
  A Writer's number: the lowest bytes of n, the highest first, behind what is written.
-/
import Derived.Test.YtbooeabmpdpgpaaXNew
import Derived.Deep.RegionLaw
import Derived.BigRegion
import Derived.Lib.AppendStr
namespace Go.Proofs.Ytbooeabmpdpgpaa
open Go.RowKit

/-- Behind an append to the Writer's bytes and the store of the new slice. -/
theorem Wr.step {wr w0 w1 : World} {B : Nat} {G : Option Nat} {v nv : Value} {bs news : List UInt8} {n : Nat} (hw : Wr wr B G v bs) (h0 : Kept (fun _ => True) wr w0) (hn : n = (bs ++ news).length)
    (hown : w1.ownsRow 0 5 1 nv n (cells bs ++ cells news)) (hgrow : w0.grownBy w1 v.ownBlock) (hat : v.ownBlock = nv.ownBlock ∨ ∃ g, nv.ownBlock = some g ∧ wr.heap.size ≤ g) :
    Wr (w1.setCell ⟨B, 0, none⟩ nv) B nv.ownBlock nv (bs ++ news) ∧
      Kept (fun x => x ≠ B ∧ G ≠ some x) wr (w1.setCell ⟨B, 0, none⟩ nv) ∧ (∀ x, nv.ownBlock = some x → G = some x ∨ wr.heap.size ≤ x) := by
  have hne : nv.ownBlock ≠ some B := by
    rcases hat with h | ⟨g, h, hg⟩
    · rw [← h, hw.row]; exact hw.ne
    · rw [h]; intro e; cases e; have := hw.lt; omega
  have hlt0 : B < w0.heap.size := Nat.lt_of_lt_of_le hw.lt h0.size
  have hs1 : w1.heap[B]? = some (.cells #[v] 142 (0, 0)) := by
    rw [hgrow.block B hlt0 (by rw [hw.row]; exact Ne.symm hw.ne), h0.block B hw.lt trivial]
    exact hw.self
  subst hn
  refine ⟨⟨one_setCell hs1, ?_, rfl⟩, ?_, ?_⟩
  · rw [cells_append]
    exact ownsRow_setCell_other hown (a := ⟨B, 0, none⟩) hne nv
  · refine ((h0.mono (fun _ _ _ => trivial)).grown hgrow (fun k _ hk hp => ?_)).setCell (by simp) _
    exact hp.2 (hw.row.symm.trans hk)
  · intro x hx
    rcases hat with h | ⟨g, h, hg⟩
    · exact .inl (hw.row.symm.trans (h.trans hx))
    · rw [h] at hx; cases hx; exact .inr hg

/-- Two steps of a Writer, one behind the other. -/
theorem grow_trans {a b c : World} {B : Nat} {G G1 G2 : Option Nat} (k1 : Kept (fun x => x ≠ B ∧ G ≠ some x) a b) (n1 : ∀ x, G1 = some x → G = some x ∨ a.heap.size ≤ x)
    (k2 : Kept (fun x => x ≠ B ∧ G1 ≠ some x) b c) (n2 : ∀ x, G2 = some x → G1 = some x ∨ b.heap.size ≤ x) :
    Kept (fun x => x ≠ B ∧ G ≠ some x) a c ∧ (∀ x, G2 = some x → G = some x ∨ a.heap.size ≤ x) := by
  refine ⟨k1.then k2 (fun i hi hp => ⟨hp.1, fun hG => ?_⟩), fun x hx => ?_⟩
  · rcases n1 i hG with h | h
    · exact hp.2 h
    · omega
  · rcases n2 x hx with h | h
    · exact n1 x h
    · exact .inr (Nat.le_trans k1.size h)

set_option maxRecDepth 100000 in
set_option maxHeartbeats 1000000 in
theorem wnumber_any {w : World} {B : Nat} {G : Option Nat} {v : Value} {bs : List UInt8} (n : Int) (k : Nat) (h : Wr w B G v bs) (hk8 : k ≤ 8) (hn0 : 0 ≤ n) (hb : (bs.length : Int) + k ≤ 140737488355328) :
    Calls Try.prog 80 #[.pointer (some ⟨B, 0, none⟩), .int .u64 n, .int .i64 k] w fun e w' => e = .returned (.tuple #[]) ∧ ∃ G' v', Wr w' B G' v' (bs ++ enc n k) ∧
      Kept (fun x => x ≠ B ∧ G ≠ some x) w w' ∧ (∀ x, G' = some x → G = some x ∨ w.heap.size ≤ x) := by
  obtain ⟨i, hi, hz0, hz1, hz2⟩ := info_parts Try.infoU8
  go_enter Try.func80, Try.ntmps80
  go_wp2
  go_loopw [6] (fun t wr => ∃ (m j : Nat) (G' : Option Nat) (v' : Value), m + j = k ∧ t = .int .i64 ((m : Int) - 1) ∧ Wr wr B G' v' (bs ++ (enc n k).take j) ∧ Kept (fun x => x ≠ B ∧ G ≠ some x) w wr ∧ (∀ x, G' = some x → G = some x ∨ w.heap.size ≤ x))
    (fun t _ => (intOf t + 1).toNat)
  case atStart => exact ⟨k, 0, G, v, by omega, rfl, by simpa using h, Kept.refl _ _, fun x hx => .inl hx⟩
  case round =>
    obtain ⟨m, j, G', v', hmj, rfl, hw, hk, hg⟩ := hrel
    by_cases hm : 1 ≤ m
    · obtain ⟨p, rfl⟩ : ∃ p, m = p + 1 := ⟨m - 1, by omega⟩
      have hc0 := cell_of_one hw.self
      have hf0 := free_of_one hw.self
      have ne1 := hw.ne
      have lb := hw.lt
      have hp8 : (p : Int) ≤ 7 := by omega
      have hp0 : (0 : Int) ≤ (p : Int) := by omega
      obtain ⟨Z, hsh, hZ⟩ := shift_byte n p hn0 (by omega)
      have hle : (bs ++ (enc n k).take j).length + 1 ≤ 140737488355328 := by simp [enc_length]; omega
      have hf1 : ∀ o, (wr.alloc o).frozen? ⟨B, 0, none⟩ = false := fun o => (World.frozen?_alloc_past _ _ _ lb).trans hf0
      have HT : Hid (bs ++ (enc n k).take (j + 1) = (bs ++ (enc n k).take j) ++ [byteAt n p]) := by
        show _ = _
        rw [enc_take n k j p hmj, List.append_assoc]
      generalize bs ++ (enc n k).take j = cur at *
      have HK : Hid (p + (j + 1) = k) := by show _ = _; omega
      rw [show (((p + 1 : Nat) : Int) - 1) = (p : Int) from by omega]
      go_wp2
      go_region_law
        ((refine step_append_lies _ (by rfl) _ _ _ (by rfl) 0 5 i _ 1 1 Try.underlying25 hi hz0 hz1 hz2 rfl (by omega) v' _ _ (by rfl) ((hw.own.alloc _).drew) ⟨wr.heap.size, 0, none⟩ 1 1 [.int .u8 (byteAt n p).toNat] (by rfl) (by rfl) (World.news_of_block (cs := #[.int .u8 (byteAt n p).toNat]) (t := 5) (fr := (0, 0)) (heap_alloc_new wr _)) (by simp [Value.oneCell']) (by omega) (by unfold maxLen; omega) (by omega) (by simp) (wr.heap.size + 1) (by simp) ?_; intro gg cap w1 hown1 hgrow hat hlt; have hc2 : w1.cell? ⟨B, 0, none⟩ = some v' := (hgrow.cell_far _ (by simp; omega) (by rw [hw.row]; exact Ne.symm ne1)).trans ((World.cell?_alloc_past _ _ _ lb).trans hc0); have hf2 : w1.frozen? ⟨B, 0, none⟩ = false := (hgrow.frozen_far _ (by simp; omega) (by rw [hw.row]; exact Ne.symm ne1)).trans (hf1 _)))
      all_goals go_wp2
      all_goals
        obtain ⟨s1, s2, s3⟩ := hw.step (news := [byteAt n p]) (((Kept.refl _ _).alloc _).drew) (by simp) hown1 hgrow (by rcases hat with h | h; exact .inl h; exact .inr ⟨gg, rfl, by omega⟩)
        obtain ⟨s4, s5⟩ := grow_trans hk hg s2 s3
        refine ⟨⟨p, j + 1, _, _, HK.out, rfl, by rw [HT.out]; exact s1, s4, s5⟩, by simp [intOf] <;> omega⟩
    · have hm0 : m = 0 := by omega
      subst hm0
      go_wp2
      go_end0
      have : (enc n k).take j = enc n k := List.take_of_length_le (by rw [enc_length]; omega)
      rw [this] at hw
      exact ⟨rfl, G', v', hw, hk, hg⟩

end Go.Proofs.Ytbooeabmpdpgpaa

namespace Go.Proofs.Ytbooeabmpdpgpaa
open Go.RowKit

/-- n as a number of 64 bits without a sign. -/
def u64 (n : Int) : Int := IntKind.u64.wrap n
theorem u64_nonneg (n : Int) : 0 ≤ u64 n := by
  simp [u64, IntKind.wrap, IntKind.bits, IntKind.signed]; omega

set_option maxRecDepth 100000 in
set_option maxHeartbeats 400000 in
theorem wfour_any {w : World} {B : Nat} {G : Option Nat} {v : Value} {bs : List UInt8} (n : Int) (h : Wr w B G v bs) (hb : (bs.length : Int) + 4 ≤ 140737488355328) :
    Calls Try.prog 81 #[.pointer (some ⟨B, 0, none⟩), .int .i64 n] w fun e w' => e = .returned (.tuple #[]) ∧ ∃ G' v', Wr w' B G' v' (bs ++ enc (u64 n) 4) ∧
      Kept (fun x => x ≠ B ∧ G ≠ some x) w w' ∧ (∀ x, G' = some x → G = some x ∨ w.heap.size ≤ x) := by
  have c := wnumber_any (u64 n) 4 h (by decide) (u64_nonneg n) (by omega)
  unfold u64 at c
  go_enter Try.func81, Try.ntmps81
  go_wp2_with (go_at_call 80; refine Calls.mono c ?_; rintro e w1 ⟨rfl, G', v', h1, h2, h3⟩)
  go_end0
  exact ⟨rfl, G', v', h1, h2, h3⟩

/-- append of a text's bytes: the new slice lies where the old one did, or in a new block. -/
theorem append_str (w : World) (ty : TypeId) (v : Value) (n : Nat) (xs : List Value) (hown : w.ownsRow 0 5 1 v n xs) (s : ByteArray) (hb : n + s.size ≤ 140737488355328) :
    ∃ v' w', (Builtin.append_ #[25, 9] ty #[v, .string s]).run Try.prog w = .ok v' w' ∧ w'.ownsRow 0 5 1 v' (n + s.size) (xs ++ cells s.data.toList) ∧ w.grownBy w' v.ownBlock ∧
      (v.ownBlock = v'.ownBlock ∨ ∃ g, v'.ownBlock = some g ∧ w.heap.size ≤ g) := by
  obtain ⟨i, hi, hz0, hz1, hz2⟩ := info_parts Try.infoU8
  have hm : n + s.size ≤ maxLen := by unfold maxLen; omega
  have H := fun base h h' => Lib.run_append_own_string (P := Try.prog) w base 25 9 ty 5 i Try.underlying25 Try.underlying9 hi hz0 hz1 hz2 v n xs h s hm hb h'
  rcases hown.2 with ⟨rfl, rfl⟩ | ⟨g, cap, cur, rfl, hbg, hg, hnc, hcm, hcs, htake⟩
  · have hx : xs = [] := List.eq_nil_of_length_eq_zero (by simpa using hown.1)
    subst hx
    obtain ⟨v', w', hr, ho, hgr, hnil⟩ := H w.heap.size (World.ownsRow_nil _ _ _ _) (Nat.le_refl _)
    refine ⟨v', w', hr, ⟨ho.1, ?_⟩, hgr, ?_⟩
    · rcases ho.2 with h | ⟨g, cap, cur, h1, h2, h3⟩
      · exact .inl h
      · exact .inr ⟨g, cap, cur, h1, Nat.zero_le _, h3⟩
    · rcases ho.2 with ⟨h, _⟩ | ⟨g, cap, cur, h1, h2, h3⟩
      · exact .inl (by rw [h])
      · exact .inr ⟨g, by rw [h1]; rfl, h2⟩
  · obtain ⟨v', w', hr, ho, hgr, hnil⟩ := H 0 hown (Nat.zero_le _)
    refine ⟨v', w', hr, ho, hgr, ?_⟩
    have hxl : xs.length = n := by simpa using hown.1
    by_cases hroom : n + s.size ≤ cap
    · have hcs' : cur.size = cap := by simpa using hcs
      have hr' := Lib.run_append_room_string (P := Try.prog) w 25 9 ty 5 i Try.underlying25 Try.underlying9 hi hz1 g n cap cur hg s hroom (by omega)
      rw [hr] at hr'
      injection hr' with h1 h2
      exact .inl (by rw [h1]; rfl)
    · have holds : ∀ j u, xs[j]? = some u → w.cell? ((⟨g, 0, none⟩ : Addr).add j) = some u := hown.cells (g := g) rfl
      have hr' := Lib.run_append_grow_string (P := Try.prog) w 25 9 ty 5 i (.int .u8 0) Try.underlying25 Try.underlying9 hi hz0 ⟨g, 0, none⟩ n cap xs (by rw [hz1]; simpa using hxl) holds s (by omega) (by omega) (by rw [hz2]; exact growslice_fits (by omega) (by omega))
      rw [hr] at hr'
      injection hr' with h1 h2
      exact .inr ⟨w.heap.size, by rw [h1]; rfl, Nat.le_refl _⟩

/-- The same at the operation, for the walk. -/
theorem wpList_append_str {w : World} {ops : Array Oper} {rest : List Oper} {o : Oper} {a : Act} {Q : Exit → Act → World → Prop} (hgd : o.guard = none) (sl x : Operand)
    (ho : o.op = .call { callee := .builtin .append, args := #[sl, x], argTypes := #[25, 9] })
    (v : Value) (n : Nat) (xs : List Value) (hs : a.eval sl = v) (hown : w.ownsRow 0 5 1 v n xs) (s : ByteArray) (hx : a.eval x = .string s) (hb : n + s.size ≤ 140737488355328)
    (h : ∀ ao cap w', w'.ownsRow 0 5 1 (.slice ao (n + s.size) cap) (n + s.size) (xs ++ cells s.data.toList) → w.grownBy w' v.ownBlock → (v.ownBlock = (Value.slice ao (n + s.size) cap).ownBlock ∨ ∃ g, (Value.slice ao (n + s.size) cap).ownBlock = some g ∧ w.heap.size ≤ g) → wpList Try.prog ops Q rest (a.put o.dst (.slice ao (n + s.size) cap)) w') : wpList Try.prog ops Q (o :: rest) a w := by
  refine wpList_plain hgd fun K hK => ?_
  obtain ⟨v', w', hr, h2, h3, h4⟩ := append_str w o.type v n xs hown s hb
  obtain ⟨ao, cap, rfl⟩ := own_shape h2
  unfold Oper.wp execOp
  simp only [ho, resolve, invoke, builtin, Sem.run_bind, Sem.run_pure, Result.andThen_ok, List.map_toArray, List.map_cons, List.map_nil, hs, hx, hr]
  exact hK _ _ (h ao cap w' h2 h3 h4)

set_option maxRecDepth 100000 in
set_option maxHeartbeats 400000 in
theorem wtext_any {w : World} {B : Nat} {G : Option Nat} {v : Value} {bs : List UInt8} (s : ByteArray) (h : Wr w B G v bs) (hb : (bs.length : Int) + 4 + s.size ≤ 140737488355328) :
    Calls Try.prog 53 #[.pointer (some ⟨B, 0, none⟩), .string s] w fun e w' => e = .returned (.tuple #[]) ∧ ∃ G' v', Wr w' B G' v' (bs ++ enc (u64 s.size) 4 ++ s.data.toList) ∧
      Kept (fun x => x ≠ B ∧ G ≠ some x) w w' ∧ (∀ x, G' = some x → G = some x ∨ w.heap.size ≤ x) := by
  have c := wfour_any s.size h (by omega)
  have HL : Hid (((bs ++ enc (u64 s.size) 4).length : Int) + s.size ≤ 140737488355328) := by
    show _ ≤ _
    simp [enc_length]; omega
  generalize bs ++ enc (u64 s.size) 4 = cur at *
  go_enter Try.func53, Try.ntmps53
  go_wp2_with (first
    | (go_at_call 81; refine Calls.mono c ?_; rintro e w1 ⟨rfl, G1, v1, h1, h2, h3⟩; have hc0 := cell_of_one h1.self; have hf0 := free_of_one h1.self)
    | (at_builtin; refine wpList_append_str rfl _ _ rfl v1 cur.length (cells cur) rfl h1.own s rfl (by have := HL.out; omega) ?_; intro ao cap w2 ho hgr hat; have hc2 : w2.cell? ⟨B, 0, none⟩ = some v1 := (hgr.cell_far _ h1.lt (by rw [h1.row]; exact Ne.symm h1.ne)).trans hc0; have hf2 : w2.frozen? ⟨B, 0, none⟩ = false := (hgr.frozen_far _ h1.lt (by rw [h1.row]; exact Ne.symm h1.ne)).trans hf0))
  go_end0
  obtain ⟨s1, s2, s3⟩ := h1.step (news := s.data.toList) (Kept.refl _ _) (by rw [List.length_append]; rfl) ho hgr hat
  obtain ⟨s4, s5⟩ := grow_trans h2 h3 s2 s3
  exact ⟨rfl, _, _, s1, s4, s5⟩

end Go.Proofs.Ytbooeabmpdpgpaa

namespace Go.Proofs.Ytbooeabmpdpgpaa
open Go.RowKit

set_option maxRecDepth 100000 in
set_option maxHeartbeats 400000 in
theorem done_any {w : World} {B : Nat} {G : Option Nat} {v : Value} {bs : List UInt8} (h : Wr w B G v bs) (hb : (bs.length : Int) ≤ 140737488355328) :
    Calls Try.prog 54 #[.pointer (some ⟨B, 0, none⟩)] w fun e w' => ∃ D, e = .returned (.slice (some ⟨D, 0, none⟩) bs.length bs.length) ∧ w'.heap[D]? = some (.cells (cells bs).toArray 5 (0, 0)) ∧ Kept (fun _ => True) w w' ∧ w.heap.size ≤ D := by
  obtain ⟨i, hi, hz0, hz1, hz2⟩ := info_parts Try.infoU8
  have hb' : i.bytes * bs.length ≤ 281474976710656 := by rw [hz2]; omega
  have hb2 : bs.length ≤ maxLen := by unfold maxLen; omega
  obtain ⟨ao, cap, rfl⟩ := own_shape h.own
  have hc0 := cell_of_one h.self
  have hlt := h.lt
  have HH : Hid (Has w ao bs) := own_has h.own
  go_enter Try.func54, Try.ntmps54
  go_wp2_with (at_make; refine wpList_make_full _ rfl _ _ _ rfl w.heap.size 5 i (.int .u8 0) 1 Try.underlying25 hi hz0 hz1 _ _ _ _ bs.length rfl rfl rfl rfl hb' hb2 (Nat.le_refl _) ?_; intro w1 hown hg; obtain ⟨cur, hrow, hcs⟩ := made_row hown; have hc1 : w1.cell? ⟨B, 0, none⟩ = some (.slice ao bs.length cap) := (hg.cell_far _ hlt (by simp)).trans hc0)
  have hk1 : Kept (fun _ => True) w w1 := (Kept.refl _ _).grown hg (fun k _ h => by cases h)
  obtain ⟨w3, hrun, hrow3, hk3, hs3⟩ := copy_fill w1 w.heap.size cur bs ao cap hrow hcs (HH.out.kept hk1 (fun _ _ => trivial))
  rw [hrun]
  go_wp2
  go_ret
  exact ⟨w.heap.size, rfl, hrow3, hk1.then hk3 (fun i hi _ => by omega), Nat.le_refl _⟩

end Go.Proofs.Ytbooeabmpdpgpaa

namespace Go.Proofs.Ytbooeabmpdpgpaa
open Go.RowKit

set_option maxRecDepth 100000 in
set_option maxHeartbeats 400000 in
theorem wbyte_any {w : World} {B : Nat} {G : Option Nat} {v : Value} {bs : List UInt8} (n : Int) (h : Wr w B G v bs) (hb : (bs.length : Int) + 1 ≤ 140737488355328) :
    Calls Try.prog 52 #[.pointer (some ⟨B, 0, none⟩), .int .i64 n] w fun e w' => e = .returned (.tuple #[]) ∧ ∃ G' v', Wr w' B G' v' (bs ++ enc (u64 n) 1) ∧
      Kept (fun x => x ≠ B ∧ G ≠ some x) w w' ∧ (∀ x, G' = some x → G = some x ∨ w.heap.size ≤ x) := by
  have c := wnumber_any (u64 n) 1 h (by decide) (u64_nonneg n) (by omega)
  unfold u64 at c
  go_enter Try.func52, Try.ntmps52
  go_wp2_with (go_at_call 80; refine Calls.mono c ?_; rintro e w1 ⟨rfl, G', v', h1, h2, h3⟩)
  go_end0
  exact ⟨rfl, G', v', h1, h2, h3⟩

end Go.Proofs.Ytbooeabmpdpgpaa
