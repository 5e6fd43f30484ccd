/-
  Texts of the proofs, 37 of 52.
-/
import Derived.Test.YtmcaoimgmgjjiaaWAJ
import Derived.Test.YtmcaoimgmgjjiaaWAI
import Derived.Test.YtmcaoimgmgjjiaaWAF
namespace Go.Proofs.Ytmcaoimgmgjjiaa
open Go.RowKit

theorem Gv.gi {w : World} {a : Option Addr} {gs : List Nat} (h : Gv w a gs) : Gi w a (gs.map fun g : Nat => (g : Int)) := fun h0 => by
  rw [List.length_map] at h0
  obtain ⟨b, off, e, hb, hc⟩ := h h0
  refine ⟨b, off, e, hb, fun i hi => ?_⟩
  rw [List.length_map] at hi
  rw [hc i hi, List.getElem_map]
end Go.Proofs.Ytmcaoimgmgjjiaa

namespace Go.Proofs.Ytmcaoimgmgjjiaa
open Go.RowKit Go.Maps Go.Sort

abbrev Ut := Ur × (Option Addr × Nat)
def rrU (p : Ut) : Rr := (p.1.ui, p.2)
structure Rws (w : World) (b : Nat) (v : Value) (xs : List Ut) : Prop where
  ow : Ow recS 24 w b v (xs.map rrU)
  its : ∀ p ∈ xs, Its w b (.slice p.2.1 p.1.gs.length p.2.2) p.1.gs
  tm : ∀ p ∈ xs, Tme p.1
section
variable {w w' : World} {b : Nat} {v : Value} {xs : List Ut}
end
theorem entO_append (ys : List (Option Ur)) : ∀ (xs : List Ur) (es : List Ue), entO (xs.map some ++ ys) es = entO ys (entO (xs.map some) es)
  | [], es => rfl
  | x :: xs, es => by
    show entO (xs.map some ++ ys) _ = entO ys (entO (xs.map some) _)
    rw [entO_append ys xs]
theorem entO_pre : ∀ (os : List (Option Ur)) (es : List Ue), ∃ t, entO os es = es ++ t
  | [], es => ⟨[], by simp [entO]⟩
  | none :: _, es => ⟨[], by simp [entO]⟩
  | some r :: os, es => by
    obtain ⟨t, ht⟩ := entO_pre os (es ++ [⟨r, kin es r.tx⟩])
    exact ⟨[⟨r, kin es r.tx⟩] ++ t, by show entO os _ = _; rw [ht, List.append_assoc]⟩
structure Mds (cs : List Uc) (gr : List (Int × List Ur)) : Prop where
  len : cs.length = gr.length
  g : ∀ i (h1 : i < cs.length) (h2 : i < gr.length), cs[i].g = gr[i].1
  b : ∀ i (h1 : i < cs.length) (h2 : i < gr.length), cs[i].bs = encL (mkC (tsR gr[i].2))
  ok : ∀ p ∈ gr, ∀ r ∈ p.2, Okt r
  sh : ∀ p ∈ gr, ∀ r ∈ p.2, r.tx.length + r.bd.length ≤ 3000
  few : ∀ p ∈ gr, p.2.length ≤ 4096
end Go.Proofs.Ytmcaoimgmgjjiaa

namespace Go.Proofs.Ytmcaoimgmgjjiaa
open Go.RowKit

theorem RS.raw_num (s : RS) (bs : List UInt8) (n : Nat) : s.num bs n = (be (s.raw bs n).1, (s.raw bs n).2) := by
  unfold RS.num RS.raw
  split
  · split <;> simp [be]
  · simp [be]
theorem RS.raw_len (s : RS) (bs : List UInt8) (n : Nat) : (s.raw bs n).1.length ≤ n := by
  unfold RS.raw
  split
  · split <;> simp <;> omega
  · simp
theorem RS.text_raw (s : RS) (bs : List UInt8) (m : Int) : s.text bs m = ((s.count bs m).2.raw bs (s.count bs m).1) := by
  have hc := s.count_no bs m
  unfold RS.text RS.raw
  by_cases hw : (s.count bs m).2.why = 0
  · by_cases hl : (s.count bs m).2.pos + (s.count bs m).1 ≤ bs.length
    · rw [if_neg (by unfold RS.left leftOf; rw [if_pos hw]; omega), if_pos hw, if_pos hl]
      rw [hw]
    · rw [if_pos (by unfold RS.left leftOf; rw [if_pos hw]; omega), if_pos hw, if_neg hl]
  · have h0 := hc hw
    rw [if_neg (by unfold RS.left leftOf; rw [if_neg hw]; omega), if_neg hw, h0]
    simp

structure Rg (w : World) (B : Nat) (ao : Option Addr) (cap : Nat) (bs : List UInt8) (s : RS) : Prop where
  rf : Rf w B (.slice ao bs.length cap) bs s
  has : Has w ao bs
  nil : ao = none → cap = 0
  cap : bs.length ≤ cap
  far : ∀ ad, ao = some ad → 0 < bs.length → ad.block ≠ B

theorem Rg.kept {p : Nat → Prop} {w w' : World} {B : Nat} {ao : Option Addr} {cap : Nat} {bs : List UInt8} {s : RS} (h : Rg w B ao cap bs s) (hk : Kept p w w') (hB : p B) (ha : ∀ ad, ao = some ad → 0 < bs.length → p ad.block) : Rg w' B ao cap bs s := by
  refine ⟨h.rf.kept hk hB, fun h0 => ?_, h.nil, h.cap, h.far⟩
  exact Has.kept h.has hk (fun x hx => ha x hx h0) h0
theorem Rg.mine {w w' : World} {B : Nat} {ao : Option Addr} {cap : Nat} {bs : List UInt8} {s s' : RS} (h : Rg w B ao cap bs s) (hr : Rf w' B (.slice ao bs.length cap) bs s') (hk : Kept (· ≠ B) w w') : Rg w' B ao cap bs s' := by
  refine ⟨hr, fun h0 => ?_, h.nil, h.cap, h.far⟩
  exact Has.kept h.has hk (fun x hx => h.far x hx h0) h0

theorem be_take_succ (l : List UInt8) (j : Nat) (h : j < l.length) : be (l.take (j + 1)) = be (l.take j) * 256 + (l[j]).toNat := by
  rw [List.take_succ_eq_append_getElem h, be_snoc]

set_option maxRecDepth 100000 in
set_option maxHeartbeats 1000000 in
theorem fnumber_any {w : World} {B : Nat} {ao : Option Addr} {cap : Nat} {bs : List UInt8} {s : RS} (n : Nat) (h : Rg w B ao cap bs s) (hn : n ≤ 8) :
    Calls Try.prog 79 #[.pointer (some ⟨B, 0, none⟩), .int .i64 n] w fun e w' => e = .returned (.int .u64 ((s.num bs n).1 : Nat)) ∧ Rg w' B ao cap bs (s.num bs n).2 ∧ Kept (· ≠ B) w w' := by
  have c := fraw_any n h.rf h.has h.nil h.cap (by omega)
  have hl := s.raw_len bs n
  rw [s.raw_num bs n]
  generalize s.raw bs n = r at *
  obtain ⟨out, t⟩ := r
  simp only at *
  go_enter Try.func79, Try.ntmps79
  go_wp2_with fail
  refine Calls.mono c ?_
  rintro e w1 ⟨r, rfl, g1, g2, g3⟩
  have hg := h.mine g2 g3
  obtain ⟨ro, rc, rfl⟩ := own_shape g1
  have hh := own_has g1
  have HH : Hid (Has w1 ro out) := hh
  clear hh g1 c
  go_wp2
  go_loop [6, 7] (fun x t => ∃ k : Nat, k ≤ out.length ∧ t = .int .i64 k ∧ x = .int .u64 (be (out.take k))) (fun _ t => out.length - (intOf t).toNat)
  case atStart => exact ⟨0, Nat.zero_le _, rfl, by simp [be]⟩
  case round =>
    obtain ⟨k, hk, rfl, rfl⟩ := hrel
    by_cases hlt : k < out.length
    · obtain ⟨ad, rfl, hc⟩ := HH.out (by omega)
      obtain ⟨b, off, spot⟩ := ad
      have hspot : spot = none := by simpa [Addr.add] using World.cell?_spot (hc 0 (by omega))
      subst hspot
      have hck := hc k hlt
      rw [WideShapes.add_plain] at hck
      have hN : be (out.take k) < 72057594037927936 := be_lt56 _ (by simp; omega)
      have S := or_byte (be (out.take k)) (out[k]) hN
      rw [← be_take_succ out k hlt] at S
      have hkl : (k : Int) < (out.length : Int) := by omega
      generalize be (out.take k) = N at *
      generalize hM : be (out.take (k + 1)) = M at *
      have HM : Hid (be (out.take (k + 1)) = M) := hM
      clear hM hc
      go_wp2
      go_round
      case rel => exact ⟨k + 1, by omega, by go_num, by rw [HM.out]⟩
      case measure => simp [intOf]; omega
    · have hkl : ¬ ((k : Int) < (out.length : Int)) := by omega
      obtain rfl : k = out.length := by omega
      rw [List.take_length]
      go_wp2
      go_ret
      exact ⟨rfl, hg, g3⟩

set_option maxHeartbeats 400000 in
theorem fbyte_any {w : World} {B : Nat} {ao : Option Addr} {cap : Nat} {bs : List UInt8} {s : RS} (h : Rg w B ao cap bs s) :
    Calls Try.prog 46 #[.pointer (some ⟨B, 0, none⟩)] w fun e w' => e = .returned (.int .i64 ((s.num bs 1).1 : Nat)) ∧ Rg w' B ao cap bs (s.num bs 1).2 ∧ Kept (· ≠ B) w w' := by
  have hlt := s.num_lt1 bs
  have c := fnumber_any 1 h (by decide)
  generalize s.num bs 1 = r at *
  go_enter Try.func46, Try.ntmps46
  go_wp2_with (go_at_call 79; refine Calls.mono c ?_; rintro e w' ⟨rfl, h1, h2⟩)
  go_ret
  exact ⟨by simp, h1, h2⟩

set_option maxHeartbeats 400000 in
theorem ffour_any {w : World} {B : Nat} {ao : Option Addr} {cap : Nat} {bs : List UInt8} {s : RS} (h : Rg w B ao cap bs s) :
    Calls Try.prog 86 #[.pointer (some ⟨B, 0, none⟩)] w fun e w' => e = .returned (.int .i64 ((s.num bs 4).1 : Nat)) ∧ Rg w' B ao cap bs (s.num bs 4).2 ∧ Kept (· ≠ B) w w' := by
  have hlt := s.num_lt4 bs
  have c := fnumber_any 4 h (by decide)
  generalize s.num bs 4 = r at *
  go_enter Try.func86, Try.ntmps86
  go_wp2_with (go_at_call 79; refine Calls.mono c ?_; rintro e w' ⟨rfl, h1, h2⟩)
  go_ret
  exact ⟨by simp, h1, h2⟩

set_option maxHeartbeats 400000 in
theorem fcount_any {w : World} {B : Nat} {ao : Option Addr} {cap : Nat} {bs : List UInt8} {s : RS} (most : Int) (h : Rg w B ao cap bs s) :
    Calls Try.prog 66 #[.pointer (some ⟨B, 0, none⟩), .int .i64 most] w fun e w' => e = .returned (.int .i64 ((s.count bs most).1 : Nat)) ∧ Rg w' B ao cap bs (s.count bs most).2 ∧ Kept (· ≠ B) w w' := by
  have hlt := s.num_lt4 bs
  have hno := s.num_no bs 4
  have c := ffour_any h
  obtain ⟨a, y, z, hh5, hp, _⟩ := h.rf.self
  obtain ⟨c0, c1, c2, c3, c4, hf⟩ := five_cell hh5
  have hpos := h.rf.pos
  have hnum : (s.num bs 4).2.why = 0 → s.why = 0 := by
    intro h
    by_cases hs : s.why = 0
    · exact hs
    · have e : s.num bs 4 = (0, s) := by simp only [RS.num, if_neg hs]
      rw [e] at h; exact h
  unfold RS.count
  generalize s.num bs 4 = r at *
  obtain ⟨n, t⟩ := r
  simp only at *
  by_cases hm : max most 0 < (n : Int)
  · rw [if_pos hm]
    have ht : t.why = 0 := by
      by_cases h0 : t.why = 0
      · exact h0
      · have := hno h0; omega
    have ha := hp (hnum ht)
    subst ha
    have HT : Hid (t.why = 0) := ht
    clear hno hnum hp ht c0 c2 c3 c4 hh5
    by_cases h0 : 0 ≤ most
    all_goals
      first | (have hm' : most < (n : Int) := by omega) | skip
      have hm2 : (0 : Int) < (n : Int) := by omega
      first | (have hq : ¬ (most < 0) := by omega) | (have hq : most < 0 := by omega)
      clear hm
      go_enter Try.func66, Try.ntmps66
      go_wp2_with (first
        | (go_at_call 86; refine Calls.mono c ?_; rintro e w1 ⟨rfl, h1, h2⟩; obtain ⟨a', y', z', hh', _, _⟩ := h1.rf.self; rw [show decide (t.why ≠ 0) = false from by simp [HT.out]] at hh'; obtain ⟨_, _, d2, _, _, _⟩ := five_cell hh')
        | (go_at_call 87; refine Calls.mono (frefuse_yes 3 s.pos h1.rf HT.out (by decide) hpos) ?_; rintro e w2 ⟨rfl, h3, h4⟩))
      go_ret
      exact ⟨by simp, h1.mine h3 h4, h2.trans h4⟩
  · rw [if_neg hm]
    have hm' : (n : Int) ≤ max most 0 := by omega
    clear hno hnum hp c0 c2 c3 c4 hh5 hm
    by_cases ht : t.why = 0
    · by_cases h0 : most < 0
      · have hn0 : (n : Int) ≤ 0 := by omega
        clear hm'
        go_enter Try.func66, Try.ntmps66
        go_wp2_with (go_at_call 86; refine Calls.mono c ?_; rintro e w1 ⟨rfl, h1, h2⟩; obtain ⟨a', y', z', hh', _, _⟩ := h1.rf.self; rw [show decide (t.why ≠ 0) = false from by simp [ht]] at hh'; obtain ⟨_, _, d2, _, _, _⟩ := five_cell hh')
        go_ret
        exact ⟨by simp, h1, h2⟩
      · have hn0 : (n : Int) ≤ most := by omega
        clear hm'
        go_enter Try.func66, Try.ntmps66
        go_wp2_with (go_at_call 86; refine Calls.mono c ?_; rintro e w1 ⟨rfl, h1, h2⟩; obtain ⟨a', y', z', hh', _, _⟩ := h1.rf.self; rw [show decide (t.why ≠ 0) = false from by simp [ht]] at hh'; obtain ⟨_, _, d2, _, _, _⟩ := five_cell hh')
        go_ret
        exact ⟨by simp, h1, h2⟩
    · clear hm'
      by_cases h0 : most < 0
      all_goals
        go_enter Try.func66, Try.ntmps66
        go_wp2_with (go_at_call 86; refine Calls.mono c ?_; rintro e w1 ⟨rfl, h1, h2⟩; obtain ⟨a', y', z', hh', _, _⟩ := h1.rf.self; rw [show decide (t.why ≠ 0) = true from by simpa using ht] at hh'; obtain ⟨_, _, d2, _, _, _⟩ := five_cell hh')
        go_ret
        exact ⟨by simp, h1, h2⟩

set_option maxHeartbeats 400000 in
theorem ftext_any {w : World} {B : Nat} {ao : Option Addr} {cap : Nat} {bs : List UInt8} {s : RS} (most : Int) (h : Rg w B ao cap bs s) :
    Calls Try.prog 47 #[.pointer (some ⟨B, 0, none⟩), .int .i64 most] w fun e w' => e = .returned (.string ⟨(s.text bs most).1.toArray⟩) ∧ Rg w' B ao cap bs (s.text bs most).2 ∧ Kept (· ≠ B) w w' := by
  have hlt := s.count_lt bs most
  have c := fcount_any most h
  rw [s.text_raw bs most]
  generalize s.count bs most = r at *
  obtain ⟨n, t⟩ := r
  simp only at *
  go_enter Try.func47, Try.ntmps47
  go_wp2_with (first
    | (go_at_call 66; refine Calls.mono c ?_; rintro e w1 ⟨rfl, h1, h2⟩)
    | (go_at_call 67; refine Calls.mono (fraw_any n h1.rf h1.has h1.nil h1.cap (by omega)) ?_; rintro e w2 ⟨r, rfl, g1, g2, g3⟩; have hcv := conv_own g1))
  go_ret
  exact ⟨rfl, h1.mine g2 g3, h2.trans g3⟩

end Go.Proofs.Ytmcaoimgmgjjiaa
