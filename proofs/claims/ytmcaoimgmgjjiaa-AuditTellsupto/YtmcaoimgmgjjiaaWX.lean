/-
  Texts of the proofs, 24 of 52.
-/
import Derived.Test.YtmcaoimgmgjjiaaWW
import Derived.Test.YtmcaoimgmgjjiaaWP
import Derived.Deep.RegionLaw
namespace Go.Proofs.Ytmcaoimgmgjjiaa
open Go.RowKit Go.Maps Go.Sort

theorem GE.page {w : World} {E M n b : Nat} {pq : List (Up × Ua)} {ap : Option Addr} {cp : Nat} (h : GE w E M n b pq ap cp) (i : Nat) (hi : i < pq.length) :
    ∃ g, ap = some ⟨g, 0, none⟩ ∧ g < w.heap.size ∧ w.cell? ⟨g, i * 6, none⟩ = some (.int .i64 pq[i].1.g) ∧ w.cell? ⟨g, i * 6 + 1, none⟩ = some (.slice pq[i].2.a1 pq[i].1.ls.length pq[i].2.c1) ∧ w.cell? ⟨g, i * 6 + 2, none⟩ = some (.int .i64 pq[i].1.y) ∧ w.cell? ⟨g, i * 6 + 3, none⟩ = some (.int .i64 pq[i].1.z) ∧ w.cell? ⟨g, i * 6 + 4, none⟩ = some (.slice pq[i].2.a2 pq[i].1.es.length pq[i].2.c2) ∧ w.cell? ⟨g, i * 6 + 5, none⟩ = some (.int .i64 pq[i].1.lo) := by
  have hr := h.row
  obtain ⟨g, rfl, _, hg, _⟩ := hr.some3 (by omega)
  exact ⟨g, rfl, hg, hr.at i hi 0 _ rfl, hr.at i hi 1 _ rfl, hr.at i hi 2 _ rfl, hr.at i hi 3 _ rfl, hr.at i hi 4 _ rfl, hr.at i hi 5 _ rfl⟩
def ru1 (p : Up) : Int := if p.y = 0 then -1 else p.z
def ru2 (p : Up) : Int := if p.es.length < p.ls.length then (p.es.length : Int) else -1

set_option maxRecDepth 100000 in
set_option maxHeartbeats 2000000 in
theorem rule1_any {w : World} {E M n b : Nat} {pq : List (Up × Ua)} {ap : Option Addr} {cp : Nat} (h : GE w E M n b pq ap cp) (i : Nat) (hi : i < pq.length) :
    Calls Try.prog 28 #[.pointer (some ⟨E, 0, none⟩), .int .i64 i] w fun e w' => e = .returned (.int .i64 (ru1 pq[i].1)) ∧ Kept (fun _ => True) w w' := by
  obtain ⟨g, rfl, hg, c0, c1, c2, c3, c4, c5⟩ := h.page i hi
  obtain ⟨g0, g1⟩ := h.self.two
  have KA : Hid (∀ o, Kept (fun _ => True) w (w.alloc o)) := fun o => (Kept.refl _ _).alloc o
  have i0 : (0 : Int) ≤ (i : Int) := by omega
  have i1 : (i : Int) < (pq.length : Int) := by omega
  clear h
  generalize pq[i] = pqi at *
  generalize pq.length = pl at *
  by_cases hy : pqi.1.y = 0
  · have HR : Hid (ru1 pqi.1 = -1) := by show _ = _; simp [ru1, hy]
    generalize ru1 pqi.1 = R at *
    rw [hy] at c2
    clear hy
    go_enter Try.func28, Try.ntmps28
    go_wp2
    go_ret
    exact ⟨by rw [HR.out]; rfl, KA.out _⟩
  · have HR : Hid (ru1 pqi.1 = pqi.1.z) := by show _ = _; simp [ru1, hy]
    have hy2 : (pqi.1.y == 0) = false := by simpa using hy
    have hy3 : (pqi.1.y != 0) = true := by simpa using hy
    generalize ru1 pqi.1 = R at *
    generalize pqi.1.y = yy at *
    clear hy
    go_enter Try.func28, Try.ntmps28
    go_wp2
    go_ret
    exact ⟨by rw [HR.out]; rfl, KA.out _⟩

set_option maxRecDepth 100000 in
set_option maxHeartbeats 2000000 in
theorem rule2_any {w : World} {E M n b : Nat} {pq : List (Up × Ua)} {ap : Option Addr} {cp : Nat} (h : GE w E M n b pq ap cp) (i : Nat) (hi : i < pq.length) :
    Calls Try.prog 29 #[.pointer (some ⟨E, 0, none⟩), .int .i64 i] w fun e w' => e = .returned (.int .i64 (ru2 pq[i].1)) ∧ Kept (fun _ => True) w w' := by
  obtain ⟨g, rfl, hg, c0, c1, c2, c3, c4, c5⟩ := h.page i hi
  obtain ⟨g0, g1⟩ := h.self.two
  have KA : Hid (∀ o, Kept (fun _ => True) w (w.alloc o)) := fun o => (Kept.refl _ _).alloc o
  have i0 : (0 : Int) ≤ (i : Int) := by omega
  have i1 : (i : Int) < (pq.length : Int) := by omega
  clear h
  generalize pq[i] = pqi at *
  generalize pq.length = pl at *
  by_cases hy : pqi.1.es.length < pqi.1.ls.length
  · have HR : Hid (ru2 pqi.1 = (pqi.1.es.length : Int)) := by show _ = _; simp [ru2, hy]
    generalize ru2 pqi.1 = R at *
    have hy2 : (pqi.1.es.length : Int) < (pqi.1.ls.length : Int) := by omega
    generalize pqi.1.es.length = el at *
    generalize pqi.1.ls.length = ll at *
    clear hy
    go_enter Try.func29, Try.ntmps29
    go_wp2
    go_ret
    exact ⟨by rw [HR.out]; rfl, KA.out _⟩
  · have HR : Hid (ru2 pqi.1 = -1) := by show _ = _; simp [ru2, hy]
    generalize ru2 pqi.1 = R at *
    have hy2 : ¬ (pqi.1.es.length : Int) < (pqi.1.ls.length : Int) := by omega
    generalize pqi.1.es.length = el at *
    generalize pqi.1.ls.length = ll at *
    clear hy
    go_enter Try.func29, Try.ntmps29
    go_wp2
    go_ret
    exact ⟨by rw [HR.out]; rfl, KA.out _⟩

set_option maxRecDepth 100000 in
set_option maxHeartbeats 2000000 in
theorem rule4_any {w : World} {E M n b : Nat} {pq : List (Up × Ua)} {ap : Option Addr} {cp : Nat} (h : GE w E M n b pq ap cp) (i : Nat) (hi : i < pq.length) :
    Calls Try.prog 31 #[.pointer (some ⟨E, 0, none⟩), .int .i64 i] w fun e w' => (∃ z, e = .returned (.int .i64 z) ∧ IdxIs f4 pq[i].1.es z) ∧ Kept (fun _ => True) w w' := by
  have hp := h.pgs pq[i] (List.getElem_mem hi)
  obtain ⟨g, rfl, hg, c0, c1, c2, c3, c4, c5⟩ := h.page i hi
  obtain ⟨g0, g1⟩ := h.self.two
  have ci := index4 (cap := pq[i].2.c2) (f := f4) hp.ents (fun W _ x _ => c4_any W x)
  have i0 : (0 : Int) ≤ (i : Int) := by omega
  have i1 : (i : Int) < (pq.length : Int) := by omega
  clear h hp
  generalize pq[i] = pqi at *
  generalize pq.length = pl at *
  go_enter Try.func31, Try.ntmps31
  go_wp2_with (go_at_call 60; (with_reducible refine Calls.mono ci ?_); rintro e w1 ⟨⟨z, rfl, hz⟩, k1⟩; have HZ : Hid (IdxIs f4 pqi.1.es z) := hz; clear hz)
  go_ret
  exact ⟨⟨_, rfl, HZ.out⟩, k1⟩

set_option maxRecDepth 100000 in
set_option maxHeartbeats 2000000 in
theorem rule6_any {w : World} {E M n b : Nat} {pq : List (Up × Ua)} {ap : Option Addr} {cp : Nat} (h : GE w E M n b pq ap cp) (i : Nat) (hi : i < pq.length) :
    Calls Try.prog 33 #[.pointer (some ⟨E, 0, none⟩), .int .i64 i] w fun e w' => (∃ z, e = .returned (.int .i64 z) ∧ IdxIs f6 pq[i].1.es z) ∧ Kept (fun _ => True) w w' := by
  have hp := h.pgs pq[i] (List.getElem_mem hi)
  obtain ⟨g, rfl, hg, c0, c1, c2, c3, c4, c5⟩ := h.page i hi
  obtain ⟨g0, g1⟩ := h.self.two
  have ci := index6 (cap := pq[i].2.c2) (f := f6) hp.ents (fun W _ x _ => c6_any W x)
  have i0 : (0 : Int) ≤ (i : Int) := by omega
  have i1 : (i : Int) < (pq.length : Int) := by omega
  clear h hp
  generalize pq[i] = pqi at *
  generalize pq.length = pl at *
  go_enter Try.func33, Try.ntmps33
  go_wp2_with (go_at_call 60; (with_reducible refine Calls.mono ci ?_); rintro e w1 ⟨⟨z, rfl, hz⟩, k1⟩; have HZ : Hid (IdxIs f6 pqi.1.es z) := hz; clear hz)
  go_ret
  exact ⟨⟨_, rfl, HZ.out⟩, k1⟩

set_option maxRecDepth 100000 in
set_option maxHeartbeats 2000000 in
theorem rule5_any {w : World} {E M n b : Nat} {pq : List (Up × Ua)} {ap : Option Addr} {cp : Nat} (h : GE w E M n b pq ap cp) (i : Nat) (hi : i < pq.length) (hok : ∀ x ∈ pq[i].1.es, Okr x.1.r) :
    Calls Try.prog 32 #[.pointer (some ⟨E, 0, none⟩), .int .i64 i] w fun e w' => (∃ z, e = .returned (.int .i64 z) ∧ IdxIs (f5 (allR (pq.map (·.1)))) pq[i].1.es z) ∧ Kept (fun _ => True) w w' := by
  have kA : Kept (fun _ => True) w (w.alloc (.cells #[.pointer (some ⟨E, 0, none⟩)] 67)) := (Kept.refl _ _).alloc _
  have hA := h.all kA
  have hp := hA.pgs pq[i] (List.getElem_mem hi)
  obtain ⟨g, rfl, hg, c0, c1, c2, c3, c4, c5⟩ := hA.page i hi
  obtain ⟨g0, g1⟩ := hA.self.two
  have v0 : (w.alloc (.cells #[.pointer (some ⟨E, 0, none⟩)] 67)).cell? ⟨w.heap.size, 0, none⟩ = some (.pointer (some ⟨E, 0, none⟩)) := cell_of_row _ _ 0 _ _ _ (heap_alloc_new w _)
  have hvl := World.block_lt_of_cell? _ _ v0
  have hel := World.block_lt_of_cell? _ _ g1
  simp only at hvl hel
  have ci := index5 (V := w.heap.size) (cap := pq[i].2.c2) (f := f5 (allR (pq.map (·.1)))) hp.ents (fun W q x hx => c5_any (E := E) ((kept_cell q hvl trivial).trans v0) ((kept_cell q hel trivial).trans g1) (hA.tmp.kept q trivial (fun _ _ _ _ => trivial)) x (hok x hx).2.1)
  have KA : Hid (Kept (fun _ => True) w (w.alloc (.cells #[.pointer (some ⟨E, 0, none⟩)] 67))) := kA
  have i0 : (0 : Int) ≤ (i : Int) := by omega
  have i1 : (i : Int) < (pq.length : Int) := by omega
  clear h hp hA kA hvl hel hok
  generalize f5 (allR (pq.map (·.1))) = ff at *
  generalize pq[i] = pqi at *
  generalize pq.length = pl at *
  go_enter Try.func32, Try.ntmps32
  go_wp2_with (go_at_call 60; (with_reducible refine Calls.mono ci ?_); rintro e w1 ⟨⟨z, rfl, hz⟩, k1⟩; have HZ : Hid (IdxIs ff pqi.1.es z) := hz; clear hz)
  go_ret
  exact ⟨⟨_, rfl, HZ.out⟩, KA.out.trans k1⟩

set_option maxRecDepth 100000 in
set_option maxHeartbeats 2000000 in
theorem rule7_any {w : World} {E M n b : Nat} {pq : List (Up × Ua)} {ap : Option Addr} {cp : Nat} (h : GE w E M n b pq ap cp) (i : Nat) (hi : i < pq.length) (hok : ∀ x ∈ pq[i].1.es, Okr x.1.r) :
    Calls Try.prog 34 #[.pointer (some ⟨E, 0, none⟩), .int .i64 i] w fun e w' => (∃ z, e = .returned (.int .i64 z) ∧ IdxIs (f7 (allR (pq.map (·.1))) pq[i].1.g) pq[i].1.es z) ∧ Kept (fun _ => True) w w' := by
  obtain ⟨wA, hwA⟩ : ∃ x, x = w.alloc (.cells #[.pointer (some ⟨E, 0, none⟩)] 67) := ⟨_, rfl⟩
  have kA : Kept (fun _ => True) w wA := by rw [hwA]; exact (Kept.refl _ _).alloc _
  have v0 : wA.cell? ⟨w.heap.size, 0, none⟩ = some (.pointer (some ⟨E, 0, none⟩)) := by rw [hwA]; exact cell_of_row _ _ 0 _ _ _ (heap_alloc_new w _)
  have hA := h.all kA
  obtain ⟨g, rfl, hg, c0, c1, c2, c3, c4, c5⟩ := hA.page i hi
  obtain ⟨g0, g1⟩ := hA.self.two
  have i0 : (0 : Int) ≤ (i : Int) := by omega
  have i1 : (i : Int) < (pq.length : Int) := by omega
  go_enter Try.func34, Try.ntmps34
  go_upto_region 1 with fail
  rw [← hwA]
  clear hwA
  obtain ⟨wB, hwB⟩ : ∃ x, x = wA.alloc (.cells #[.int .i64 pq[i].1.g, .slice pq[i].2.a1 pq[i].1.ls.length pq[i].2.c1, .int .i64 pq[i].1.y, .int .i64 pq[i].1.z, .slice pq[i].2.a2 pq[i].1.es.length pq[i].2.c2, .int .i64 pq[i].1.lo] 116) := ⟨_, rfl⟩
  have kB : Kept (fun _ => True) wA wB := by rw [hwB]; exact (Kept.refl _ _).alloc _
  have FB : Bk wB wA.heap.size 116 [.int .i64 pq[i].1.g, .slice pq[i].2.a1 pq[i].1.ls.length pq[i].2.c1, .int .i64 pq[i].1.y, .int .i64 pq[i].1.z, .slice pq[i].2.a2 pq[i].1.es.length pq[i].2.c2, .int .i64 pq[i].1.lo] := by rw [hwB]; exact heap_alloc_new wA _
  have hB := hA.all kB
  have hp := hB.pgs pq[i] (List.getElem_mem hi)
  have v1 := (kept_cell kB (World.block_lt_of_cell? _ _ v0) trivial).trans v0
  have e1 := hB.self.two.2
  obtain ⟨x0, x1, x2, x3, x4, x5⟩ := FB.six
  have hvl := World.block_lt_of_cell? _ _ v1
  have hel := World.block_lt_of_cell? _ _ e1
  have hbl := FB.lt
  simp only at hvl hel
  have ci := index7 (V := w.heap.size) (B := wA.heap.size) (cap := pq[i].2.c2) (f := f7 (allR (pq.map (·.1))) pq[i].1.g) hp.ents (fun W q x hx => c7_any (E := E) ((kept_cell q hvl trivial).trans v1) ((kept_cell q hel trivial).trans e1) ((kept_cell q hbl trivial).trans x0) (hB.tmp.kept q trivial (fun _ _ _ _ => trivial)) x (hok x hx).2.1 (Its.gv ((hp.grps.all q) x hx)) (hok x hx).2.2)
  have KB : Hid (Kept (fun _ => True) w wB) := kA.trans kB
  clear h hp hA kA hB kB hvl hel hbl hok FB v1 e1
  go_upto_region 2 with fail
  rw [← hwB]
  clear hwB c0 c1 c2 c3 c4 c5 g0 g1 v0
  go_wp2_with (go_at_call 60; (with_reducible refine Calls.mono ci ?_); rintro e w1 ⟨⟨z, rfl, hz⟩, k1⟩; have HZ : Hid (IdxIs (f7 (allR (pq.map (·.1))) pq[i].1.g) pq[i].1.es z) := hz; clear hz)
  go_ret
  exact ⟨⟨_, rfl, HZ.out⟩, KB.out.trans k1⟩

end Go.Proofs.Ytmcaoimgmgjjiaa

namespace Go.Proofs.Ytmcaoimgmgjjiaa
open Go.RowKit

theorem rdOne_back (pre post : List UInt8) (x : Li) (hx : x.t.length ≤ 4000) : rdOne (pre ++ encI x ++ post) ⟨pre.length, 0⟩ = (x, ⟨(pre ++ encI x).length, 0⟩) := by
  have q : pre ++ encI x ++ post = pre ++ enc (x.t.length : Nat) 4 ++ x.t ++ (x.h ++ post) := by unfold encI; simp only [List.append_assoc]
  have ht := text_back pre (x.h ++ post) x.t 4000 (by omega) (by omega)
  rw [← q] at ht
  have l : (pre ++ encI x).length = pre.length + 4 + x.t.length + 32 := by rw [List.length_append, encI_len]; omega
  have hr : (⟨pre.length + 4 + x.t.length, 0⟩ : RS).raw (pre ++ encI x ++ post) 32 = (x.h, ⟨pre.length + 4 + x.t.length + 32, 0⟩) := by
    unfold RS.raw
    rw [if_pos rfl, if_pos (by rw [List.length_append, l]; simp only; omega)]
    have e : ((pre ++ encI x ++ post).drop (pre.length + 4 + x.t.length)).take 32 = x.h := by
      have q2 : pre ++ encI x ++ post = (pre ++ enc (x.t.length : Nat) 4 ++ x.t) ++ (x.h ++ post) := by rw [q]
      have l2 : (pre ++ enc (x.t.length : Nat) 4 ++ x.t).length = pre.length + 4 + x.t.length := by simp only [List.length_append, enc_length]
      rw [q2, ← l2, List.drop_left, ← x.len, List.take_left]
    simp only [e]
  unfold rdOne
  refine Prod.ext (Li.ext' ?_ ?_) ?_
  · simp only [ht]
  · simp only [ht, hr, pad32_self x.len]
  · simp only [ht, hr, l]
theorem rdN_back : ∀ (ys xs : List Li) (pre post : List UInt8), (∀ y ∈ ys, y.t.length ≤ 4000) → rdN (pre ++ encB ys ++ post) ys.length ⟨pre.length, 0⟩ xs = (xs ++ ys, ⟨(pre ++ encB ys).length, 0⟩)
  | [], xs, pre, post, _ => by simp [rdN, encB]
  | y :: ys, xs, pre, post, h => by
    have e0 : encB (y :: ys) = encI y ++ encB ys := rfl
    have q : pre ++ encB (y :: ys) ++ post = pre ++ encI y ++ (encB ys ++ post) := by rw [e0]; simp only [List.append_assoc]
    have er := rdOne_back pre (encB ys ++ post) y (h y (by simp))
    have ih := rdN_back ys (xs ++ [y]) (pre ++ encI y) post (fun z hz => h z (by simp [hz]))
    have q2 : pre ++ encI y ++ encB ys ++ post = pre ++ encI y ++ (encB ys ++ post) := by simp only [List.append_assoc]
    rw [q2] at ih
    rw [q, List.length_cons, rdN, if_neg (by simp), er]
    simp only
    rw [ih, e0]
    simp
theorem rdAll_back (xs : List Li) (hn : xs.length ≤ 4096) (hs : ∀ x ∈ xs, x.t.length ≤ 4000) : rdAll (encL xs) = (xs, ⟨(encL xs).length, 0⟩) := by
  have hc := count_back [] (encB xs) xs.length 4096 (by omega) (by omega)
  simp only [List.nil_append, List.length_nil, Nat.zero_add] at hc
  have e : encL xs = enc (xs.length : Nat) 4 ++ encB xs := rfl
  unfold rdAll
  rw [e, hc]
  simp only
  have h := rdN_back xs [] (enc (xs.length : Nat) 4) [] hs
  simp only [List.append_nil, enc_length, List.nil_append] at h
  exact h
theorem end_back (bs : List UInt8) : (⟨bs.length, 0⟩ : RS).end_ bs = (0, 0) := by simp [RS.end_]
theorem IsDec.back {xs ys : List Li} {y z : Int} (h : IsDec (encL xs) ys y z) (hn : xs.length ≤ 4096) (hs : ∀ x ∈ xs, x.t.length ≤ 4000) : ∃ n, IsChk xs n ∧ ((n < xs.length → ys = [] ∧ y = 12 ∧ z = ((encL (xs.take n)).length : Nat)) ∧ (n = xs.length → ys = xs ∧ y = 0 ∧ z = 0)) := by
  have e := rdAll_back xs hn hs
  have h2 := h.yes (by rw [e, end_back])
  rw [e] at h2
  exact h2
theorem lv_src {w : World} {ad : Addr} {ys : List Li} (h : Lv w (some ad) ys) : ∀ j u, (lrow ys)[j]? = some u → w.cell? (ad.add j) = some u := by
  intro j u hu
  have hj := (List.getElem?_eq_some_iff.1 hu).1
  rw [lrow_length] at hj
  obtain ⟨b, off, e, _, hc⟩ := h.row (by omega)
  cases e
  rw [WideShapes.add_plain]
  have hi : j / 33 < ys.length := by omega
  have hg := lrow_get ys (j / 33) hi (j % 33) (by omega)
  rw [show j / 33 * 33 + j % 33 = j by omega, hu] at hg
  have := hc (j / 33) hi (j % 33) u hg.symm
  rwa [show off + j / 33 * 33 + j % 33 = off + j by omega] at this
theorem append_links {T e : TypeId} (hT : LinkT T e) (w : World) (ty : TypeId) (base : Nat) (v : Value) (xs : List Li) (hown : Lo e w base v xs) (hb : base ≤ w.heap.size) (ao : Option Addr) (c : Nat) (ys : List Li) (hn : ao = none → c = 0) (hsrc : Lv w ao ys) (hm : xs.length + ys.length ≤ 3000000) :
    ∃ ao' cap' w', (Builtin.append_ #[T, T] ty #[v, .slice ao ys.length c]).run Try.prog w = .ok (.slice ao' (xs.length + ys.length) cap') w' ∧ Lo e w' base (.slice ao' (xs.length + ys.length) cap') (xs ++ ys) ∧ w.grownBy w' v.ownBlock ∧
      ((Value.slice ao' (xs.length + ys.length) cap').ownBlock = v.ownBlock ∨ (Value.slice ao' (xs.length + ys.length) cap').ownBlock = some w.heap.size) := by
  obtain ⟨i, hi, hz0, hz1, hz2⟩ := info_parts hT.info
  cases ao with
  | none =>
    have hc := hn rfl
    subst hc
    have he : ys = [] := by
      rcases Nat.eq_zero_or_pos ys.length with h | h
      · exact List.eq_nil_of_length_eq_zero h
      · obtain ⟨_, _, e, _⟩ := hsrc.row h
        cases e
    subst he
    obtain ⟨a0, c0, rfl, _⟩ := hown.shape
    have hrun := run_append_owned_none (P := Try.prog) (w := w) base T ty e i 33 hT.slice hi (.slice a0 xs.length c0) xs.length (lrow xs) hown
    exact ⟨a0, c0, w, hrun, by simpa using hown, ⟨rfl, rfl, rfl, Nat.le_refl _, fun _ _ _ => rfl⟩, .inl rfl⟩
  | some ad =>
    obtain ⟨v', w', hr, h2, h3, _, h5⟩ := run_append_own_at (P := Try.prog) w base T ty e i (.agg (lcell zeroLi).toArray) 33 48 hT.slice hi hz0 hz1 hz2 (by simp [Value.cells, lcell_length]) (by decide) v xs.length (lrow xs) hown ad ys.length c (lrow ys) (by rw [lrow_length]) (lv_src hsrc) (lrow_one ys) (by unfold maxLen; omega) (by omega) hb
    obtain ⟨ao', cap', rfl⟩ := own_shape_any h2
    refine ⟨ao', cap', w', hr, ?_, h3, h5⟩
    unfold Lo
    rw [lrow_append, List.length_append]
    exact h2
theorem wpList_append_links {T e : TypeId} {w : World} {ops : Array Oper} {rest : List Oper} {o : Oper} {a : Act} {Q : Exit → Act → World → Prop} (hT : LinkT T e) (hgd : o.guard = none) (sl y : Operand) (ho : o.op = .call { callee := .builtin .append, args := #[sl, y], argTypes := #[T, T] })
    (base : Nat) (v : Value) (xs : List Li) (hs : a.eval sl = v) (hown : Lo e w base v xs) (hb : base ≤ w.heap.size) (ao : Option Addr) (n c : Nat) (ys : List Li) (hl : ys.length = n) (hy : a.eval y = .slice ao n c) (hn : ao = none → c = 0) (hsrc : Lv w ao ys) (hm : xs.length + ys.length ≤ 3000000) (M : Nat) (hM : xs.length + n = M)
    (h : ∀ ao' cap' w', Lo e w' base (.slice ao' M cap') (xs ++ ys) → w.grownBy w' v.ownBlock → ((Value.slice ao' M cap').ownBlock = v.ownBlock ∨ (Value.slice ao' M cap').ownBlock = some w.heap.size) → wpList Try.prog ops Q rest (a.put o.dst (.slice ao' M cap')) w') : wpList Try.prog ops Q (o :: rest) a w := by
  subst hl hM
  refine wpList_plain hgd fun K hK => ?_
  obtain ⟨ao', cap', w', hr, h2, h3, h4⟩ := append_links hT w o.type base v xs hown hb ao c ys hn hsrc hm
  unfold Oper.wp execOp
  simp only [ho, resolve, invoke, builtin, Sem.run_bind, Sem.run_pure, Result.andThen_ok, List.map_toArray, List.map_cons, List.map_nil, hs, hy, hr]
  exact hK _ _ (h ao' cap' w' h2 h3 h4)
theorem step_storeH {w : World} {ops : Array Oper} {a : Act} {K : Act → World → Prop} {Q : Exit → Act → World → Prop} {E : Prop} {ty : TypeId} {p : String} {af : Array Edge} {x y : Operand} {b : Nat} {old xs : List Value} (hx : a.eval x = .pointer (some ⟨b, 0, none⟩)) (hy : a.eval y = .agg xs.toArray) (ha : Ar w b 78 old) (ho : old.length = 32) (hl : xs.length = 32) (h1 : ∀ u ∈ xs, u.oneCell' = true)
    (h : ∀ w', Ar w' b 78 xs → Kept (· ≠ b) w w' → Hid (w'.heap.size = w.heap.size) → K a w') : if Region.wanted ⟨none, .store 78 x y, ty, p, af, none⟩ (yielded ops a.tmps) = true then Oper.wp Try.prog ⟨none, .store 78 x y, ty, p, af, none⟩ a w K Q else E := by
  have hw : Region.wanted ⟨none, .store 78 x y, ty, p, af, none⟩ (yielded ops a.tmps) = true := by simp [Region.wanted]
  rw [if_pos hw]
  refine wp_store_row 78 x y rfl b xs.toArray hx hy 78 old.toArray ha (by rw [arr32.size]; simp [hl]) (by simp [ho, hl]) (by simpa using h1) ?_
  exact h _ (setRow_heap w b _ xs.toArray 78 _ ha) ((Kept.refl _ _).setRow (by simp) _) (show _ = _ by simp [World.setRow])

theorem Lo.some3 {e : TypeId} {w : World} {base n c : Nat} {a : Option Addr} {xs : List Li} (h : Lo e w base (.slice a n c) xs) (hn : 0 < n) : ∃ g, a = some ⟨g, 0, none⟩ ∧ base ≤ g ∧ g < w.heap.size ∧ n ≤ c := by
  obtain ⟨ao, cap, e0, hc, hg, _⟩ := h.shape
  injection e0 with e1 e2 e3
  subst e1 e2 e3
  obtain ⟨g, rfl⟩ := hg hn
  exact ⟨g, rfl, h.ge rfl, h.lt rfl, hc⟩

end Go.Proofs.Ytmcaoimgmgjjiaa
