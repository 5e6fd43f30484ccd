/-
  The rules but the third.
-/
import Derived.Test.YtbooeabmpdpgpaaU10b
namespace Go.Proofs.Ytbooeabmpdpgpaa
open Go.RowKit Go.Maps Go.Sort

theorem GE.page {w : World} {E M n b : Nat} {pq : List (Up × Ua)} {ap : Option Addr} {cp : Nat} (h : GE w E M n b pq ap cp) (i : Nat) (hi : i < pq.length) :
    ∃ g, ap = some ⟨g, 0, none⟩ ∧ g < w.heap.size ∧ w.cell? ⟨g, i * 6, none⟩ = some (.int .i64 pq[i].1.g) ∧ w.cell? ⟨g, i * 6 + 1, none⟩ = some (.slice pq[i].2.a1 pq[i].1.ls.length pq[i].2.c1) ∧ w.cell? ⟨g, i * 6 + 2, none⟩ = some (.int .i64 pq[i].1.y) ∧ w.cell? ⟨g, i * 6 + 3, none⟩ = some (.int .i64 pq[i].1.z) ∧ w.cell? ⟨g, i * 6 + 4, none⟩ = some (.slice pq[i].2.a2 pq[i].1.es.length pq[i].2.c2) ∧ w.cell? ⟨g, i * 6 + 5, none⟩ = some (.int .i64 pq[i].1.lo) := by
  have hr := h.row
  obtain ⟨g, rfl, _, hg, _⟩ := hr.some3 (by omega)
  exact ⟨g, rfl, hg, hr.at i hi 0 _ rfl, hr.at i hi 1 _ rfl, hr.at i hi 2 _ rfl, hr.at i hi 3 _ rfl, hr.at i hi 4 _ rfl, hr.at i hi 5 _ rfl⟩
def ru1 (p : Up) : Int := if p.y = 0 then -1 else p.z
def ru2 (p : Up) : Int := if p.es.length < p.ls.length then (p.es.length : Int) else -1

set_option maxRecDepth 100000 in
set_option maxHeartbeats 2000000 in
theorem rule1_any {w : World} {E M n b : Nat} {pq : List (Up × Ua)} {ap : Option Addr} {cp : Nat} (h : GE w E M n b pq ap cp) (i : Nat) (hi : i < pq.length) :
    Calls Try.prog 28 #[.pointer (some ⟨E, 0, none⟩), .int .i64 i] w fun e w' => e = .returned (.int .i64 (ru1 pq[i].1)) ∧ Kept (fun _ => True) w w' := by
  obtain ⟨g, rfl, hg, c0, c1, c2, c3, c4, c5⟩ := h.page i hi
  obtain ⟨g0, g1⟩ := h.self.two
  have KA : Hid (∀ o, Kept (fun _ => True) w (w.alloc o)) := fun o => (Kept.refl _ _).alloc o
  have i0 : (0 : Int) ≤ (i : Int) := by omega
  have i1 : (i : Int) < (pq.length : Int) := by omega
  clear h
  generalize pq[i] = pqi at *
  generalize pq.length = pl at *
  by_cases hy : pqi.1.y = 0
  · have HR : Hid (ru1 pqi.1 = -1) := by show _ = _; simp [ru1, hy]
    generalize ru1 pqi.1 = R at *
    rw [hy] at c2
    clear hy
    go_enter Try.func28, Try.ntmps28
    go_wp2
    go_ret
    exact ⟨by rw [HR.out]; rfl, KA.out _⟩
  · have HR : Hid (ru1 pqi.1 = pqi.1.z) := by show _ = _; simp [ru1, hy]
    have hy2 : (pqi.1.y == 0) = false := by simpa using hy
    have hy3 : (pqi.1.y != 0) = true := by simpa using hy
    generalize ru1 pqi.1 = R at *
    generalize pqi.1.y = yy at *
    clear hy
    go_enter Try.func28, Try.ntmps28
    go_wp2
    go_ret
    exact ⟨by rw [HR.out]; rfl, KA.out _⟩

set_option maxRecDepth 100000 in
set_option maxHeartbeats 2000000 in
theorem rule2_any {w : World} {E M n b : Nat} {pq : List (Up × Ua)} {ap : Option Addr} {cp : Nat} (h : GE w E M n b pq ap cp) (i : Nat) (hi : i < pq.length) :
    Calls Try.prog 29 #[.pointer (some ⟨E, 0, none⟩), .int .i64 i] w fun e w' => e = .returned (.int .i64 (ru2 pq[i].1)) ∧ Kept (fun _ => True) w w' := by
  obtain ⟨g, rfl, hg, c0, c1, c2, c3, c4, c5⟩ := h.page i hi
  obtain ⟨g0, g1⟩ := h.self.two
  have KA : Hid (∀ o, Kept (fun _ => True) w (w.alloc o)) := fun o => (Kept.refl _ _).alloc o
  have i0 : (0 : Int) ≤ (i : Int) := by omega
  have i1 : (i : Int) < (pq.length : Int) := by omega
  clear h
  generalize pq[i] = pqi at *
  generalize pq.length = pl at *
  by_cases hy : pqi.1.es.length < pqi.1.ls.length
  · have HR : Hid (ru2 pqi.1 = (pqi.1.es.length : Int)) := by show _ = _; simp [ru2, hy]
    generalize ru2 pqi.1 = R at *
    have hy2 : (pqi.1.es.length : Int) < (pqi.1.ls.length : Int) := by omega
    generalize pqi.1.es.length = el at *
    generalize pqi.1.ls.length = ll at *
    clear hy
    go_enter Try.func29, Try.ntmps29
    go_wp2
    go_ret
    exact ⟨by rw [HR.out]; rfl, KA.out _⟩
  · have HR : Hid (ru2 pqi.1 = -1) := by show _ = _; simp [ru2, hy]
    generalize ru2 pqi.1 = R at *
    have hy2 : ¬ (pqi.1.es.length : Int) < (pqi.1.ls.length : Int) := by omega
    generalize pqi.1.es.length = el at *
    generalize pqi.1.ls.length = ll at *
    clear hy
    go_enter Try.func29, Try.ntmps29
    go_wp2
    go_ret
    exact ⟨by rw [HR.out]; rfl, KA.out _⟩

set_option maxRecDepth 100000 in
set_option maxHeartbeats 2000000 in
theorem rule4_any {w : World} {E M n b : Nat} {pq : List (Up × Ua)} {ap : Option Addr} {cp : Nat} (h : GE w E M n b pq ap cp) (i : Nat) (hi : i < pq.length) :
    Calls Try.prog 31 #[.pointer (some ⟨E, 0, none⟩), .int .i64 i] w fun e w' => (∃ z, e = .returned (.int .i64 z) ∧ IdxIs f4 pq[i].1.es z) ∧ Kept (fun _ => True) w w' := by
  have hp := h.pgs pq[i] (List.getElem_mem hi)
  obtain ⟨g, rfl, hg, c0, c1, c2, c3, c4, c5⟩ := h.page i hi
  obtain ⟨g0, g1⟩ := h.self.two
  have ci := index4 (cap := pq[i].2.c2) (f := f4) hp.ents (fun W _ x _ => c4_any W x)
  have i0 : (0 : Int) ≤ (i : Int) := by omega
  have i1 : (i : Int) < (pq.length : Int) := by omega
  clear h hp
  generalize pq[i] = pqi at *
  generalize pq.length = pl at *
  go_enter Try.func31, Try.ntmps31
  go_wp2_with (go_at_call 60; (with_reducible refine Calls.mono ci ?_); rintro e w1 ⟨⟨z, rfl, hz⟩, k1⟩; have HZ : Hid (IdxIs f4 pqi.1.es z) := hz; clear hz)
  go_ret
  exact ⟨⟨_, rfl, HZ.out⟩, k1⟩

set_option maxRecDepth 100000 in
set_option maxHeartbeats 2000000 in
theorem rule6_any {w : World} {E M n b : Nat} {pq : List (Up × Ua)} {ap : Option Addr} {cp : Nat} (h : GE w E M n b pq ap cp) (i : Nat) (hi : i < pq.length) :
    Calls Try.prog 33 #[.pointer (some ⟨E, 0, none⟩), .int .i64 i] w fun e w' => (∃ z, e = .returned (.int .i64 z) ∧ IdxIs f6 pq[i].1.es z) ∧ Kept (fun _ => True) w w' := by
  have hp := h.pgs pq[i] (List.getElem_mem hi)
  obtain ⟨g, rfl, hg, c0, c1, c2, c3, c4, c5⟩ := h.page i hi
  obtain ⟨g0, g1⟩ := h.self.two
  have ci := index6 (cap := pq[i].2.c2) (f := f6) hp.ents (fun W _ x _ => c6_any W x)
  have i0 : (0 : Int) ≤ (i : Int) := by omega
  have i1 : (i : Int) < (pq.length : Int) := by omega
  clear h hp
  generalize pq[i] = pqi at *
  generalize pq.length = pl at *
  go_enter Try.func33, Try.ntmps33
  go_wp2_with (go_at_call 60; (with_reducible refine Calls.mono ci ?_); rintro e w1 ⟨⟨z, rfl, hz⟩, k1⟩; have HZ : Hid (IdxIs f6 pqi.1.es z) := hz; clear hz)
  go_ret
  exact ⟨⟨_, rfl, HZ.out⟩, k1⟩

set_option maxRecDepth 100000 in
set_option maxHeartbeats 2000000 in
theorem rule5_any {w : World} {E M n b : Nat} {pq : List (Up × Ua)} {ap : Option Addr} {cp : Nat} (h : GE w E M n b pq ap cp) (i : Nat) (hi : i < pq.length) (hok : ∀ x ∈ pq[i].1.es, Okr x.1.r) :
    Calls Try.prog 32 #[.pointer (some ⟨E, 0, none⟩), .int .i64 i] w fun e w' => (∃ z, e = .returned (.int .i64 z) ∧ IdxIs (f5 (allR (pq.map (·.1)))) pq[i].1.es z) ∧ Kept (fun _ => True) w w' := by
  have kA : Kept (fun _ => True) w (w.alloc (.cells #[.pointer (some ⟨E, 0, none⟩)] 67)) := (Kept.refl _ _).alloc _
  have hA := h.all kA
  have hp := hA.pgs pq[i] (List.getElem_mem hi)
  obtain ⟨g, rfl, hg, c0, c1, c2, c3, c4, c5⟩ := hA.page i hi
  obtain ⟨g0, g1⟩ := hA.self.two
  have v0 : (w.alloc (.cells #[.pointer (some ⟨E, 0, none⟩)] 67)).cell? ⟨w.heap.size, 0, none⟩ = some (.pointer (some ⟨E, 0, none⟩)) := cell_of_row _ _ 0 _ _ _ (heap_alloc_new w _)
  have hvl := World.block_lt_of_cell? _ _ v0
  have hel := World.block_lt_of_cell? _ _ g1
  simp only at hvl hel
  have ci := index5 (V := w.heap.size) (cap := pq[i].2.c2) (f := f5 (allR (pq.map (·.1)))) hp.ents (fun W q x hx => c5_any (E := E) ((kept_cell q hvl trivial).trans v0) ((kept_cell q hel trivial).trans g1) (hA.tmp.kept q trivial (fun _ _ _ _ => trivial)) x (hok x hx).2.1)
  have KA : Hid (Kept (fun _ => True) w (w.alloc (.cells #[.pointer (some ⟨E, 0, none⟩)] 67))) := kA
  have i0 : (0 : Int) ≤ (i : Int) := by omega
  have i1 : (i : Int) < (pq.length : Int) := by omega
  clear h hp hA kA hvl hel hok
  generalize f5 (allR (pq.map (·.1))) = ff at *
  generalize pq[i] = pqi at *
  generalize pq.length = pl at *
  go_enter Try.func32, Try.ntmps32
  go_wp2_with (go_at_call 60; (with_reducible refine Calls.mono ci ?_); rintro e w1 ⟨⟨z, rfl, hz⟩, k1⟩; have HZ : Hid (IdxIs ff pqi.1.es z) := hz; clear hz)
  go_ret
  exact ⟨⟨_, rfl, HZ.out⟩, KA.out.trans k1⟩

set_option maxRecDepth 100000 in
set_option maxHeartbeats 2000000 in
theorem rule7_any {w : World} {E M n b : Nat} {pq : List (Up × Ua)} {ap : Option Addr} {cp : Nat} (h : GE w E M n b pq ap cp) (i : Nat) (hi : i < pq.length) (hok : ∀ x ∈ pq[i].1.es, Okr x.1.r) :
    Calls Try.prog 34 #[.pointer (some ⟨E, 0, none⟩), .int .i64 i] w fun e w' => (∃ z, e = .returned (.int .i64 z) ∧ IdxIs (f7 (allR (pq.map (·.1))) pq[i].1.g) pq[i].1.es z) ∧ Kept (fun _ => True) w w' := by
  obtain ⟨wA, hwA⟩ : ∃ x, x = w.alloc (.cells #[.pointer (some ⟨E, 0, none⟩)] 67) := ⟨_, rfl⟩
  have kA : Kept (fun _ => True) w wA := by rw [hwA]; exact (Kept.refl _ _).alloc _
  have v0 : wA.cell? ⟨w.heap.size, 0, none⟩ = some (.pointer (some ⟨E, 0, none⟩)) := by rw [hwA]; exact cell_of_row _ _ 0 _ _ _ (heap_alloc_new w _)
  have hA := h.all kA
  obtain ⟨g, rfl, hg, c0, c1, c2, c3, c4, c5⟩ := hA.page i hi
  obtain ⟨g0, g1⟩ := hA.self.two
  have i0 : (0 : Int) ≤ (i : Int) := by omega
  have i1 : (i : Int) < (pq.length : Int) := by omega
  go_enter Try.func34, Try.ntmps34
  go_upto_region 1 with fail
  rw [← hwA]
  clear hwA
  obtain ⟨wB, hwB⟩ : ∃ x, x = wA.alloc (.cells #[.int .i64 pq[i].1.g, .slice pq[i].2.a1 pq[i].1.ls.length pq[i].2.c1, .int .i64 pq[i].1.y, .int .i64 pq[i].1.z, .slice pq[i].2.a2 pq[i].1.es.length pq[i].2.c2, .int .i64 pq[i].1.lo] 116) := ⟨_, rfl⟩
  have kB : Kept (fun _ => True) wA wB := by rw [hwB]; exact (Kept.refl _ _).alloc _
  have FB : Bk wB wA.heap.size 116 [.int .i64 pq[i].1.g, .slice pq[i].2.a1 pq[i].1.ls.length pq[i].2.c1, .int .i64 pq[i].1.y, .int .i64 pq[i].1.z, .slice pq[i].2.a2 pq[i].1.es.length pq[i].2.c2, .int .i64 pq[i].1.lo] := by rw [hwB]; exact heap_alloc_new wA _
  have hB := hA.all kB
  have hp := hB.pgs pq[i] (List.getElem_mem hi)
  have v1 := (kept_cell kB (World.block_lt_of_cell? _ _ v0) trivial).trans v0
  have e1 := hB.self.two.2
  obtain ⟨x0, x1, x2, x3, x4, x5⟩ := FB.six
  have hvl := World.block_lt_of_cell? _ _ v1
  have hel := World.block_lt_of_cell? _ _ e1
  have hbl := FB.lt
  simp only at hvl hel
  have ci := index7 (V := w.heap.size) (B := wA.heap.size) (cap := pq[i].2.c2) (f := f7 (allR (pq.map (·.1))) pq[i].1.g) hp.ents (fun W q x hx => c7_any (E := E) ((kept_cell q hvl trivial).trans v1) ((kept_cell q hel trivial).trans e1) ((kept_cell q hbl trivial).trans x0) (hB.tmp.kept q trivial (fun _ _ _ _ => trivial)) x (hok x hx).2.1 (Its.gv ((hp.grps.all q) x hx)) (hok x hx).2.2)
  have KB : Hid (Kept (fun _ => True) w wB) := kA.trans kB
  clear h hp hA kA hB kB hvl hel hbl hok FB v1 e1
  go_upto_region 2 with fail
  rw [← hwB]
  clear hwB c0 c1 c2 c3 c4 c5 g0 g1 v0
  go_wp2_with (go_at_call 60; (with_reducible refine Calls.mono ci ?_); rintro e w1 ⟨⟨z, rfl, hz⟩, k1⟩; have HZ : Hid (IdxIs (f7 (allR (pq.map (·.1))) pq[i].1.g) pq[i].1.es z) := hz; clear hz)
  go_ret
  exact ⟨⟨_, rfl, HZ.out⟩, KB.out.trans k1⟩

end Go.Proofs.Ytbooeabmpdpgpaa
