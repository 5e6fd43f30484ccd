/-
  The law SchemaNumbers.
-/
import Derived.Test.YtahbfffhkpojmaaDoorTKn
import Derived.Test.YtahbfffhkpojmaaDoorTR9
namespace Go.Proofs.YtahbfffhkpojmaaDoor
open Go.RowKit

def isText (v : Value) : Bool := match v with
  | .string b => decide (b.size ≤ 10000)
  | _ => false
theorem block_texts {w : World} {g : Nat} {cs : Array Value} {t : TypeId} {fr : Nat × Nat} (h : w.heap[g]? = some (.cells cs t fr)) (ha : cs.all isText = true) (k : Nat) (hk : k < cs.size) : ∃ s : List UInt8, w.cell? ⟨g, k, none⟩ = some (.string ⟨s.toArray⟩) ∧ s.length ≤ 10000 := by
  have hx := Array.all_eq_true.1 ha k hk
  have hc : w.cell? ⟨g, k, none⟩ = some cs[k] := by simp [World.cell?, h, hk]
  generalize cs[k] = v at hx hc
  cases v with
  | string b =>
    obtain ⟨⟨s⟩⟩ := b
    exact ⟨s, hc, by simpa [isText, ByteArray.size] using hx⟩
  | _ => simp [isText] at hx
theorem txs_block {w : World} {G : Nat} {cs : Array Value} {ss : List (List UInt8)} (h : w.heap[G]? = some (.cells cs 9 (0, 0))) (hc : cs = (srow ss).toArray) (hl : ss.length ≤ 1000000) : Txs w 0 (.slice (some ⟨G, 0, none⟩) ss.length ss.length) ss := by
  subst hc
  exact ⟨by simp [srow_length], .inr ⟨G, ss.length, (srow ss).toArray, rfl, Nat.zero_le _, h, Nat.le_refl _, by unfold maxLen; omega, by simp [srow_length], by rw [Nat.mul_one, List.take_of_length_le (by simp [srow_length])]⟩⟩
theorem loan_fine : right loan = 0 := by decide +kernel
theorem loan_sz : Tsz loan := ⟨by decide, by decide, by decide, by decide⟩
theorem count_fit : Tfit count := by
  intro a ha
  simp only [count, List.mem_cons, List.not_mem_nil, or_false] at ha
  subst ha
  exact ⟨⟨by decide, by decide⟩, ⟨by decide, by decide⟩, ⟨by decide, by decide⟩⟩
def countT : List UInt8 := [116, 121, 112, 101, 32, 99, 111, 117, 110, 116, 59, 32, 97, 116, 116, 114, 32, 110, 32, 48, 32, 45, 49, 48, 48, 48, 32, 49, 48, 48, 48]
theorem count_write : write count = countT := by decide +kernel
/-- Two types in a row. -/
theorem two_rows {w : World} {g : Nat} {a0 a1 a2 a3 b0 b1 b2 b3 : Value} {t : TypeId} {fr : Nat × Nat} (h : w.heap[g]? = some (.cells #[a0, a1, a2, a3, b0, b1, b2, b3] t fr)) :
    (w.cell? ⟨g, 0, none⟩ = some a0 ∧ w.cell? ⟨g, 1, none⟩ = some a1 ∧ w.cell? ⟨g, 2, none⟩ = some a2 ∧ w.cell? ⟨g, 3, none⟩ = some a3) ∧ (w.cell? ⟨g, 4, none⟩ = some b0 ∧ w.cell? ⟨g, 5, none⟩ = some b1 ∧ w.cell? ⟨g, 6, none⟩ = some b2 ∧ w.cell? ⟨g, 7, none⟩ = some b3) :=
  ⟨⟨by simp [World.cell?, h], by simp [World.cell?, h], by simp [World.cell?, h], by simp [World.cell?, h]⟩, by simp [World.cell?, h], by simp [World.cell?, h], by simp [World.cell?, h], by simp [World.cell?, h]⟩

set_option maxRecDepth 100000 in
set_option maxHeartbeats 16000000 in
theorem schemaNumbers_any {w : World} (ht : Tab w) :
    Calls Tryd.prog 3 #[] w fun e w' => e = .returned (.bool true) ∧ Kept (fun _ => True) w w' := by
  have HTab : Hid (Tab w) := ht
  clear ht
  go_enter Tryd.func3, Tryd.ntmps3
  go_wp2_with fail
  go_loopw [2, 3, 4, 5, 6, 7, 8, 12] (fun _ _ _ _ _ _ _ t12 wr => ∃ k : Nat, k ≤ 23 ∧ t12 = .int .i64 k ∧ (∀ i, i < 23 → ∃ s : List UInt8, wr.cell? ⟨w.heap.size, i, none⟩ = some (.string ⟨s.toArray⟩) ∧ s.length ≤ 10000) ∧ Kept (fun _ => True) w wr) (fun _ _ _ _ _ _ _ t12 _ => 23 - (intOf t12).toNat)
  case atStart => exact ⟨0, by omega, rfl, fun i hi => block_texts (heap_alloc_new w _) (by kernel_rfl) i hi, (Kept.refl _ _).alloc _⟩
  case round =>
  obtain ⟨k, hk, rfl, hc, hkr⟩ := hrel
  have HC : Hid (∀ i, i < 23 → ∃ s : List UInt8, wr.cell? ⟨w.heap.size, i, none⟩ = some (.string ⟨s.toArray⟩) ∧ s.length ≤ 10000) := hc
  have HK : Hid (Kept (fun _ => True) w wr) := hkr
  clear hc hkr
  by_cases hlt : k < 23
  · obtain ⟨s, hs, hl⟩ := HC.out k hlt
    have i1 : (k : Int) < 23 := by omega
    have i0 : (0 : Int) ≤ (k : Int) := by omega
    have HG : Hid (w.heap.size < wr.heap.size) := World.block_lt_of_cell? wr _ hs
    have cr := fun W => reads_any (w := W) s (by omega)
    have cq := fun W => rreads_any (w := W) s (by omega)
    generalize (read s).2.2 = at1 at *
    generalize (read s).2.1 = e1 at *
    generalize (read s).1 = u at *
    have n1 : ((e1 : Int) != (e1 : Int)) = false := by simp
    have n2 : ((at1 : Int) != (at1 : Int)) = false := by simp
    go_wp2_with fail
    refine Calls.mono (cr _) ?_
    rintro e w2 ⟨uv, rfl, hu, k2⟩
    obtain ⟨ao2, an2, ac2, so2, sn2, sc2, mo2, mn2, mc2, rfl⟩ := hu.parts
    have HK3 : Hid (Kept (fun _ => True) wr (w2.alloc (.cells #[.string ⟨u.name.toArray⟩, .slice ao2 an2 ac2, .slice so2 sn2 sc2, .slice mo2 mn2 mc2] 26))) := k2.alloc _
    have HU : Hid _ := heap_alloc_new w2 (.cells #[.string ⟨u.name.toArray⟩, .slice ao2 an2 ac2, .slice so2 sn2 sc2, .slice mo2 mn2 mc2] 26)
    have HVu : Hid (TyV (w2.alloc (.cells #[.string ⟨u.name.toArray⟩, .slice ao2 an2 ac2, .slice so2 sn2 sc2, .slice mo2 mn2 mc2] 26)) (.agg #[.string ⟨u.name.toArray⟩, .slice ao2 an2 ac2, .slice so2 sn2 sc2, .slice mo2 mn2 mc2]) u) := hu.all ((Kept.refl _ _).alloc _)
    clear cr hu k2 hs
    go_wp2_with fail
    generalize w2.alloc (.cells #[.string ⟨u.name.toArray⟩, .slice ao2 an2 ac2, .slice so2 sn2 sc2, .slice mo2 mn2 mc2] 26) = w3 at *
    generalize w2.heap.size = U at *
    refine Calls.mono (cq _) ?_
    rintro e w4 ⟨qv, rfl, hq, k4⟩
    obtain ⟨ao3, an3, ac3, so3, sn3, sc3, mo3, mn3, mc3, rfl⟩ := hq.parts
    have k5 : Kept (fun _ => True) w3 (w4.alloc (.cells #[.string ⟨u.name.toArray⟩, .slice ao3 an3 ac3, .slice so3 sn3 sc3, .slice mo3 mn3 mc3] 26)) := k4.alloc _
    have HK5 : Hid _ := HK3.out.trans k5
    have hU5 := (k5.block U (lt_of_block HU.out) trivial).trans HU.out
    obtain ⟨⟨u0, u1, u2, u3⟩, _⟩ := four_cell hU5
    have HVq : Hid (TyV (w4.alloc (.cells #[.string ⟨u.name.toArray⟩, .slice ao3 an3 ac3, .slice so3 sn3 sc3, .slice mo3 mn3 mc3] 26)) (.agg #[.string ⟨u.name.toArray⟩, .slice ao3 an3 ac3, .slice so3 sn3 sc3, .slice mo3 mn3 mc3]) u) := hq.all ((Kept.refl _ _).alloc _)
    have c7 := same_any (HVu.out.all k5) HVq.out
    clear cq hq k4 k5 hU5 HU HVu HVq HK3
    go_wp2_with fail
    generalize w4.alloc (.cells #[.string ⟨u.name.toArray⟩, .slice ao3 an3 ac3, .slice so3 sn3 sc3, .slice mo3 mn3 mc3] 26) = w6 at *
    refine Calls.mono c7 ?_
    rintro e w7 ⟨rfl, k7⟩
    have HK7 : Hid (Kept (fun _ => True) wr w7) := HK5.out.trans k7
    clear c7 k7 u0 u1 u2 u3 HK5
    go_wp2_with fail
    go_roundw
    case rel => exact ⟨k + 1, by omega, by go_num, fun i hi => by obtain ⟨s', h1, h2⟩ := HC.out i hi; exact ⟨s', (kept_cell HK7.out HG.out trivial).trans h1, h2⟩, HK.out.trans HK7.out⟩
    case measure => simp [intOf]; omega
  · have i1 : ¬ (k : Int) < 23 := by omega
    clear HC
    go_wp2_with fail
    refine Calls.mono types_any ?_
    rintro e w3 ⟨g, a, s, m, b, rfl, hg, hT, hN, k3⟩
    have HG : Hid _ := hg
    have HT : Hid (TyV w3 (.agg #[.string ⟨loan.name.toArray⟩, a, s, m]) loan) := hT
    have HN : Hid (TyV w3 (.agg #[.string ⟨count.name.toArray⟩, b, .slice none 0 0, .slice none 0 0]) count) := hN
    have HK3 : Hid (Kept (fun _ => True) w w3) := HK.out.trans k3
    obtain ⟨⟨y0, y1, y2, y3⟩, _⟩ := two_rows hg
    have c1 := right_any hT loan_sz
    rw [loan_fine] at c1
    clear hg hT hN k3
    go_wp2_with fail
    refine Calls.mono c1 ?_
    rintro e w4 ⟨rfl, k4⟩
    clear y0 y1 y2 y3 c1
    obtain ⟨⟨y0, y1, y2, y3⟩, _⟩ := two_rows ((k4.block g (lt_of_block HG.out) trivial).trans HG.out)
    have c2 := names_any (HT.out.all k4) (by decide)
    have HK4 : Hid (Kept (fun _ => True) w3 w4) := k4
    clear k4
    go_wp2_with fail
    refine Calls.mono c2 ?_
    rintro e w5 ⟨nv, rfl, hn, k5⟩
    obtain ⟨na, nc, rfl, _⟩ := hn.shape
    have HNa : Hid (Txs w5 w4.heap.size (.slice na (nms loan).length nc) (nms loan)) := hn
    have HK5 : Hid (Kept (fun _ => True) w3 w5) := HK4.out.trans k5
    clear c2 hn k5 y0 y1 y2 y3
    go_wp2_with fail
    refine Calls.mono (texts_same (xs := nms loan) (b2 := 0) (Txs.kept HNa.out ((Kept.refl (fun _ => True) _).alloc _) (fun _ _ => trivial)) (txs_block (heap_alloc_new _ _) (by kernel_rfl) (by decide)) (by decide)) ?_
    rintro e w6 ⟨rfl, k6⟩
    have HK6 : Hid (Kept (fun _ => True) w3 w6) := (HK5.out.alloc _).trans k6
    obtain ⟨_, ⟨y4, y5, y6, y7⟩⟩ := two_rows ((HK6.out.block g (lt_of_block HG.out) trivial).trans HG.out)
    have c3 := write_any (HN.out.all HK6.out) (HTab.out.all (HK3.out.trans HK6.out)) count_fit (by rw [count_write]; decide)
    rw [count_write] at c3
    clear k6
    go_wp2_with fail
    refine Calls.mono c3 ?_
    rintro e w7 ⟨rfl, k7⟩
    have HK7 : Hid (Kept (fun _ => True) w3 w7) := HK6.out.trans k7
    clear c3 k7 y4 y5 y6 y7
    go_wp2_with fail
    refine Calls.mono known_any ?_
    rintro e w8 ⟨rfl, k8⟩
    have HK8 : Hid (Kept (fun _ => True) w w8) := HK3.out.trans (HK7.out.trans k8)
    clear k8
    go_wp2_with fail
    go_ret
    exact ⟨rfl, HK8.out⟩

end Go.Proofs.YtahbfffhkpojmaaDoor
