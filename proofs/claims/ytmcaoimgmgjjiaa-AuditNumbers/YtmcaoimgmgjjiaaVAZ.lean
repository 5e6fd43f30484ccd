/-
  Texts of the proofs, 52 of 53.
-/
import Derived.Test.YtmcaoimgmgjjiaaVAX
import Derived.Test.YtmcaoimgmgjjiaaVAI
import Derived.Laws.BitsAllLaws
import Derived.Test.YtmcaoimgmgjjiaaVAY
namespace Go.Proofs.Ytmcaoimgmgjjiaa
open Go.RowKit Go.Maps Go.Sort

def Vk : Nat → World → Value → Prop
  | 0, w, v => RecV w v
  | 1, w, v => RowV 1 w v
  | 2, w, v => RowV 2 w v
  | 3, w, v => RowV 3 w v
  | 4, w, v => ClmV w v
  | 5, w, v => LstV 1 w v
  | 6, w, v => LstV 2 w v
  | 7, w, v => LstV 3 w v
  | 8, w, v => IntsV w v
  | 9, w, v => AllV w v
  | 10, _, v => v = .int .i64 15
  | 11, _, v => v = .int .i64 0
  | _, _, _ => True
theorem Vk.mono : ∀ (n : Nat) {w w' : World} {v : Value}, Vk n w v → Kept (fun _ => True) w w' → Vk n w' v
  | 0, _, _, _, h, k => RecV.mono h k
  | 1, _, _, _, h, k => RowV.mono h k
  | 2, _, _, _, h, k => RowV.mono h k
  | 3, _, _, _, h, k => RowV.mono h k
  | 4, _, _, _, h, k => ClmV.mono h k
  | 5, _, _, _, h, k => LstV.mono h k
  | 6, _, _, _, h, k => LstV.mono h k
  | 7, _, _, _, h, k => LstV.mono h k
  | 8, _, _, _, h, k => IntsV.mono h k
  | 9, _, _, _, h, k => AllV.mono h k
  | 10, _, _, _, h, _ => h
  | 11, _, _, _, h, _ => h
  | _ + 12, _, _, _, _, _ => trivial
theorem all_slice {w : World} {v : Value} (h : AllV w v) : ∃ BA, v = .slice (some ⟨BA, 0, none⟩) 15 15 ∧ AllV w (.slice (some ⟨BA, 0, none⟩) 15 15) := by
  have h0 := h
  obtain ⟨BA, vs, rfl, _⟩ := h
  exact ⟨BA, rfl, h0⟩
theorem all_at {w : World} {BA j : Nat} (h : AllV w (.slice (some ⟨BA, 0, none⟩) 15 15)) (hj : j < 15) : ∃ (n : Nat) (_ : n ≤ 3) (aB : Option Addr) (cs : List Uc), w.cell? ⟨BA, j, none⟩ = some (.slice aB n n) ∧ cs.length = n ∧ Lst w aB cs := by
  obtain ⟨B, vs, e, hB, hl, hv⟩ := h
  injection e with e1 _ _
  injection e1 with e1
  injection e1 with e1 _ _
  subst e1
  have hjv : j < vs.length := by omega
  obtain ⟨n, hn, B1, cs, e2, hc, hL⟩ := hv _ (List.getElem_mem hjv)
  refine ⟨n, hn, some ⟨B1, 0, none⟩, cs, ?_, hc, hL⟩
  have h1 := cell_of_row w BA j vs.toArray 30 (0, 0) hB
  have h2 : vs.toArray[j]? = some vs[j] := by simp [hjv]
  exact h1.trans (h2.trans (congrArg some e2))
def kk8 : List Nat := [4, 5, 0, 0, 2, 4, 5, 0, 1, 4, 5, 0, 1, 4, 5, 8, 0, 1, 4, 5, 0, 0, 2, 4, 0, 0, 0, 3, 4, 6, 0, 0, 2, 4, 0, 0, 0, 3, 4, 0, 0, 2, 4, 7, 0, 0, 0, 3, 4, 5, 0, 0, 0, 3, 4, 5, 0, 0, 2, 4, 5, 0, 0, 0, 3, 4, 5, 0, 1, 4, 5, 0, 0, 2, 4, 0, 0, 2, 4, 6, 0, 0, 2, 4, 5, 0, 0, 2, 4, 0, 0, 2, 4, 6, 9, 10, 11]
def V8 (i : Nat) (w : World) (v : Value) : Prop := Vk (kk8.getD i 99) w v
theorem V8.mono (i : Nat) (w w' : World) (v : Value) (h : V8 i w v) (k : Kept (fun _ => True) w w') : V8 i w' v := Vk.mono _ h k
theorem gi_no (w : World) (a : Option Addr) : Gi w a [] := fun h => by simp at h
theorem xorcA (z : UInt8) (t : Int) (ht : 0 ≤ t ∧ t < 256) : ∃ y : UInt8, bits BinOp.xor .u8 (z.toNat : Int) t = (y.toNat : Int) := by
  obtain ⟨T, rfl⟩ := Int.eq_ofNat_of_zero_le ht.1
  have hz := z.toNat_lt
  refine ⟨UInt8.ofNat (z.toNat ^^^ T), ?_⟩
  have hx : z.toNat ^^^ T < 2 ^ 8 := Nat.xor_lt_two_pow (by omega) (by omega)
  rw [u8_xor_nat z.toNat T (by omega) (by omega)]
  rw [UInt8.toNat_ofNat', Nat.mod_eq_of_lt hx]
theorem ob_nA {w : World} {base g n c : Nat} {bs : List UInt8} (h : Ob w base (.slice (some ⟨g, 0, none⟩) n c) bs) : n = bs.length := by
  rcases h.2 with ⟨hv, _⟩ | ⟨g', cap, cur, hv, _⟩
  · cases hv
  · injection hv
theorem ob_setA {w : World} {base g n c : Nat} {bs : List UInt8} (h : Ob w base (.slice (some ⟨g, 0, none⟩) n c) bs) (q : Nat) (y : UInt8) : Ob (w.setCell ⟨g, q, none⟩ (.int .u8 y.toNat)) base (.slice (some ⟨g, 0, none⟩) n c) (bs.set q y) := by
  obtain rfl := ob_nA h
  have h1 := (World.ownsRow.stored h q (.int .u8 y.toNat)).1
  unfold Ob
  rw [← cells_set, List.length_set]
  exact h1
theorem ob_byteA {w : World} {base g n c : Nat} {bs : List UInt8} (h : Ob w base (.slice (some ⟨g, 0, none⟩) n c) bs) (q : Nat) (hq : q < bs.length) : w.cell? ⟨g, q, none⟩ = some (.int .u8 (bs[q]).toNat) := by
  obtain rfl := ob_nA h
  exact (World.ownsRow.cellAt h q (by omega)).trans (cells_getElem bs q hq)
theorem ob_freeA {w : World} {base g n c : Nat} {bs : List UInt8} (h : Ob w base (.slice (some ⟨g, 0, none⟩) n c) bs) (q : Nat) : w.frozen? ⟨g, q, none⟩ = false := by
  obtain rfl := ob_nA h
  exact World.ownsRow.frozenAt h q
theorem ob_hasA {w : World} {base g n c : Nat} {bs : List UInt8} (h : Ob w base (.slice (some ⟨g, 0, none⟩) n c) bs) : Has w (some ⟨g, 0, none⟩) bs := by
  obtain rfl := ob_nA h
  exact own_has h

set_option maxRecDepth 100000 in
set_option maxHeartbeats 4000000 in
theorem auditNumbers_any (w : World) : Calls Try.prog 3 #[] w fun e w' => e = .returned (.bool true) ∧ Kept (fun _ => True) w w' := by
  go_enter Try.func3, Try.ntmps3
  go_upto_region 6 with fail
  obtain ⟨wA, hwA⟩ : ∃ x, x = ((((((((w.alloc (.cells #[.int .i64 0, .int .i64 1] 3 (0, 0))).alloc (.cells #[.int .i64 2, .string ⟨#[116]⟩, .slice (some ⟨w.heap.size, 0, none⟩) 2 2, .string ⟨#[]⟩] 24)).alloc (.cells #[.int .i64 0, .int .i64 1] 3 (0, 0))).alloc (.cells #[.int .i64 3, .string ⟨#[116]⟩, .slice (some ⟨w.heap.size + 1 + 1, 0, none⟩) 2 2, .string ⟨#[]⟩] 24)).alloc (.cells #[.int .i64 1] 3)).alloc (.cells #[.int .i64 3, .string ⟨#[116]⟩, .slice (some ⟨w.heap.size + 1 + 1 + 1 + 1, 0, none⟩) 1 1, .string ⟨#[]⟩] 24)).alloc (.cells #[.int .i64 4, .string ⟨#[116]⟩, .slice none 0 0, .string ⟨#[]⟩] 24)).alloc (.cells #[.int .i64 1, .string ⟨#[]⟩, .slice none 0 0, .string ⟨#[120]⟩] 24)) := ⟨_, rfl⟩
  have b0 : wA.heap[w.heap.size]? = some (.cells #[.int .i64 0, .int .i64 1] 3 (0, 0)) := by
    rw [hwA]
    have h := alloc_old (.cells #[.int .i64 1, .string ⟨#[]⟩, .slice none 0 0, .string ⟨#[120]⟩] 24) (alloc_old (.cells #[.int .i64 4, .string ⟨#[116]⟩, .slice none 0 0, .string ⟨#[]⟩] 24) (alloc_old (.cells #[.int .i64 3, .string ⟨#[116]⟩, .slice (some ⟨w.heap.size + 1 + 1 + 1 + 1, 0, none⟩) 1 1, .string ⟨#[]⟩] 24) (alloc_old (.cells #[.int .i64 1] 3) (alloc_old (.cells #[.int .i64 3, .string ⟨#[116]⟩, .slice (some ⟨w.heap.size + 1 + 1, 0, none⟩) 2 2, .string ⟨#[]⟩] 24) (alloc_old (.cells #[.int .i64 0, .int .i64 1] 3 (0, 0)) (alloc_old (.cells #[.int .i64 2, .string ⟨#[116]⟩, .slice (some ⟨w.heap.size, 0, none⟩) 2 2, .string ⟨#[]⟩] 24) (heap_alloc_new w (.cells #[.int .i64 0, .int .i64 1] 3 (0, 0)))))))))
    try simp only [heap_size_alloc] at h
    exact h
  have b1 : wA.heap[w.heap.size + 1]? = some (.cells #[.int .i64 2, .string ⟨#[116]⟩, .slice (some ⟨w.heap.size, 0, none⟩) 2 2, .string ⟨#[]⟩] 24) := by
    rw [hwA]
    have h := alloc_old (.cells #[.int .i64 1, .string ⟨#[]⟩, .slice none 0 0, .string ⟨#[120]⟩] 24) (alloc_old (.cells #[.int .i64 4, .string ⟨#[116]⟩, .slice none 0 0, .string ⟨#[]⟩] 24) (alloc_old (.cells #[.int .i64 3, .string ⟨#[116]⟩, .slice (some ⟨w.heap.size + 1 + 1 + 1 + 1, 0, none⟩) 1 1, .string ⟨#[]⟩] 24) (alloc_old (.cells #[.int .i64 1] 3) (alloc_old (.cells #[.int .i64 3, .string ⟨#[116]⟩, .slice (some ⟨w.heap.size + 1 + 1, 0, none⟩) 2 2, .string ⟨#[]⟩] 24) (alloc_old (.cells #[.int .i64 0, .int .i64 1] 3 (0, 0)) (heap_alloc_new (w.alloc (.cells #[.int .i64 0, .int .i64 1] 3 (0, 0))) (.cells #[.int .i64 2, .string ⟨#[116]⟩, .slice (some ⟨w.heap.size, 0, none⟩) 2 2, .string ⟨#[]⟩] 24)))))))
    try simp only [heap_size_alloc] at h
    exact h
  have b2 : wA.heap[w.heap.size + 1 + 1]? = some (.cells #[.int .i64 0, .int .i64 1] 3 (0, 0)) := by
    rw [hwA]
    have h := alloc_old (.cells #[.int .i64 1, .string ⟨#[]⟩, .slice none 0 0, .string ⟨#[120]⟩] 24) (alloc_old (.cells #[.int .i64 4, .string ⟨#[116]⟩, .slice none 0 0, .string ⟨#[]⟩] 24) (alloc_old (.cells #[.int .i64 3, .string ⟨#[116]⟩, .slice (some ⟨w.heap.size + 1 + 1 + 1 + 1, 0, none⟩) 1 1, .string ⟨#[]⟩] 24) (alloc_old (.cells #[.int .i64 1] 3) (alloc_old (.cells #[.int .i64 3, .string ⟨#[116]⟩, .slice (some ⟨w.heap.size + 1 + 1, 0, none⟩) 2 2, .string ⟨#[]⟩] 24) (heap_alloc_new ((w.alloc (.cells #[.int .i64 0, .int .i64 1] 3 (0, 0))).alloc (.cells #[.int .i64 2, .string ⟨#[116]⟩, .slice (some ⟨w.heap.size, 0, none⟩) 2 2, .string ⟨#[]⟩] 24)) (.cells #[.int .i64 0, .int .i64 1] 3 (0, 0)))))))
    try simp only [heap_size_alloc] at h
    exact h
  have b3 : wA.heap[w.heap.size + 1 + 1 + 1]? = some (.cells #[.int .i64 3, .string ⟨#[116]⟩, .slice (some ⟨w.heap.size + 1 + 1, 0, none⟩) 2 2, .string ⟨#[]⟩] 24) := by
    rw [hwA]
    have h := alloc_old (.cells #[.int .i64 1, .string ⟨#[]⟩, .slice none 0 0, .string ⟨#[120]⟩] 24) (alloc_old (.cells #[.int .i64 4, .string ⟨#[116]⟩, .slice none 0 0, .string ⟨#[]⟩] 24) (alloc_old (.cells #[.int .i64 3, .string ⟨#[116]⟩, .slice (some ⟨w.heap.size + 1 + 1 + 1 + 1, 0, none⟩) 1 1, .string ⟨#[]⟩] 24) (alloc_old (.cells #[.int .i64 1] 3) (heap_alloc_new (((w.alloc (.cells #[.int .i64 0, .int .i64 1] 3 (0, 0))).alloc (.cells #[.int .i64 2, .string ⟨#[116]⟩, .slice (some ⟨w.heap.size, 0, none⟩) 2 2, .string ⟨#[]⟩] 24)).alloc (.cells #[.int .i64 0, .int .i64 1] 3 (0, 0))) (.cells #[.int .i64 3, .string ⟨#[116]⟩, .slice (some ⟨w.heap.size + 1 + 1, 0, none⟩) 2 2, .string ⟨#[]⟩] 24)))))
    try simp only [heap_size_alloc] at h
    exact h
  have b4 : wA.heap[w.heap.size + 1 + 1 + 1 + 1]? = some (.cells #[.int .i64 1] 3) := by
    rw [hwA]
    have h := alloc_old (.cells #[.int .i64 1, .string ⟨#[]⟩, .slice none 0 0, .string ⟨#[120]⟩] 24) (alloc_old (.cells #[.int .i64 4, .string ⟨#[116]⟩, .slice none 0 0, .string ⟨#[]⟩] 24) (alloc_old (.cells #[.int .i64 3, .string ⟨#[116]⟩, .slice (some ⟨w.heap.size + 1 + 1 + 1 + 1, 0, none⟩) 1 1, .string ⟨#[]⟩] 24) (heap_alloc_new ((((w.alloc (.cells #[.int .i64 0, .int .i64 1] 3 (0, 0))).alloc (.cells #[.int .i64 2, .string ⟨#[116]⟩, .slice (some ⟨w.heap.size, 0, none⟩) 2 2, .string ⟨#[]⟩] 24)).alloc (.cells #[.int .i64 0, .int .i64 1] 3 (0, 0))).alloc (.cells #[.int .i64 3, .string ⟨#[116]⟩, .slice (some ⟨w.heap.size + 1 + 1, 0, none⟩) 2 2, .string ⟨#[]⟩] 24)) (.cells #[.int .i64 1] 3))))
    try simp only [heap_size_alloc] at h
    exact h
  have b5 : wA.heap[w.heap.size + 1 + 1 + 1 + 1 + 1]? = some (.cells #[.int .i64 3, .string ⟨#[116]⟩, .slice (some ⟨w.heap.size + 1 + 1 + 1 + 1, 0, none⟩) 1 1, .string ⟨#[]⟩] 24) := by
    rw [hwA]
    have h := alloc_old (.cells #[.int .i64 1, .string ⟨#[]⟩, .slice none 0 0, .string ⟨#[120]⟩] 24) (alloc_old (.cells #[.int .i64 4, .string ⟨#[116]⟩, .slice none 0 0, .string ⟨#[]⟩] 24) (heap_alloc_new (((((w.alloc (.cells #[.int .i64 0, .int .i64 1] 3 (0, 0))).alloc (.cells #[.int .i64 2, .string ⟨#[116]⟩, .slice (some ⟨w.heap.size, 0, none⟩) 2 2, .string ⟨#[]⟩] 24)).alloc (.cells #[.int .i64 0, .int .i64 1] 3 (0, 0))).alloc (.cells #[.int .i64 3, .string ⟨#[116]⟩, .slice (some ⟨w.heap.size + 1 + 1, 0, none⟩) 2 2, .string ⟨#[]⟩] 24)).alloc (.cells #[.int .i64 1] 3)) (.cells #[.int .i64 3, .string ⟨#[116]⟩, .slice (some ⟨w.heap.size + 1 + 1 + 1 + 1, 0, none⟩) 1 1, .string ⟨#[]⟩] 24)))
    try simp only [heap_size_alloc] at h
    exact h
  have b6 : wA.heap[w.heap.size + 1 + 1 + 1 + 1 + 1 + 1]? = some (.cells #[.int .i64 4, .string ⟨#[116]⟩, .slice none 0 0, .string ⟨#[]⟩] 24) := by
    rw [hwA]
    have h := alloc_old (.cells #[.int .i64 1, .string ⟨#[]⟩, .slice none 0 0, .string ⟨#[120]⟩] 24) (heap_alloc_new ((((((w.alloc (.cells #[.int .i64 0, .int .i64 1] 3 (0, 0))).alloc (.cells #[.int .i64 2, .string ⟨#[116]⟩, .slice (some ⟨w.heap.size, 0, none⟩) 2 2, .string ⟨#[]⟩] 24)).alloc (.cells #[.int .i64 0, .int .i64 1] 3 (0, 0))).alloc (.cells #[.int .i64 3, .string ⟨#[116]⟩, .slice (some ⟨w.heap.size + 1 + 1, 0, none⟩) 2 2, .string ⟨#[]⟩] 24)).alloc (.cells #[.int .i64 1] 3)).alloc (.cells #[.int .i64 3, .string ⟨#[116]⟩, .slice (some ⟨w.heap.size + 1 + 1 + 1 + 1, 0, none⟩) 1 1, .string ⟨#[]⟩] 24)) (.cells #[.int .i64 4, .string ⟨#[116]⟩, .slice none 0 0, .string ⟨#[]⟩] 24))
    try simp only [heap_size_alloc] at h
    exact h
  have b7 : wA.heap[w.heap.size + 1 + 1 + 1 + 1 + 1 + 1 + 1]? = some (.cells #[.int .i64 1, .string ⟨#[]⟩, .slice none 0 0, .string ⟨#[120]⟩] 24) := by
    rw [hwA]
    have h := heap_alloc_new (((((((w.alloc (.cells #[.int .i64 0, .int .i64 1] 3 (0, 0))).alloc (.cells #[.int .i64 2, .string ⟨#[116]⟩, .slice (some ⟨w.heap.size, 0, none⟩) 2 2, .string ⟨#[]⟩] 24)).alloc (.cells #[.int .i64 0, .int .i64 1] 3 (0, 0))).alloc (.cells #[.int .i64 3, .string ⟨#[116]⟩, .slice (some ⟨w.heap.size + 1 + 1, 0, none⟩) 2 2, .string ⟨#[]⟩] 24)).alloc (.cells #[.int .i64 1] 3)).alloc (.cells #[.int .i64 3, .string ⟨#[116]⟩, .slice (some ⟨w.heap.size + 1 + 1 + 1 + 1, 0, none⟩) 1 1, .string ⟨#[]⟩] 24)).alloc (.cells #[.int .i64 4, .string ⟨#[116]⟩, .slice none 0 0, .string ⟨#[]⟩] 24)) (.cells #[.int .i64 1, .string ⟨#[]⟩, .slice none 0 0, .string ⟨#[120]⟩] 24)
    try simp only [heap_size_alloc] at h
    exact h
  have KA : Hid (Kept (fun _ => True) w wA) := by
    rw [hwA]
    exact (((((((((Kept.refl _ _).alloc _).alloc _).alloc _).alloc _).alloc _).alloc _).alloc _).alloc _)
  rw [← hwA]
  clear hwA
  generalize w.heap.size + 1 + 1 + 1 + 1 + 1 + 1 + 1 = X5 at *
  generalize w.heap.size + 1 + 1 + 1 + 1 + 1 + 1 = X4 at *
  generalize w.heap.size + 1 + 1 + 1 + 1 + 1 = X3 at *
  generalize w.heap.size + 1 + 1 + 1 + 1 = G3 at *
  generalize w.heap.size + 1 + 1 + 1 = X2 at *
  generalize w.heap.size + 1 + 1 = G2 at *
  generalize w.heap.size + 1 = X1 at *
  generalize w.heap.size = G1 at *
  have C1 : ∀ W, Kept (fun _ => True) wA W → Four4 W X1 24 (.int .i64 2) (.string ⟨#[116]⟩) (.slice (some ⟨G1, 0, none⟩) 2 2) (.string ⟨#[]⟩) := fun W k => (show Four4 wA X1 24 (.int .i64 2) (.string ⟨#[116]⟩) (.slice (some ⟨G1, 0, none⟩) 2 2) (.string ⟨#[]⟩) from b1).kept k trivial
  have C2 : ∀ W, Kept (fun _ => True) wA W → Four4 W X2 24 (.int .i64 3) (.string ⟨#[116]⟩) (.slice (some ⟨G2, 0, none⟩) 2 2) (.string ⟨#[]⟩) := fun W k => (show Four4 wA X2 24 (.int .i64 3) (.string ⟨#[116]⟩) (.slice (some ⟨G2, 0, none⟩) 2 2) (.string ⟨#[]⟩) from b3).kept k trivial
  have C3 : ∀ W, Kept (fun _ => True) wA W → Four4 W X3 24 (.int .i64 3) (.string ⟨#[116]⟩) (.slice (some ⟨G3, 0, none⟩) 1 1) (.string ⟨#[]⟩) := fun W k => (show Four4 wA X3 24 (.int .i64 3) (.string ⟨#[116]⟩) (.slice (some ⟨G3, 0, none⟩) 1 1) (.string ⟨#[]⟩) from b5).kept k trivial
  have C4 : ∀ W, Kept (fun _ => True) wA W → Four4 W X4 24 (.int .i64 4) (.string ⟨#[116]⟩) (.slice none 0 0) (.string ⟨#[]⟩) := fun W k => (show Four4 wA X4 24 (.int .i64 4) (.string ⟨#[116]⟩) (.slice none 0 0) (.string ⟨#[]⟩) from b6).kept k trivial
  have C5 : ∀ W, Kept (fun _ => True) wA W → Four4 W X5 24 (.int .i64 1) (.string ⟨#[]⟩) (.slice none 0 0) (.string ⟨#[120]⟩) := fun W k => (show Four4 wA X5 24 (.int .i64 1) (.string ⟨#[]⟩) (.slice none 0 0) (.string ⟨#[120]⟩) from b7).kept k trivial
  have D1 : Hid (∀ W, Kept (fun _ => True) wA W → Gi W (some ⟨G1, 0, none⟩) [0, 1]) := fun W k => (gi_row (gs := [0, 1]) b0).all k
  have D2 : Hid (∀ W, Kept (fun _ => True) wA W → Gi W (some ⟨G2, 0, none⟩) [0, 1]) := fun W k => (gi_row (gs := [0, 1]) b2).all k
  have D3 : Hid (∀ W, Kept (fun _ => True) wA W → Gi W (some ⟨G3, 0, none⟩) [1]) := fun W k => (gi_row (gs := [1]) b4).all k
  have HC : Hid ((∀ W, Kept (fun _ => True) wA W → Four4 W X1 24 (.int .i64 2) (.string ⟨#[116]⟩) (.slice (some ⟨G1, 0, none⟩) 2 2) (.string ⟨#[]⟩)) ∧ (∀ W, Kept (fun _ => True) wA W → Four4 W X2 24 (.int .i64 3) (.string ⟨#[116]⟩) (.slice (some ⟨G2, 0, none⟩) 2 2) (.string ⟨#[]⟩)) ∧ (∀ W, Kept (fun _ => True) wA W → Four4 W X3 24 (.int .i64 3) (.string ⟨#[116]⟩) (.slice (some ⟨G3, 0, none⟩) 1 1) (.string ⟨#[]⟩)) ∧ (∀ W, Kept (fun _ => True) wA W → Four4 W X4 24 (.int .i64 4) (.string ⟨#[116]⟩) (.slice none 0 0) (.string ⟨#[]⟩)) ∧ (∀ W, Kept (fun _ => True) wA W → Four4 W X5 24 (.int .i64 1) (.string ⟨#[]⟩) (.slice none 0 0) (.string ⟨#[120]⟩))) := ⟨C1, C2, C3, C4, C5⟩
  clear C1 C2 C3 C4 C5 b0 b1 b2 b3 b4 b5 b6 b7
  have F0 := HC.out
  obtain ⟨f1, f2, f3, f4, f5⟩ := F0
  obtain ⟨x10, x11, x12, x13⟩ := (f1 wA (Kept.refl _ _)).cell
  obtain ⟨x20, x21, x22, x23⟩ := (f2 wA (Kept.refl _ _)).cell
  obtain ⟨x30, x31, x32, x33⟩ := (f3 wA (Kept.refl _ _)).cell
  obtain ⟨x40, x41, x42, x43⟩ := (f4 wA (Kept.refl _ _)).cell
  obtain ⟨x50, x51, x52, x53⟩ := (f5 wA (Kept.refl _ _)).cell
  clear f1 f2 f3 f4 f5
  have K0 : Hid (Kept (fun _ => True) wA wA) := Kept.refl _ _
  go_upto_region 7 with (first
    | (go_at_call 9; have hR : (wA.alloc (.cells #[.int .i64 2, .string ⟨#[116]⟩, .slice (some ⟨G1, 0, none⟩) 2 2, .string ⟨#[]⟩, .int .i64 3, .string ⟨#[116]⟩, .slice (some ⟨G2, 0, none⟩) 2 2, .string ⟨#[]⟩] 24 (0, 0))).heap[wA.heap.size]? = some (.cells #[.int .i64 2, .string ⟨#[116]⟩, .slice (some ⟨G1, 0, none⟩) 2 2, .string ⟨#[]⟩, .int .i64 3, .string ⟨#[116]⟩, .slice (some ⟨G2, 0, none⟩) 2 2, .string ⟨#[]⟩] 24 (0, 0)) := (by have h := heap_alloc_new wA (.cells #[.int .i64 2, .string ⟨#[116]⟩, .slice (some ⟨G1, 0, none⟩) 2 2, .string ⟨#[]⟩, .int .i64 3, .string ⟨#[116]⟩, .slice (some ⟨G2, 0, none⟩) 2 2, .string ⟨#[]⟩] 24 (0, 0)); (try simp only [heap_size_alloc] at h); exact h); have KW : Kept (fun _ => True) wA (wA.alloc (.cells #[.int .i64 2, .string ⟨#[116]⟩, .slice (some ⟨G1, 0, none⟩) 2 2, .string ⟨#[]⟩, .int .i64 3, .string ⟨#[116]⟩, .slice (some ⟨G2, 0, none⟩) 2 2, .string ⟨#[]⟩] 24 (0, 0))) := (K0.out).alloc _; have cc := clq_any (n := 2) (w := (wA.alloc (.cells #[.int .i64 2, .string ⟨#[116]⟩, .slice (some ⟨G1, 0, none⟩) 2 2, .string ⟨#[]⟩, .int .i64 3, .string ⟨#[116]⟩, .slice (some ⟨G2, 0, none⟩) 2 2, .string ⟨#[]⟩] 24 (0, 0)))) (rs := [((⟨2, [116], [0, 1], []⟩ : Ui), ((some ⟨G1, 0, none⟩ : Option Addr), 2)), ((⟨3, [116], [0, 1], []⟩ : Ui), ((some ⟨G2, 0, none⟩ : Option Addr), 2))]) 0 (by unfold Fits; decide) hR (List.forall_mem_cons.2 ⟨D1.out _ KW, List.forall_mem_cons.2 ⟨D2.out _ KW, fun _ h => by cases h⟩⟩) (List.forall_mem_cons.2 ⟨⟨by simp, by simp, by simp⟩, List.forall_mem_cons.2 ⟨⟨by simp, by simp, by simp⟩, fun _ h => by cases h⟩⟩) rfl (by decide); (with_reducible refine Calls.mono cc ?_); rintro e v0 ⟨a0, c0, bs0, rfl, hq, ho, hb, k⟩; have Q0 : Hid (Clq v0 ⟨0, bs0, a0, c0⟩) := hq; have K1 : Hid (Kept (fun _ => True) wA v0) := KW.trans k; have N0 : Hid (Kept (fun _ => True) wA v0) := ((Kept.refl _ _).alloc _).trans k; clear x10 x11 x12 x13 x20 x21 x22 x23 x30 x31 x32 x33 x40 x41 x42 x43 x50 x51 x52 x53; obtain ⟨f1, f2, f3, f4, f5⟩ := HC.out; obtain ⟨x10, x11, x12, x13⟩ := (f1 v0 K1.out).cell; obtain ⟨x20, x21, x22, x23⟩ := (f2 v0 K1.out).cell; obtain ⟨x30, x31, x32, x33⟩ := (f3 v0 K1.out).cell; obtain ⟨x40, x41, x42, x43⟩ := (f4 v0 K1.out).cell; obtain ⟨x50, x51, x52, x53⟩ := (f5 v0 K1.out).cell; clear f1 f2 f3 f4 f5 cc hR KW hq k; have HB0 : Hid (0 < bs0.length) := hb; have O0 : Hid (Ob v0 wA.heap.size (.slice a0 bs0.length c0) bs0) := World.ownsRow.mono ho ((Kept.refl (fun _ => True) wA).alloc _).size))
  obtain ⟨wB, hwB⟩ : ∃ x, x = v0.alloc (.cells #[.int .i64 0, .slice a0 bs0.length c0] 27 (0, 0)) := ⟨_, rfl⟩
  have KvB : Hid (Kept (fun _ => True) v0 wB) := by rw [hwB]; exact (Kept.refl _ _).alloc _
  have F6 : Bk wB v0.heap.size 27 [.int .i64 0, .slice a0 bs0.length c0] := by rw [hwB]; exact heap_alloc_new v0 _
  have hOl : ∀ B, (Value.slice a0 bs0.length c0).ownBlock = some B → B < v0.heap.size := fun B e => (World.ownsRow.lt O0.out B e).2
  rw [← hwB]
  clear hwB
  obtain ⟨Y6, hY6⟩ : ∃ x, x = v0.heap.size := ⟨_, rfl⟩
  rw [← hY6] at F6 hOl ⊢
  have OB := O0.out.all KvB.out
  have hOg := fun B e => (World.ownsRow.lt O0.out B e).1
  have hB : ∃ B, a0 = some ⟨B, 0, none⟩ := by
    rcases OB.2 with ⟨hv, h0⟩ | ⟨g, cap, cur, hv, _⟩
    · injection hv with e1 e2 e3
      have := HB0.out
      omega
    · injection hv with e1 e2 e3
      exact ⟨g, e1⟩
  obtain ⟨B, rfl⟩ := hB
  obtain ⟨m, hm⟩ : ∃ m, bs0.length = m + 1 := ⟨bs0.length - 1, by have := HB0.out; omega⟩
  have by0 := ob_byteA OB m (by omega)
  have fr0 := ob_freeA OB m
  obtain ⟨y, hy⟩ := xorcA bs0[m] 1 (by decide)
  obtain ⟨wS, hwS⟩ : ∃ x, x = wB.setCell ⟨B, m, none⟩ (.int .u8 (y.toNat : Nat)) := ⟨_, rfl⟩
  have OS : Ob wS wA.heap.size (.slice (some ⟨B, 0, none⟩) bs0.length c0) (bs0.set m y) := by rw [hwS]; exact ob_setA OB m y
  have hSz : wS.heap.size = wB.heap.size := by rw [hwS]; simp
  have hBA : wA.heap.size ≤ B := hOg B rfl
  have KS : Hid (Kept (fun _ => True) wA wS) := by rw [hwS]; exact kept_fresh (K1.out.trans KvB.out) hBA _
  obtain ⟨bT, hbT⟩ : ∃ b, b = bs0.set m y := ⟨_, rfl⟩
  rw [← hbT] at OS
  have HLT : Hid (bT.length = bs0.length) := by rw [hbT]; exact List.length_set
  have QT : Hid (Clq wS ⟨0, bT, some ⟨B, 0, none⟩, c0⟩) := ⟨ob_hasA OS, Q0.out.fit, Q0.out.cap, by rw [HLT.out]; exact Q0.out.le, by rw [HLT.out]; exact Q0.out.few⟩
  have hBY : B < Y6 := hOl B rfl
  clear x10 x11 x12 x13 x20 x21 x22 x23 x30 x31 x32 x33 x40 x41 x42 x43 x50 x51 x52 x53
  obtain ⟨f1, f2, f3, f4, f5⟩ := HC.out
  obtain ⟨x10, x11, x12, x13⟩ := (f1 wS KS.out).cell
  obtain ⟨x20, x21, x22, x23⟩ := (f2 wS KS.out).cell
  obtain ⟨x30, x31, x32, x33⟩ := (f3 wS KS.out).cell
  obtain ⟨x40, x41, x42, x43⟩ := (f4 wS KS.out).cell
  obtain ⟨x50, x51, x52, x53⟩ := (f5 wS KS.out).cell
  rw [hwS] at x10 x11 x12 x13 x20 x21 x22 x23 x30 x31 x32 x33 x40 x41 x42 x43 x50 x51 x52 x53
  clear f1 f2 f3 f4 f5
  obtain ⟨y0, y1⟩ := F6.two
  have F6S : Bk wS Y6 27 [.int .i64 0, .slice (some ⟨B, 0, none⟩) bs0.length c0] := by
    rw [hwS]
    exact Bk.kept F6 ((Kept.refl (fun z => z ≠ B) wB).setCell (ad := ⟨B, m, none⟩) (by simp) _) (by omega)
  obtain ⟨z0, z1⟩ := F6S.two
  rw [hwS] at z0 z1
  have e1 : (bs0.length : Int) - 1 = (m : Int) := by omega
  have m0 : (0 : Int) ≤ (m : Int) := by omega
  have m1 : (m : Int) < (bs0.length : Int) := by omega
  have m2 : bs0.length ≤ 900 := Q0.out.few
  clear hOl hOg hbT HB0 hY6 hb
  go_wp2_with fail
  rw [← hwS]
  have FY : Hid (∀ w, Kept (fun _ => True) wS w → w.heap[Y6]? = some (.cells (ccell ⟨0, bT, some ⟨B, 0, none⟩, c0⟩).toArray 27 (0, 0))) := fun w k => by
    show _ = some (Obj.cells #[.int .i64 0, .slice (some ⟨B, 0, none⟩) bT.length c0] 27 (0, 0))
    rw [HLT.out]
    exact Bk.kept F6S k trivial
  have LR1 : ∀ w, Kept (fun _ => True) wS w → w.heap[X1]? = some (.cells (rcell ((⟨2, [116], [0, 1], []⟩ : Ui), ((some ⟨G1, 0, none⟩ : Option Addr), 2))).toArray 24 (0, 0)) := fun w k => HC.out.1 w (KS.out.trans k)
  have LG1 : ∀ w, Kept (fun _ => True) wS w → Gi w ((⟨2, [116], [0, 1], []⟩ : Ui), ((some ⟨G1, 0, none⟩ : Option Addr), 2)).2.1 ((⟨2, [116], [0, 1], []⟩ : Ui), ((some ⟨G1, 0, none⟩ : Option Addr), 2)).1.gs := fun w k => D1.out w (KS.out.trans k)
  have LR2 : ∀ w, Kept (fun _ => True) wS w → w.heap[X2]? = some (.cells (rcell ((⟨3, [116], [0, 1], []⟩ : Ui), ((some ⟨G2, 0, none⟩ : Option Addr), 2))).toArray 24 (0, 0)) := fun w k => HC.out.2.1 w (KS.out.trans k)
  have LG2 : ∀ w, Kept (fun _ => True) wS w → Gi w ((⟨3, [116], [0, 1], []⟩ : Ui), ((some ⟨G2, 0, none⟩ : Option Addr), 2)).2.1 ((⟨3, [116], [0, 1], []⟩ : Ui), ((some ⟨G2, 0, none⟩ : Option Addr), 2)).1.gs := fun w k => D2.out w (KS.out.trans k)
  have LR3 : ∀ w, Kept (fun _ => True) wS w → w.heap[X3]? = some (.cells (rcell ((⟨3, [116], [1], []⟩ : Ui), ((some ⟨G3, 0, none⟩ : Option Addr), 1))).toArray 24 (0, 0)) := fun w k => HC.out.2.2.1 w (KS.out.trans k)
  have LG3 : ∀ w, Kept (fun _ => True) wS w → Gi w ((⟨3, [116], [1], []⟩ : Ui), ((some ⟨G3, 0, none⟩ : Option Addr), 1)).2.1 ((⟨3, [116], [1], []⟩ : Ui), ((some ⟨G3, 0, none⟩ : Option Addr), 1)).1.gs := fun w k => D3.out w (KS.out.trans k)
  have LR4 : ∀ w, Kept (fun _ => True) wS w → w.heap[X4]? = some (.cells (rcell ((⟨4, [116], [], []⟩ : Ui), ((none : Option Addr), 0))).toArray 24 (0, 0)) := fun w k => HC.out.2.2.2.1 w (KS.out.trans k)
  have LG4 : ∀ w, Kept (fun _ => True) wS w → Gi w ((⟨4, [116], [], []⟩ : Ui), ((none : Option Addr), 0)).2.1 ((⟨4, [116], [], []⟩ : Ui), ((none : Option Addr), 0)).1.gs := fun w k => gi_no _ _
  have LR5 : ∀ w, Kept (fun _ => True) wS w → w.heap[X5]? = some (.cells (rcell ((⟨1, [], [], [120]⟩ : Ui), ((none : Option Addr), 0))).toArray 24 (0, 0)) := fun w k => HC.out.2.2.2.2 w (KS.out.trans k)
  have LG5 : ∀ w, Kept (fun _ => True) wS w → Gi w ((⟨1, [], [], [120]⟩ : Ui), ((none : Option Addr), 0)).2.1 ((⟨1, [], [], [120]⟩ : Ui), ((none : Option Addr), 0)).1.gs := fun w k => gi_no _ _
  refine wp_region_vals (by kernel_rfl) 35 V8 _ wS (Nat.le_of_ble_eq_true (by kernel_rfl)) V8.mono (acB_spec (by kernel_rfl)) ?step ?fin
  case step =>
    refine ⟨⟨rfl, fun a w hk hs hd => ?_⟩, ?_⟩
    · exact s_loadC (c := ⟨0, bT, some ⟨B, 0, none⟩, c0⟩) (by have := hs 6 (.inl (by decide)); simp [Act.eval, this]) (FY.out w hk) (QT.out.all hk) (fun v w' k h => ⟨v, rfl, k, h⟩)
    refine ⟨⟨rfl, fun a w hk hs hd => ?_⟩, ?_⟩
    · exact s_clms1 (dep hd ⟨0, .data⟩ (by simp) rfl rfl) (fun v w' k h => ⟨v, rfl, k, h⟩)
    refine ⟨⟨rfl, fun a w hk hs hd => ?_⟩, ?_⟩
    · exact s_loadR (r := ((⟨1, [], [], [120]⟩ : Ui), ((none : Option Addr), 0))) (by have := hs 5 (.inl (by decide)); simp [Act.eval, this]) (LR5 w hk) (LG5 w hk) (by unfold Sml; simp) (fun v w' k h => ⟨v, rfl, k, h⟩)
    refine ⟨⟨rfl, fun a w hk hs hd => ?_⟩, ?_⟩
    · exact s_build (r := ((⟨5, [116], [], []⟩ : Ui), ((none : Option Addr), 0))) (vs := [(0, .int .i64 5), (1, .string ⟨#[116]⟩)]) (by simp [Act.eval]) (by kernel_rfl) (gi_no _ _) (by unfold Sml; simp) (fun v w' k h => ⟨v, rfl, k, h⟩)
    refine ⟨⟨rfl, fun a w hk hs hd => ?_⟩, ?_⟩
    · exact s_recs2 (dep hd ⟨2, .data⟩ (by simp) rfl rfl) (dep hd ⟨3, .data⟩ (by simp) rfl rfl) (fun v w' k h => ⟨v, rfl, k, h⟩)
    refine ⟨⟨rfl, fun a w hk hs hd => ?_⟩, ?_⟩
    · exact s_call (n := 2) (by unfold Fits; decide) (by decide) (dep hd ⟨4, .data⟩ (by simp) rfl rfl) (fun v w' k h => ⟨v, rfl, k, h⟩)
    refine ⟨⟨rfl, fun a w hk hs hd => ?_⟩, ?_⟩
    · exact s_clms1 (dep hd ⟨5, .data⟩ (by simp) rfl rfl) (fun v w' k h => ⟨v, rfl, k, h⟩)
    refine ⟨⟨rfl, fun a w hk hs hd => ?_⟩, ?_⟩
    · exact s_build (r := ((⟨1, [116], [], []⟩ : Ui), ((none : Option Addr), 0))) (vs := [(0, .int .i64 1), (1, .string ⟨#[116]⟩)]) (by simp [Act.eval]) (by kernel_rfl) (gi_no _ _) (by unfold Sml; simp) (fun v w' k h => ⟨v, rfl, k, h⟩)
    refine ⟨⟨rfl, fun a w hk hs hd => ?_⟩, ?_⟩
    · exact s_recs1 (dep hd ⟨7, .data⟩ (by simp) rfl rfl) (fun v w' k h => ⟨v, rfl, k, h⟩)
    refine ⟨⟨rfl, fun a w hk hs hd => ?_⟩, ?_⟩
    · exact s_call (n := 1) (by unfold Fits; decide) (by decide) (dep hd ⟨8, .data⟩ (by simp) rfl rfl) (fun v w' k h => ⟨v, rfl, k, h⟩)
    refine ⟨⟨rfl, fun a w hk hs hd => ?_⟩, ?_⟩
    · exact s_clms1 (dep hd ⟨9, .data⟩ (by simp) rfl rfl) (fun v w' k h => ⟨v, rfl, k, h⟩)
    refine ⟨⟨rfl, fun a w hk hs hd => ?_⟩, ?_⟩
    · exact s_build (r := ((⟨2, [], [], []⟩ : Ui), ((none : Option Addr), 0))) (vs := [(0, .int .i64 2)]) (by simp [Act.eval]) (by kernel_rfl) (gi_no _ _) (by unfold Sml; simp) (fun v w' k h => ⟨v, rfl, k, h⟩)
    refine ⟨⟨rfl, fun a w hk hs hd => ?_⟩, ?_⟩
    · exact s_recs1 (dep hd ⟨11, .data⟩ (by simp) rfl rfl) (fun v w' k h => ⟨v, rfl, k, h⟩)
    refine ⟨⟨rfl, fun a w hk hs hd => ?_⟩, ?_⟩
    · exact s_call (n := 1) (by unfold Fits; decide) (by decide) (dep hd ⟨12, .data⟩ (by simp) rfl rfl) (fun v w' k h => ⟨v, rfl, k, h⟩)
    refine ⟨⟨rfl, fun a w hk hs hd => ?_⟩, ?_⟩
    · exact s_clms1 (dep hd ⟨13, .data⟩ (by simp) rfl rfl) (fun v w' k h => ⟨v, rfl, k, h⟩)
    refine ⟨⟨rfl, fun a w hk hs hd => ?_⟩, ?_⟩
    · exact s_ints (fun v w' k h => ⟨v, rfl, k, h⟩)
    refine ⟨⟨rfl, fun a w hk hs hd => ?_⟩, ?_⟩
    · exact (by obtain ⟨G, e, hg⟩ := (show IntsV w _ from dep hd ⟨15, .data⟩ (by simp) rfl rfl); exact s_build (r := ((⟨2, [116], [1, 0], []⟩ : Ui), ((some ⟨G, 0, none⟩ : Option Addr), 2))) (vs := [(0, .int .i64 2), (1, .string ⟨#[116]⟩), (2, .slice (some ⟨G, 0, none⟩) 2 2)]) (by simpa [Act.eval] using e) (by kernel_rfl) hg (by unfold Sml; simp) (fun v w' k h => ⟨v, rfl, k, h⟩))
    refine ⟨⟨rfl, fun a w hk hs hd => ?_⟩, ?_⟩
    · exact s_recs1 (dep hd ⟨16, .data⟩ (by simp) rfl rfl) (fun v w' k h => ⟨v, rfl, k, h⟩)
    refine ⟨⟨rfl, fun a w hk hs hd => ?_⟩, ?_⟩
    · exact s_call (n := 1) (by unfold Fits; decide) (by decide) (dep hd ⟨17, .data⟩ (by simp) rfl rfl) (fun v w' k h => ⟨v, rfl, k, h⟩)
    refine ⟨⟨rfl, fun a w hk hs hd => ?_⟩, ?_⟩
    · exact s_clms1 (dep hd ⟨18, .data⟩ (by simp) rfl rfl) (fun v w' k h => ⟨v, rfl, k, h⟩)
    refine ⟨⟨rfl, fun a w hk hs hd => ?_⟩, ?_⟩
    · exact s_loadR (r := ((⟨1, [], [], [120]⟩ : Ui), ((none : Option Addr), 0))) (by have := hs 5 (.inl (by decide)); simp [Act.eval, this]) (LR5 w hk) (LG5 w hk) (by unfold Sml; simp) (fun v w' k h => ⟨v, rfl, k, h⟩)
    refine ⟨⟨rfl, fun a w hk hs hd => ?_⟩, ?_⟩
    · exact s_loadR (r := ((⟨2, [116], [0, 1], []⟩ : Ui), ((some ⟨G1, 0, none⟩ : Option Addr), 2))) (by have := hs 1 (.inl (by decide)); simp [Act.eval, this]) (LR1 w hk) (LG1 w hk) (by unfold Sml; simp) (fun v w' k h => ⟨v, rfl, k, h⟩)
    refine ⟨⟨rfl, fun a w hk hs hd => ?_⟩, ?_⟩
    · exact s_recs2 (dep hd ⟨20, .data⟩ (by simp) rfl rfl) (dep hd ⟨21, .data⟩ (by simp) rfl rfl) (fun v w' k h => ⟨v, rfl, k, h⟩)
    refine ⟨⟨rfl, fun a w hk hs hd => ?_⟩, ?_⟩
    · exact s_call (n := 2) (by unfold Fits; decide) (by decide) (dep hd ⟨22, .data⟩ (by simp) rfl rfl) (fun v w' k h => ⟨v, rfl, k, h⟩)
    refine ⟨⟨rfl, fun a w hk hs hd => ?_⟩, ?_⟩
    · exact s_loadR (r := ((⟨1, [], [], [120]⟩ : Ui), ((none : Option Addr), 0))) (by have := hs 5 (.inl (by decide)); simp [Act.eval, this]) (LR5 w hk) (LG5 w hk) (by unfold Sml; simp) (fun v w' k h => ⟨v, rfl, k, h⟩)
    refine ⟨⟨rfl, fun a w hk hs hd => ?_⟩, ?_⟩
    · exact s_loadR (r := ((⟨1, [], [], [120]⟩ : Ui), ((none : Option Addr), 0))) (by have := hs 5 (.inl (by decide)); simp [Act.eval, this]) (LR5 w hk) (LG5 w hk) (by unfold Sml; simp) (fun v w' k h => ⟨v, rfl, k, h⟩)
    refine ⟨⟨rfl, fun a w hk hs hd => ?_⟩, ?_⟩
    · exact s_loadR (r := ((⟨2, [116], [0, 1], []⟩ : Ui), ((some ⟨G1, 0, none⟩ : Option Addr), 2))) (by have := hs 1 (.inl (by decide)); simp [Act.eval, this]) (LR1 w hk) (LG1 w hk) (by unfold Sml; simp) (fun v w' k h => ⟨v, rfl, k, h⟩)
    refine ⟨⟨rfl, fun a w hk hs hd => ?_⟩, ?_⟩
    · exact s_recs3 (dep hd ⟨24, .data⟩ (by simp) rfl rfl) (dep hd ⟨25, .data⟩ (by simp) rfl rfl) (dep hd ⟨26, .data⟩ (by simp) rfl rfl) (fun v w' k h => ⟨v, rfl, k, h⟩)
    refine ⟨⟨rfl, fun a w hk hs hd => ?_⟩, ?_⟩
    · exact s_call (n := 3) (by unfold Fits; decide) (by decide) (dep hd ⟨27, .data⟩ (by simp) rfl rfl) (fun v w' k h => ⟨v, rfl, k, h⟩)
    refine ⟨⟨rfl, fun a w hk hs hd => ?_⟩, ?_⟩
    · exact s_clms2 (dep hd ⟨23, .data⟩ (by simp) rfl rfl) (dep hd ⟨28, .data⟩ (by simp) rfl rfl) (fun v w' k h => ⟨v, rfl, k, h⟩)
    refine ⟨⟨rfl, fun a w hk hs hd => ?_⟩, ?_⟩
    · exact s_loadR (r := ((⟨1, [], [], [120]⟩ : Ui), ((none : Option Addr), 0))) (by have := hs 5 (.inl (by decide)); simp [Act.eval, this]) (LR5 w hk) (LG5 w hk) (by unfold Sml; simp) (fun v w' k h => ⟨v, rfl, k, h⟩)
    refine ⟨⟨rfl, fun a w hk hs hd => ?_⟩, ?_⟩
    · exact s_loadR (r := ((⟨2, [116], [0, 1], []⟩ : Ui), ((some ⟨G1, 0, none⟩ : Option Addr), 2))) (by have := hs 1 (.inl (by decide)); simp [Act.eval, this]) (LR1 w hk) (LG1 w hk) (by unfold Sml; simp) (fun v w' k h => ⟨v, rfl, k, h⟩)
    refine ⟨⟨rfl, fun a w hk hs hd => ?_⟩, ?_⟩
    · exact s_recs2 (dep hd ⟨30, .data⟩ (by simp) rfl rfl) (dep hd ⟨31, .data⟩ (by simp) rfl rfl) (fun v w' k h => ⟨v, rfl, k, h⟩)
    refine ⟨⟨rfl, fun a w hk hs hd => ?_⟩, ?_⟩
    · exact s_call (n := 2) (by unfold Fits; decide) (by decide) (dep hd ⟨32, .data⟩ (by simp) rfl rfl) (fun v w' k h => ⟨v, rfl, k, h⟩)
    refine ⟨⟨rfl, fun a w hk hs hd => ?_⟩, ?_⟩
    · exact s_loadR (r := ((⟨1, [], [], [120]⟩ : Ui), ((none : Option Addr), 0))) (by have := hs 5 (.inl (by decide)); simp [Act.eval, this]) (LR5 w hk) (LG5 w hk) (by unfold Sml; simp) (fun v w' k h => ⟨v, rfl, k, h⟩)
    refine ⟨⟨rfl, fun a w hk hs hd => ?_⟩, ?_⟩
    · exact s_loadR (r := ((⟨2, [116], [0, 1], []⟩ : Ui), ((some ⟨G1, 0, none⟩ : Option Addr), 2))) (by have := hs 1 (.inl (by decide)); simp [Act.eval, this]) (LR1 w hk) (LG1 w hk) (by unfold Sml; simp) (fun v w' k h => ⟨v, rfl, k, h⟩)
    refine ⟨⟨rfl, fun a w hk hs hd => ?_⟩, ?_⟩
    · exact s_loadR (r := ((⟨3, [116], [0, 1], []⟩ : Ui), ((some ⟨G2, 0, none⟩ : Option Addr), 2))) (by have := hs 2 (.inl (by decide)); simp [Act.eval, this]) (LR2 w hk) (LG2 w hk) (by unfold Sml; simp) (fun v w' k h => ⟨v, rfl, k, h⟩)
    refine ⟨⟨rfl, fun a w hk hs hd => ?_⟩, ?_⟩
    · exact s_recs3 (dep hd ⟨34, .data⟩ (by simp) rfl rfl) (dep hd ⟨35, .data⟩ (by simp) rfl rfl) (dep hd ⟨36, .data⟩ (by simp) rfl rfl) (fun v w' k h => ⟨v, rfl, k, h⟩)
    refine ⟨⟨rfl, fun a w hk hs hd => ?_⟩, ?_⟩
    · exact s_call (n := 3) (by unfold Fits; decide) (by decide) (dep hd ⟨37, .data⟩ (by simp) rfl rfl) (fun v w' k h => ⟨v, rfl, k, h⟩)
    refine ⟨⟨rfl, fun a w hk hs hd => ?_⟩, ?_⟩
    · exact s_loadR (r := ((⟨2, [116], [0, 1], []⟩ : Ui), ((some ⟨G1, 0, none⟩ : Option Addr), 2))) (by have := hs 1 (.inl (by decide)); simp [Act.eval, this]) (LR1 w hk) (LG1 w hk) (by unfold Sml; simp) (fun v w' k h => ⟨v, rfl, k, h⟩)
    refine ⟨⟨rfl, fun a w hk hs hd => ?_⟩, ?_⟩
    · exact s_loadR (r := ((⟨3, [116], [0, 1], []⟩ : Ui), ((some ⟨G2, 0, none⟩ : Option Addr), 2))) (by have := hs 2 (.inl (by decide)); simp [Act.eval, this]) (LR2 w hk) (LG2 w hk) (by unfold Sml; simp) (fun v w' k h => ⟨v, rfl, k, h⟩)
    refine ⟨⟨rfl, fun a w hk hs hd => ?_⟩, ?_⟩
    · exact s_recs2 (dep hd ⟨39, .data⟩ (by simp) rfl rfl) (dep hd ⟨40, .data⟩ (by simp) rfl rfl) (fun v w' k h => ⟨v, rfl, k, h⟩)
    refine ⟨⟨rfl, fun a w hk hs hd => ?_⟩, ?_⟩
    · exact s_call (n := 2) (by unfold Fits; decide) (by decide) (dep hd ⟨41, .data⟩ (by simp) rfl rfl) (fun v w' k h => ⟨v, rfl, k, h⟩)
    refine ⟨⟨rfl, fun a w hk hs hd => ?_⟩, ?_⟩
    · exact s_clms3 (dep hd ⟨33, .data⟩ (by simp) rfl rfl) (dep hd ⟨38, .data⟩ (by simp) rfl rfl) (dep hd ⟨42, .data⟩ (by simp) rfl rfl) (fun v w' k h => ⟨v, rfl, k, h⟩)
    refine ⟨⟨rfl, fun a w hk hs hd => ?_⟩, ?_⟩
    · exact s_loadR (r := ((⟨2, [116], [0, 1], []⟩ : Ui), ((some ⟨G1, 0, none⟩ : Option Addr), 2))) (by have := hs 1 (.inl (by decide)); simp [Act.eval, this]) (LR1 w hk) (LG1 w hk) (by unfold Sml; simp) (fun v w' k h => ⟨v, rfl, k, h⟩)
    refine ⟨⟨rfl, fun a w hk hs hd => ?_⟩, ?_⟩
    · exact s_loadR (r := ((⟨3, [116], [0, 1], []⟩ : Ui), ((some ⟨G2, 0, none⟩ : Option Addr), 2))) (by have := hs 2 (.inl (by decide)); simp [Act.eval, this]) (LR2 w hk) (LG2 w hk) (by unfold Sml; simp) (fun v w' k h => ⟨v, rfl, k, h⟩)
    refine ⟨⟨rfl, fun a w hk hs hd => ?_⟩, ?_⟩
    · exact s_loadR (r := ((⟨3, [116], [0, 1], []⟩ : Ui), ((some ⟨G2, 0, none⟩ : Option Addr), 2))) (by have := hs 2 (.inl (by decide)); simp [Act.eval, this]) (LR2 w hk) (LG2 w hk) (by unfold Sml; simp) (fun v w' k h => ⟨v, rfl, k, h⟩)
    refine ⟨⟨rfl, fun a w hk hs hd => ?_⟩, ?_⟩
    · exact s_recs3 (dep hd ⟨44, .data⟩ (by simp) rfl rfl) (dep hd ⟨45, .data⟩ (by simp) rfl rfl) (dep hd ⟨46, .data⟩ (by simp) rfl rfl) (fun v w' k h => ⟨v, rfl, k, h⟩)
    refine ⟨⟨rfl, fun a w hk hs hd => ?_⟩, ?_⟩
    · exact s_call (n := 3) (by unfold Fits; decide) (by decide) (dep hd ⟨47, .data⟩ (by simp) rfl rfl) (fun v w' k h => ⟨v, rfl, k, h⟩)
    refine ⟨⟨rfl, fun a w hk hs hd => ?_⟩, ?_⟩
    · exact s_clms1 (dep hd ⟨48, .data⟩ (by simp) rfl rfl) (fun v w' k h => ⟨v, rfl, k, h⟩)
    refine ⟨⟨rfl, fun a w hk hs hd => ?_⟩, ?_⟩
    · exact s_loadR (r := ((⟨2, [116], [0, 1], []⟩ : Ui), ((some ⟨G1, 0, none⟩ : Option Addr), 2))) (by have := hs 1 (.inl (by decide)); simp [Act.eval, this]) (LR1 w hk) (LG1 w hk) (by unfold Sml; simp) (fun v w' k h => ⟨v, rfl, k, h⟩)
    refine ⟨⟨rfl, fun a w hk hs hd => ?_⟩, ?_⟩
    · exact s_loadR (r := ((⟨4, [116], [], []⟩ : Ui), ((none : Option Addr), 0))) (by have := hs 4 (.inl (by decide)); simp [Act.eval, this]) (LR4 w hk) (LG4 w hk) (by unfold Sml; simp) (fun v w' k h => ⟨v, rfl, k, h⟩)
    refine ⟨⟨rfl, fun a w hk hs hd => ?_⟩, ?_⟩
    · exact s_loadR (r := ((⟨3, [116], [0, 1], []⟩ : Ui), ((some ⟨G2, 0, none⟩ : Option Addr), 2))) (by have := hs 2 (.inl (by decide)); simp [Act.eval, this]) (LR2 w hk) (LG2 w hk) (by unfold Sml; simp) (fun v w' k h => ⟨v, rfl, k, h⟩)
    refine ⟨⟨rfl, fun a w hk hs hd => ?_⟩, ?_⟩
    · exact s_recs3 (dep hd ⟨50, .data⟩ (by simp) rfl rfl) (dep hd ⟨51, .data⟩ (by simp) rfl rfl) (dep hd ⟨52, .data⟩ (by simp) rfl rfl) (fun v w' k h => ⟨v, rfl, k, h⟩)
    refine ⟨⟨rfl, fun a w hk hs hd => ?_⟩, ?_⟩
    · exact s_call (n := 3) (by unfold Fits; decide) (by decide) (dep hd ⟨53, .data⟩ (by simp) rfl rfl) (fun v w' k h => ⟨v, rfl, k, h⟩)
    refine ⟨⟨rfl, fun a w hk hs hd => ?_⟩, ?_⟩
    · exact s_clms1 (dep hd ⟨54, .data⟩ (by simp) rfl rfl) (fun v w' k h => ⟨v, rfl, k, h⟩)
    refine ⟨⟨rfl, fun a w hk hs hd => ?_⟩, ?_⟩
    · exact s_loadR (r := ((⟨4, [116], [], []⟩ : Ui), ((none : Option Addr), 0))) (by have := hs 4 (.inl (by decide)); simp [Act.eval, this]) (LR4 w hk) (LG4 w hk) (by unfold Sml; simp) (fun v w' k h => ⟨v, rfl, k, h⟩)
    refine ⟨⟨rfl, fun a w hk hs hd => ?_⟩, ?_⟩
    · exact s_loadR (r := ((⟨4, [116], [], []⟩ : Ui), ((none : Option Addr), 0))) (by have := hs 4 (.inl (by decide)); simp [Act.eval, this]) (LR4 w hk) (LG4 w hk) (by unfold Sml; simp) (fun v w' k h => ⟨v, rfl, k, h⟩)
    refine ⟨⟨rfl, fun a w hk hs hd => ?_⟩, ?_⟩
    · exact s_recs2 (dep hd ⟨56, .data⟩ (by simp) rfl rfl) (dep hd ⟨57, .data⟩ (by simp) rfl rfl) (fun v w' k h => ⟨v, rfl, k, h⟩)
    refine ⟨⟨rfl, fun a w hk hs hd => ?_⟩, ?_⟩
    · exact s_call (n := 2) (by unfold Fits; decide) (by decide) (dep hd ⟨58, .data⟩ (by simp) rfl rfl) (fun v w' k h => ⟨v, rfl, k, h⟩)
    refine ⟨⟨rfl, fun a w hk hs hd => ?_⟩, ?_⟩
    · exact s_clms1 (dep hd ⟨59, .data⟩ (by simp) rfl rfl) (fun v w' k h => ⟨v, rfl, k, h⟩)
    refine ⟨⟨rfl, fun a w hk hs hd => ?_⟩, ?_⟩
    · exact s_loadR (r := ((⟨2, [116], [0, 1], []⟩ : Ui), ((some ⟨G1, 0, none⟩ : Option Addr), 2))) (by have := hs 1 (.inl (by decide)); simp [Act.eval, this]) (LR1 w hk) (LG1 w hk) (by unfold Sml; simp) (fun v w' k h => ⟨v, rfl, k, h⟩)
    refine ⟨⟨rfl, fun a w hk hs hd => ?_⟩, ?_⟩
    · exact s_loadR (r := ((⟨3, [116], [0, 1], []⟩ : Ui), ((some ⟨G2, 0, none⟩ : Option Addr), 2))) (by have := hs 2 (.inl (by decide)); simp [Act.eval, this]) (LR2 w hk) (LG2 w hk) (by unfold Sml; simp) (fun v w' k h => ⟨v, rfl, k, h⟩)
    refine ⟨⟨rfl, fun a w hk hs hd => ?_⟩, ?_⟩
    · exact s_loadR (r := ((⟨4, [116], [], []⟩ : Ui), ((none : Option Addr), 0))) (by have := hs 4 (.inl (by decide)); simp [Act.eval, this]) (LR4 w hk) (LG4 w hk) (by unfold Sml; simp) (fun v w' k h => ⟨v, rfl, k, h⟩)
    refine ⟨⟨rfl, fun a w hk hs hd => ?_⟩, ?_⟩
    · exact s_recs3 (dep hd ⟨61, .data⟩ (by simp) rfl rfl) (dep hd ⟨62, .data⟩ (by simp) rfl rfl) (dep hd ⟨63, .data⟩ (by simp) rfl rfl) (fun v w' k h => ⟨v, rfl, k, h⟩)
    refine ⟨⟨rfl, fun a w hk hs hd => ?_⟩, ?_⟩
    · exact s_call (n := 3) (by unfold Fits; decide) (by decide) (dep hd ⟨64, .data⟩ (by simp) rfl rfl) (fun v w' k h => ⟨v, rfl, k, h⟩)
    refine ⟨⟨rfl, fun a w hk hs hd => ?_⟩, ?_⟩
    · exact s_clms1 (dep hd ⟨65, .data⟩ (by simp) rfl rfl) (fun v w' k h => ⟨v, rfl, k, h⟩)
    refine ⟨⟨rfl, fun a w hk hs hd => ?_⟩, ?_⟩
    · exact s_loadR (r := ((⟨3, [116], [0, 1], []⟩ : Ui), ((some ⟨G2, 0, none⟩ : Option Addr), 2))) (by have := hs 2 (.inl (by decide)); simp [Act.eval, this]) (LR2 w hk) (LG2 w hk) (by unfold Sml; simp) (fun v w' k h => ⟨v, rfl, k, h⟩)
    refine ⟨⟨rfl, fun a w hk hs hd => ?_⟩, ?_⟩
    · exact s_recs1 (dep hd ⟨67, .data⟩ (by simp) rfl rfl) (fun v w' k h => ⟨v, rfl, k, h⟩)
    refine ⟨⟨rfl, fun a w hk hs hd => ?_⟩, ?_⟩
    · exact s_call (n := 1) (by unfold Fits; decide) (by decide) (dep hd ⟨68, .data⟩ (by simp) rfl rfl) (fun v w' k h => ⟨v, rfl, k, h⟩)
    refine ⟨⟨rfl, fun a w hk hs hd => ?_⟩, ?_⟩
    · exact s_clms1 (dep hd ⟨69, .data⟩ (by simp) rfl rfl) (fun v w' k h => ⟨v, rfl, k, h⟩)
    refine ⟨⟨rfl, fun a w hk hs hd => ?_⟩, ?_⟩
    · exact s_loadR (r := ((⟨2, [116], [0, 1], []⟩ : Ui), ((some ⟨G1, 0, none⟩ : Option Addr), 2))) (by have := hs 1 (.inl (by decide)); simp [Act.eval, this]) (LR1 w hk) (LG1 w hk) (by unfold Sml; simp) (fun v w' k h => ⟨v, rfl, k, h⟩)
    refine ⟨⟨rfl, fun a w hk hs hd => ?_⟩, ?_⟩
    · exact s_loadR (r := ((⟨3, [116], [0, 1], []⟩ : Ui), ((some ⟨G2, 0, none⟩ : Option Addr), 2))) (by have := hs 2 (.inl (by decide)); simp [Act.eval, this]) (LR2 w hk) (LG2 w hk) (by unfold Sml; simp) (fun v w' k h => ⟨v, rfl, k, h⟩)
    refine ⟨⟨rfl, fun a w hk hs hd => ?_⟩, ?_⟩
    · exact s_recs2 (dep hd ⟨71, .data⟩ (by simp) rfl rfl) (dep hd ⟨72, .data⟩ (by simp) rfl rfl) (fun v w' k h => ⟨v, rfl, k, h⟩)
    refine ⟨⟨rfl, fun a w hk hs hd => ?_⟩, ?_⟩
    · exact s_call (n := 2) (by unfold Fits; decide) (by decide) (dep hd ⟨73, .data⟩ (by simp) rfl rfl) (fun v w' k h => ⟨v, rfl, k, h⟩)
    refine ⟨⟨rfl, fun a w hk hs hd => ?_⟩, ?_⟩
    · exact s_loadR (r := ((⟨2, [116], [0, 1], []⟩ : Ui), ((some ⟨G1, 0, none⟩ : Option Addr), 2))) (by have := hs 1 (.inl (by decide)); simp [Act.eval, this]) (LR1 w hk) (LG1 w hk) (by unfold Sml; simp) (fun v w' k h => ⟨v, rfl, k, h⟩)
    refine ⟨⟨rfl, fun a w hk hs hd => ?_⟩, ?_⟩
    · exact s_loadR (r := ((⟨3, [116], [1], []⟩ : Ui), ((some ⟨G3, 0, none⟩ : Option Addr), 1))) (by have := hs 3 (.inl (by decide)); simp [Act.eval, this]) (LR3 w hk) (LG3 w hk) (by unfold Sml; simp) (fun v w' k h => ⟨v, rfl, k, h⟩)
    refine ⟨⟨rfl, fun a w hk hs hd => ?_⟩, ?_⟩
    · exact s_recs2 (dep hd ⟨75, .data⟩ (by simp) rfl rfl) (dep hd ⟨76, .data⟩ (by simp) rfl rfl) (fun v w' k h => ⟨v, rfl, k, h⟩)
    refine ⟨⟨rfl, fun a w hk hs hd => ?_⟩, ?_⟩
    · exact s_call (n := 2) (by unfold Fits; decide) (by decide) (dep hd ⟨77, .data⟩ (by simp) rfl rfl) (fun v w' k h => ⟨v, rfl, k, h⟩)
    refine ⟨⟨rfl, fun a w hk hs hd => ?_⟩, ?_⟩
    · exact s_clms2 (dep hd ⟨74, .data⟩ (by simp) rfl rfl) (dep hd ⟨78, .data⟩ (by simp) rfl rfl) (fun v w' k h => ⟨v, rfl, k, h⟩)
    refine ⟨⟨rfl, fun a w hk hs hd => ?_⟩, ?_⟩
    · exact s_loadR (r := ((⟨2, [116], [0, 1], []⟩ : Ui), ((some ⟨G1, 0, none⟩ : Option Addr), 2))) (by have := hs 1 (.inl (by decide)); simp [Act.eval, this]) (LR1 w hk) (LG1 w hk) (by unfold Sml; simp) (fun v w' k h => ⟨v, rfl, k, h⟩)
    refine ⟨⟨rfl, fun a w hk hs hd => ?_⟩, ?_⟩
    · exact s_loadR (r := ((⟨3, [116], [0, 1], []⟩ : Ui), ((some ⟨G2, 0, none⟩ : Option Addr), 2))) (by have := hs 2 (.inl (by decide)); simp [Act.eval, this]) (LR2 w hk) (LG2 w hk) (by unfold Sml; simp) (fun v w' k h => ⟨v, rfl, k, h⟩)
    refine ⟨⟨rfl, fun a w hk hs hd => ?_⟩, ?_⟩
    · exact s_recs2 (dep hd ⟨80, .data⟩ (by simp) rfl rfl) (dep hd ⟨81, .data⟩ (by simp) rfl rfl) (fun v w' k h => ⟨v, rfl, k, h⟩)
    refine ⟨⟨rfl, fun a w hk hs hd => ?_⟩, ?_⟩
    · exact s_call (n := 2) (by unfold Fits; decide) (by decide) (dep hd ⟨82, .data⟩ (by simp) rfl rfl) (fun v w' k h => ⟨v, rfl, k, h⟩)
    refine ⟨⟨rfl, fun a w hk hs hd => ?_⟩, ?_⟩
    · exact s_clms1 (dep hd ⟨83, .data⟩ (by simp) rfl rfl) (fun v w' k h => ⟨v, rfl, k, h⟩)
    refine ⟨⟨rfl, fun a w hk hs hd => ?_⟩, ?_⟩
    · exact s_loadR (r := ((⟨2, [116], [0, 1], []⟩ : Ui), ((some ⟨G1, 0, none⟩ : Option Addr), 2))) (by have := hs 1 (.inl (by decide)); simp [Act.eval, this]) (LR1 w hk) (LG1 w hk) (by unfold Sml; simp) (fun v w' k h => ⟨v, rfl, k, h⟩)
    refine ⟨⟨rfl, fun a w hk hs hd => ?_⟩, ?_⟩
    · exact s_loadR (r := ((⟨3, [116], [0, 1], []⟩ : Ui), ((some ⟨G2, 0, none⟩ : Option Addr), 2))) (by have := hs 2 (.inl (by decide)); simp [Act.eval, this]) (LR2 w hk) (LG2 w hk) (by unfold Sml; simp) (fun v w' k h => ⟨v, rfl, k, h⟩)
    refine ⟨⟨rfl, fun a w hk hs hd => ?_⟩, ?_⟩
    · exact s_recs2 (dep hd ⟨85, .data⟩ (by simp) rfl rfl) (dep hd ⟨86, .data⟩ (by simp) rfl rfl) (fun v w' k h => ⟨v, rfl, k, h⟩)
    refine ⟨⟨rfl, fun a w hk hs hd => ?_⟩, ?_⟩
    · exact s_call (n := 2) (by unfold Fits; decide) (by decide) (dep hd ⟨87, .data⟩ (by simp) rfl rfl) (fun v w' k h => ⟨v, rfl, k, h⟩)
    refine ⟨⟨rfl, fun a w hk hs hd => ?_⟩, ?_⟩
    · exact s_loadR (r := ((⟨2, [116], [0, 1], []⟩ : Ui), ((some ⟨G1, 0, none⟩ : Option Addr), 2))) (by have := hs 1 (.inl (by decide)); simp [Act.eval, this]) (LR1 w hk) (LG1 w hk) (by unfold Sml; simp) (fun v w' k h => ⟨v, rfl, k, h⟩)
    refine ⟨⟨rfl, fun a w hk hs hd => ?_⟩, ?_⟩
    · exact s_loadR (r := ((⟨4, [116], [], []⟩ : Ui), ((none : Option Addr), 0))) (by have := hs 4 (.inl (by decide)); simp [Act.eval, this]) (LR4 w hk) (LG4 w hk) (by unfold Sml; simp) (fun v w' k h => ⟨v, rfl, k, h⟩)
    refine ⟨⟨rfl, fun a w hk hs hd => ?_⟩, ?_⟩
    · exact s_recs2 (dep hd ⟨89, .data⟩ (by simp) rfl rfl) (dep hd ⟨90, .data⟩ (by simp) rfl rfl) (fun v w' k h => ⟨v, rfl, k, h⟩)
    refine ⟨⟨rfl, fun a w hk hs hd => ?_⟩, ?_⟩
    · exact s_call (n := 2) (by unfold Fits; decide) (by decide) (dep hd ⟨91, .data⟩ (by simp) rfl rfl) (fun v w' k h => ⟨v, rfl, k, h⟩)
    refine ⟨⟨rfl, fun a w hk hs hd => ?_⟩, ?_⟩
    · exact s_clms2 (dep hd ⟨88, .data⟩ (by simp) rfl rfl) (dep hd ⟨92, .data⟩ (by simp) rfl rfl) (fun v w' k h => ⟨v, rfl, k, h⟩)
    refine ⟨⟨rfl, fun a w hk hs hd => ?_⟩, ?_⟩
    · exact s_all (xs := [.tmp 36, .tmp 41, .tmp 45, .tmp 49, .tmp 54, .tmp 64, .tmp 78, .tmp 84, .tmp 90, .tmp 95, .tmp 101, .tmp 105, .tmp 114, .tmp 119, .tmp 128]) rfl (List.forall_mem_cons.2 ⟨⟨1, by decide, dep hd ⟨1, .data⟩ (by simp) rfl rfl⟩, List.forall_mem_cons.2 ⟨⟨1, by decide, dep hd ⟨6, .data⟩ (by simp) rfl rfl⟩, List.forall_mem_cons.2 ⟨⟨1, by decide, dep hd ⟨10, .data⟩ (by simp) rfl rfl⟩, List.forall_mem_cons.2 ⟨⟨1, by decide, dep hd ⟨14, .data⟩ (by simp) rfl rfl⟩, List.forall_mem_cons.2 ⟨⟨1, by decide, dep hd ⟨19, .data⟩ (by simp) rfl rfl⟩, List.forall_mem_cons.2 ⟨⟨2, by decide, dep hd ⟨29, .data⟩ (by simp) rfl rfl⟩, List.forall_mem_cons.2 ⟨⟨3, by decide, dep hd ⟨43, .data⟩ (by simp) rfl rfl⟩, List.forall_mem_cons.2 ⟨⟨1, by decide, dep hd ⟨49, .data⟩ (by simp) rfl rfl⟩, List.forall_mem_cons.2 ⟨⟨1, by decide, dep hd ⟨55, .data⟩ (by simp) rfl rfl⟩, List.forall_mem_cons.2 ⟨⟨1, by decide, dep hd ⟨60, .data⟩ (by simp) rfl rfl⟩, List.forall_mem_cons.2 ⟨⟨1, by decide, dep hd ⟨66, .data⟩ (by simp) rfl rfl⟩, List.forall_mem_cons.2 ⟨⟨1, by decide, dep hd ⟨70, .data⟩ (by simp) rfl rfl⟩, List.forall_mem_cons.2 ⟨⟨2, by decide, dep hd ⟨79, .data⟩ (by simp) rfl rfl⟩, List.forall_mem_cons.2 ⟨⟨1, by decide, dep hd ⟨84, .data⟩ (by simp) rfl rfl⟩, List.forall_mem_cons.2 ⟨⟨2, by decide, dep hd ⟨93, .data⟩ (by simp) rfl rfl⟩, fun _ h => by cases h⟩⟩⟩⟩⟩⟩⟩⟩⟩⟩⟩⟩⟩⟩⟩) (fun v w' k h => ⟨v, rfl, k, h⟩)
    refine ⟨⟨rfl, fun a w hk hs hd => ?_⟩, ?_⟩
    · exact s_len (dep hd ⟨94, .data⟩ (by simp) rfl rfl) (fun v w' k h => ⟨v, rfl, k, h⟩)
    refine ⟨⟨rfl, fun a w hk hs hd => ?_⟩, ?_⟩
    · exact s_zero (fun v w' k h => ⟨v, rfl, k, h⟩)
    trivial
  case fin =>
    intro T w8 hk hT hs hv
    obtain ⟨Bm, hB, hTe⟩ := slots_arr (s := 35) (n := 97) hT hs (Nat.le_of_ble_eq_true (by kernel_rfl))
    obtain ⟨v94, g94, h94⟩ := hv 94 (by decide)
    obtain ⟨v95, g95, h95⟩ := hv 95 (by decide)
    obtain ⟨v96, g96, h96⟩ := hv 96 (by decide)
    have HAv : Hid (AllV w8 v94) := h94
    obtain rfl : v95 = .int .i64 15 := h95
    obtain rfl : v96 = .int .i64 0 := h96
    have HK8 : Hid (Kept (fun _ => True) wS w8) := hk
    clear hv h94 hs hT hk
    subst hTe
    obtain ⟨b0, Bm0, rfl, hB0⟩ := len_cons hB
    obtain ⟨b1, Bm1, rfl, hB1⟩ := len_cons hB0
    obtain ⟨b2, Bm2, rfl, hB2⟩ := len_cons hB1
    obtain ⟨b3, Bm3, rfl, hB3⟩ := len_cons hB2
    obtain ⟨b4, Bm4, rfl, hB4⟩ := len_cons hB3
    obtain ⟨b5, Bm5, rfl, hB5⟩ := len_cons hB4
    obtain ⟨b6, Bm6, rfl, hB6⟩ := len_cons hB5
    obtain ⟨b7, Bm7, rfl, hB7⟩ := len_cons hB6
    obtain ⟨b8, Bm8, rfl, hB8⟩ := len_cons hB7
    obtain ⟨b9, Bm9, rfl, hB9⟩ := len_cons hB8
    obtain ⟨b10, Bm10, rfl, hB10⟩ := len_cons hB9
    obtain ⟨b11, Bm11, rfl, hB11⟩ := len_cons hB10
    obtain ⟨b12, Bm12, rfl, hB12⟩ := len_cons hB11
    obtain ⟨b13, Bm13, rfl, hB13⟩ := len_cons hB12
    obtain ⟨b14, Bm14, rfl, hB14⟩ := len_cons hB13
    obtain ⟨b15, Bm15, rfl, hB15⟩ := len_cons hB14
    obtain ⟨b16, Bm16, rfl, hB16⟩ := len_cons hB15
    obtain ⟨b17, Bm17, rfl, hB17⟩ := len_cons hB16
    obtain ⟨b18, Bm18, rfl, hB18⟩ := len_cons hB17
    obtain ⟨b19, Bm19, rfl, hB19⟩ := len_cons hB18
    obtain ⟨b20, Bm20, rfl, hB20⟩ := len_cons hB19
    obtain ⟨b21, Bm21, rfl, hB21⟩ := len_cons hB20
    obtain ⟨b22, Bm22, rfl, hB22⟩ := len_cons hB21
    obtain ⟨b23, Bm23, rfl, hB23⟩ := len_cons hB22
    obtain ⟨b24, Bm24, rfl, hB24⟩ := len_cons hB23
    obtain ⟨b25, Bm25, rfl, hB25⟩ := len_cons hB24
    obtain ⟨b26, Bm26, rfl, hB26⟩ := len_cons hB25
    obtain ⟨b27, Bm27, rfl, hB27⟩ := len_cons hB26
    obtain ⟨b28, Bm28, rfl, hB28⟩ := len_cons hB27
    obtain ⟨b29, Bm29, rfl, hB29⟩ := len_cons hB28
    obtain ⟨b30, Bm30, rfl, hB30⟩ := len_cons hB29
    obtain ⟨b31, Bm31, rfl, hB31⟩ := len_cons hB30
    obtain ⟨b32, Bm32, rfl, hB32⟩ := len_cons hB31
    obtain ⟨b33, Bm33, rfl, hB33⟩ := len_cons hB32
    obtain ⟨b34, Bm34, rfl, hB34⟩ := len_cons hB33
    obtain ⟨b35, Bm35, rfl, hB35⟩ := len_cons hB34
    obtain ⟨b36, Bm36, rfl, hB36⟩ := len_cons hB35
    obtain ⟨b37, Bm37, rfl, hB37⟩ := len_cons hB36
    obtain ⟨b38, Bm38, rfl, hB38⟩ := len_cons hB37
    obtain ⟨b39, Bm39, rfl, hB39⟩ := len_cons hB38
    obtain ⟨b40, Bm40, rfl, hB40⟩ := len_cons hB39
    obtain ⟨b41, Bm41, rfl, hB41⟩ := len_cons hB40
    obtain ⟨b42, Bm42, rfl, hB42⟩ := len_cons hB41
    obtain ⟨b43, Bm43, rfl, hB43⟩ := len_cons hB42
    obtain ⟨b44, Bm44, rfl, hB44⟩ := len_cons hB43
    obtain ⟨b45, Bm45, rfl, hB45⟩ := len_cons hB44
    obtain ⟨b46, Bm46, rfl, hB46⟩ := len_cons hB45
    obtain ⟨b47, Bm47, rfl, hB47⟩ := len_cons hB46
    obtain ⟨b48, Bm48, rfl, hB48⟩ := len_cons hB47
    obtain ⟨b49, Bm49, rfl, hB49⟩ := len_cons hB48
    obtain ⟨b50, Bm50, rfl, hB50⟩ := len_cons hB49
    obtain ⟨b51, Bm51, rfl, hB51⟩ := len_cons hB50
    obtain ⟨b52, Bm52, rfl, hB52⟩ := len_cons hB51
    obtain ⟨b53, Bm53, rfl, hB53⟩ := len_cons hB52
    obtain ⟨b54, Bm54, rfl, hB54⟩ := len_cons hB53
    obtain ⟨b55, Bm55, rfl, hB55⟩ := len_cons hB54
    obtain ⟨b56, Bm56, rfl, hB56⟩ := len_cons hB55
    obtain ⟨b57, Bm57, rfl, hB57⟩ := len_cons hB56
    obtain ⟨b58, Bm58, rfl, hB58⟩ := len_cons hB57
    obtain ⟨b59, Bm59, rfl, hB59⟩ := len_cons hB58
    obtain ⟨b60, Bm60, rfl, hB60⟩ := len_cons hB59
    obtain ⟨b61, Bm61, rfl, hB61⟩ := len_cons hB60
    obtain ⟨b62, Bm62, rfl, hB62⟩ := len_cons hB61
    obtain ⟨b63, Bm63, rfl, hB63⟩ := len_cons hB62
    obtain ⟨b64, Bm64, rfl, hB64⟩ := len_cons hB63
    obtain ⟨b65, Bm65, rfl, hB65⟩ := len_cons hB64
    obtain ⟨b66, Bm66, rfl, hB66⟩ := len_cons hB65
    obtain ⟨b67, Bm67, rfl, hB67⟩ := len_cons hB66
    obtain ⟨b68, Bm68, rfl, hB68⟩ := len_cons hB67
    obtain ⟨b69, Bm69, rfl, hB69⟩ := len_cons hB68
    obtain ⟨b70, Bm70, rfl, hB70⟩ := len_cons hB69
    obtain ⟨b71, Bm71, rfl, hB71⟩ := len_cons hB70
    obtain ⟨b72, Bm72, rfl, hB72⟩ := len_cons hB71
    obtain ⟨b73, Bm73, rfl, hB73⟩ := len_cons hB72
    obtain ⟨b74, Bm74, rfl, hB74⟩ := len_cons hB73
    obtain ⟨b75, Bm75, rfl, hB75⟩ := len_cons hB74
    obtain ⟨b76, Bm76, rfl, hB76⟩ := len_cons hB75
    obtain ⟨b77, Bm77, rfl, hB77⟩ := len_cons hB76
    obtain ⟨b78, Bm78, rfl, hB78⟩ := len_cons hB77
    obtain ⟨b79, Bm79, rfl, hB79⟩ := len_cons hB78
    obtain ⟨b80, Bm80, rfl, hB80⟩ := len_cons hB79
    obtain ⟨b81, Bm81, rfl, hB81⟩ := len_cons hB80
    obtain ⟨b82, Bm82, rfl, hB82⟩ := len_cons hB81
    obtain ⟨b83, Bm83, rfl, hB83⟩ := len_cons hB82
    obtain ⟨b84, Bm84, rfl, hB84⟩ := len_cons hB83
    obtain ⟨b85, Bm85, rfl, hB85⟩ := len_cons hB84
    obtain ⟨b86, Bm86, rfl, hB86⟩ := len_cons hB85
    obtain ⟨b87, Bm87, rfl, hB87⟩ := len_cons hB86
    obtain ⟨b88, Bm88, rfl, hB88⟩ := len_cons hB87
    obtain ⟨b89, Bm89, rfl, hB89⟩ := len_cons hB88
    obtain ⟨b90, Bm90, rfl, hB90⟩ := len_cons hB89
    obtain ⟨b91, Bm91, rfl, hB91⟩ := len_cons hB90
    obtain ⟨b92, Bm92, rfl, hB92⟩ := len_cons hB91
    obtain ⟨b93, Bm93, rfl, hB93⟩ := len_cons hB92
    obtain ⟨b94, Bm94, rfl, hB94⟩ := len_cons hB93
    obtain ⟨b95, Bm95, rfl, hB95⟩ := len_cons hB94
    obtain ⟨b96, Bm96, rfl, hB96⟩ := len_cons hB95
    obtain rfl := List.eq_nil_of_length_eq_zero hB96
    ·
      simp only [List.take_succ_cons, List.take_zero, List.drop_succ_cons, List.drop_zero, List.cons_append, List.nil_append] at g94 g95 g96 ⊢
      simp at g94 g95 g96
      subst g94 g95 g96
      obtain ⟨BA, rfl, hAV⟩ := all_slice HAv.out
      have HAV : Hid (AllV w8 (.slice (some ⟨BA, 0, none⟩) 15 15)) := hAV
      have KW8 : Hid (Kept (fun _ => True) w w8) := (KA.out.trans KS.out).trans HK8.out
      clear hAV HAv
      clear hB96 hB95 hB94 hB93 hB92 hB91 hB90 hB89 hB88 hB87 hB86 hB85 hB84 hB83 hB82 hB81 hB80 hB79 hB78 hB77 hB76 hB75 hB74 hB73 hB72 hB71 hB70 hB69 hB68 hB67 hB66 hB65 hB64 hB63 hB62 hB61 hB60 hB59 hB58 hB57 hB56 hB55 hB54 hB53 hB52 hB51 hB50 hB49 hB48 hB47 hB46 hB45 hB44 hB43 hB42 hB41 hB40 hB39 hB38 hB37 hB36 hB35 hB34 hB33 hB32 hB31 hB30 hB29 hB28 hB27 hB26 hB25 hB24 hB23 hB22 hB21 hB20 hB19 hB18 hB17 hB16 hB15 hB14 hB13 hB12 hB11 hB10 hB9 hB8 hB7 hB6 hB5 hB4 hB3 hB2 hB1 hB0 hB
      clear FY LR1 LG1 LR2 LG2 LR3 LG3 LR4 LG4 LR5 LG5 z0 z1 y0 y1 F6S x10 x11 x12 x13 x20 x21 x22 x23 x30 x31 x32 x33 x40 x41 x42 x43 x50 x51 x52 x53 e1 m0 m1 m2 QT HLT OS hBY hBA hSz KS hwS hy fr0 by0 OB F6 O0 Q0 ho KvB K1 N0 K0 HC D1 D2 D3
      generalize (bs0[m]'(by omega)).toNat = zz
      clear hm
      go_wp2_with fail
      go_loopw [131] (fun t wr => ∃ j : Nat, j ≤ 15 ∧ t = .int .i64 j ∧ Kept (fun _ => True) w8 wr) (fun t _ => 15 - (intOf t).toNat)
      case atStart => exact ⟨0, Nat.zero_le _, rfl, Kept.refl _ _⟩
      case round =>
        obtain ⟨j, hj, rfl, hkr⟩ := hrel
        have HKr : Hid (Kept (fun _ => True) w8 wr) := hkr
        obtain ⟨wq, hwq⟩ : ∃ x, x = wr := ⟨_, rfl⟩
        rw [← hwq] at HKr hkr ⊢
        clear hwq
        by_cases hlt : j < 15
        · obtain ⟨n, hn, aB, cs, s0, hl, hL⟩ := all_at (HAV.out.mono hkr) hlt
          have hL1 : Hid (Lst wq aB cs) := hL
          have VC := verify_lst (c := n) hL hl
          have HL : Hid (cs.length = n) := hl
          have j0 : (0 : Int) ≤ (j : Int) := by omega
          have j1 : (j : Int) < 15 := by omega
          have HJ : Hid (j < 15) := hlt
          have hn3 : n ≤ 3 := hn
          clear hL hl hj hkr hn hlt
          go_upto_region 12 with (go_at_call 10; (with_reducible refine Calls.mono VC ?_); rintro e wv ⟨⟨vr, vi, vz, vk, pq, rfl, hpg, hver⟩, kv⟩; have HPG : Hid (Pgs cs (pq.map (·.1))) := hpg; have HVER : Hid (EVer pq (.returned (.tuple #[.agg #[.int .i64 vr, .int .i64 vi, .int .i64 vz], .bool vk]))) := hver; clear hpg hver VC)
          obtain ⟨w2, hw2⟩ : ∃ x, x = wv.alloc (.cells #[.int .i64 vr, .int .i64 vi, .int .i64 vz] 33) := ⟨_, rfl⟩
          have k2 : Kept (fun _ => True) wq w2 := by rw [hw2]; exact kv.alloc _
          have FD : Hid (Bk w2 wv.heap.size 33 [.int .i64 vr, .int .i64 vi, .int .i64 vz]) := by show Bk _ _ _ _; rw [hw2]; exact heap_alloc_new wv _
          rw [← hw2]
          have K2 : Hid (Kept (fun _ => True) wq w2) := k2
          have IN1 := in_lst (c := n) (hL1.out.all k2) HL.out
          clear hw2 kv k2 s0
          generalize wv.heap.size = D at *
          go_upto_region 13 with (first
            | (go_at_call 12; (with_reducible refine Calls.mono IN1 ?_); rintro e w3 ⟨⟨a3, c3, cl, rfl, hldc⟩, k3⟩; have K3 : Hid (Kept (fun _ => True) w2 w3) := k3; have RV := rverify_lst (c := c3) hL1.out hldc HL.out HPG.out HVER.out; clear hldc k3 IN1)
            | (go_at_call 11; (with_reducible refine Calls.mono RV ?_); rintro e w4 ⟨rfl, k4⟩; have KV4 : Hid (Kept (fun _ => True) w2 w4) := K3.out.trans k4; clear k4 RV))
          obtain ⟨w5, hw5⟩ : ∃ x, x = w4.alloc (.cells #[.int .i64 vr, .int .i64 vi, .int .i64 vz] 36) := ⟨_, rfl⟩
          have k5 : Kept (fun _ => True) w2 w5 := by rw [hw5]; exact KV4.out.alloc _
          have FE : Bk w5 w4.heap.size 36 [.int .i64 vr, .int .i64 vi, .int .i64 vz] := by rw [hw5]; exact heap_alloc_new w4 _
          rw [← hw5]
          have K5 : Hid (Kept (fun _ => True) wq w5) := K2.out.trans k5
          obtain ⟨d0, d1, d2⟩ := (FD.out.kept k5 trivial).three
          obtain ⟨g0, g1, g2⟩ := FE.three
          have OC := outcomes_lst (c := n) (hL1.out.all K5.out) HL.out [116]
          have hOl : ∀ K : K4, (outO K).length ≤ 1000000 := fun K => by unfold outO; split <;> split <;> simp
          clear hw5 k5 FE KV4 K3 K2 FD
          generalize w4.heap.size = E at *
          have i6 : (j : Int) + 1 ≤ 9223372036854775807 := by omega
          cases vk
          · go_wp2_with (first
              | (go_at_call 14; (with_reducible refine Calls.mono OC ?_); rintro e w6 ⟨⟨v6, lss, rfl, hd6, hi6⟩, k6⟩; have IN2 := in_lst (c := n) (hL1.out.all (K5.out.trans k6)) HL.out; clear OC)
              | (go_at_call 12; (with_reducible refine Calls.mono IN2 ?_); rintro e w7 ⟨⟨a7, c7, cl7, rfl, hl7⟩, k7⟩; have RO := routcomes_lst (c := c7) hL1.out hl7 HL.out [116] hd6; clear IN2)
              | (go_at_call 15; (with_reducible refine Calls.mono RO ?_); rintro e w8' ⟨⟨v8, rfl, hi8⟩, k8⟩; have CS := isame_any (hi6.kept (k7.trans k8) (fun _ _ => trivial)) hi8 (hOl _); clear RO)
              | (go_at_call 13; (with_reducible refine Calls.mono CS ?_); rintro e w9 ⟨rfl, m9, rfl⟩))
            go_roundw
            case rel =>
              exact ⟨j + 1, by omega, by go_num, HKr.out.trans (K5.out.trans (((k6.trans k7).trans k8).drewN _))⟩
            case measure => simp [intOf]; omega
          · go_wp2_with (first
              | (go_at_call 14; (with_reducible refine Calls.mono OC ?_); rintro e w6 ⟨⟨v6, lss, rfl, hd6, hi6⟩, k6⟩; have IN2 := in_lst (c := n) (hL1.out.all (K5.out.trans k6)) HL.out; clear OC)
              | (go_at_call 12; (with_reducible refine Calls.mono IN2 ?_); rintro e w7 ⟨⟨a7, c7, cl7, rfl, hl7⟩, k7⟩; have RO := routcomes_lst (c := c7) hL1.out hl7 HL.out [116] hd6; clear IN2)
              | (go_at_call 15; (with_reducible refine Calls.mono RO ?_); rintro e w8' ⟨⟨v8, rfl, hi8⟩, k8⟩; have CS := isame_any (hi6.kept (k7.trans k8) (fun _ _ => trivial)) hi8 (hOl _); clear RO)
              | (go_at_call 13; (with_reducible refine Calls.mono CS ?_); rintro e w9 ⟨rfl, m9, rfl⟩))
            go_roundw
            case rel =>
              exact ⟨j + 1, by omega, by go_num, HKr.out.trans (K5.out.trans (((k6.trans k7).trans k8).drewN _))⟩
            case measure => simp [intOf]; omega
        · obtain rfl : j = 15 := by omega
          clear hlt hj hkr
          go_wp2_with (go_at_call 16; (with_reducible refine Calls.mono (known_any _) ?_); rintro e w9 ⟨rfl, k9⟩)
          go_ret
          exact ⟨rfl, (KW8.out.trans HKr.out).trans k9⟩

end Go.Proofs.Ytmcaoimgmgjjiaa
