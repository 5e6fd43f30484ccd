/-
  Texts of the proofs, 30 of 52.
-/
import Derived.Test.YtmcaoimgmgjjiaaWAC
import Derived.BigRegion
import Derived.Test.YtmcaoimgmgjjiaaWM
namespace Go.Proofs.Ytmcaoimgmgjjiaa
open Go.RowKit

set_option maxRecDepth 100000 in
set_option maxHeartbeats 20000000 in
theorem rsha_any {w : World} {ao : Option Addr} {cap : Nat} {bs : List UInt8} (hh : Has w ao bs) (hn : ao = none → cap = 0) (hl : (bs.length : Int) ≤ 2000000) :
    Calls Try.prog 82 #[.slice ao bs.length cap] w fun e w' => e = .returned (.agg (cells (shaOf bs)).toArray) ∧ Kept (fun _ => True) w w' := by
  have HH : Hid (Has w ao bs) := hh
  have HN : Hid (ao = none → cap = 0) := hn
  clear hh hn
  go_enter Try.func82, Try.ntmps82
  go_wp2_with (first
    | ((with_reducible refine w_alloc (d := some 2) arr32 ?_); intro w1 a2 k1 s1)
    | ((with_reducible refine w_alloc (d := some 3) arr8 ?_); intro w2 a3 k2 s2)
    | ((with_reducible apply w_store (x := .tmp 3) (b := w1.heap.size) (xs := wcells h0.words) (old := List.replicate 8 (.int .u32 0)) arr8); (case hx => rfl); (case hy => rfl); (case ha => exact a3); (case ho => simp); (case hl => rfl); (case h1 => exact wcells_one _); intro w3 a3' k3 s3)
    | (at_builtin; refine wpList_append_has rfl (.tmp 25) (.tmp 26) rfl w3.heap.size (.slice (some ⟨w3.heap.size, 0, none⟩) 0 0) 0 [] rfl (own_new w3 _ (Nat.le_refl _)) (by simp) ao bs.length cap rfl bs rfl HN.out (HH.out.kept (((k1.trans k2).then k3 (fun i hi _ => by have := s1.out; omega)).alloc _) (fun _ _ => trivial)) (by omega) ?_; intro p1 c1 w4 ho1 hg1 hl1; simp only [Nat.zero_add, List.nil_append] at ho1 hl1)
    | (at_builtin; refine wpList_append_has rfl (.tmp 27) (.tmp 28) rfl w3.heap.size (.slice p1 bs.length c1) bs.length (cells bs) rfl (ho1.alloc _) (by have := hg1.size; simp at this ⊢; omega) _ 1 1 rfl [128] rfl (by simp) (has_row (heap_alloc_new w4 _)) (by omega) ?_; intro p2 c2 w5 ho2 hg2 hl2))
  have q1 := s1.out
  have q2 := s2.out
  have q3 := s3.out
  have A2 := (a2.kept k2 trivial).kept k3 (by omega)
  have K03 : Kept (fun _ => True) w w3 := (k1.trans k2).then k3 (fun i hi _ => by omega)
  have K34 : Kept (fun _ => True) w3 w5 := fresh_two hg1 hg2 hl1
  have d1 : w.heap.size < w1.heap.size := by omega
  have d2 : w1.heap.size < w3.heap.size := by omega
  rw [← cells_append] at ho2
  clear q1 q2 q3 s1 s2 s3 a2 a3 k1 k2 k3 ho1 hg1 hl1 hg2 hl2 HH HN
  generalize w1.heap.size = B3 at *
  obtain ⟨B2, hB⟩ : ∃ B, B = w.heap.size := ⟨_, rfl⟩
  rw [← hB] at A2 d1 ⊢
  have HB : Hid (B2 = w.heap.size) := hB
  clear hB
  obtain ⟨R, hR⟩ : ∃ R, R = w3.heap.size := ⟨_, rfl⟩
  rw [← hR] at ho2 d2
  have HR : Hid (R = w3.heap.size) := hR
  clear hR
  go_loopw [4] (fun t wr => ∃ (z : Nat) (po : Option Addr) (pc : Nat), z ≤ padZeros bs.length ∧ t = .slice po (bs.length + 1 + z) pc ∧ wr.ownsRow R 5 1 (.slice po (bs.length + 1 + z) pc) (bs.length + 1 + z) (cells (bs ++ [128] ++ List.replicate z 0)) ∧ Kept (fun _ => True) w3 wr) (fun t _ => bs.length + 1 + padZeros bs.length - sliceLen t)
  case atStart => exact ⟨0, p2, c2, by omega, rfl, by simpa using ho2, K34⟩
  case round =>
    clear ho2 K34
    obtain ⟨z, po, pc, hz, rfl, ho, kr⟩ := hrel
    by_cases hlz : z < padZeros bs.length
    · have hcond : (((bs.length : Int) + 1 + (z : Int)) % 64 != 56) = true := by
        simp only [bne_iff_ne, ne_eq]
        unfold padZeros at hlz
        omega
      have hc2 : ¬ ((bs.length : Int) + 1 + (z : Int)) % 64 = 56 := by
        unfold padZeros at hlz
        omega
      have hzb : (z : Int) ≤ 64 := by unfold padZeros at hlz; omega
      have HO : Hid (wr.ownsRow R 5 1 (.slice po (bs.length + 1 + z) pc) (bs.length + 1 + z) (cells (bs ++ [128] ++ List.replicate z 0))) := ho
      clear ho
      go_wp2_with (at_builtin; refine wpList_append_has rfl (.tmp 34) (.tmp 35) rfl R (.slice po (bs.length + 1 + z) pc) (bs.length + 1 + z) (cells (bs ++ [128] ++ List.replicate z 0)) rfl (HO.out.alloc _) (by have := HR.out; have := kr.size; simp; omega) _ 1 1 rfl [0] rfl (by simp) (has_row (heap_alloc_new wr _)) (by omega) ?_; intro p3 c3 w6 ho3 hg3 hl3)
      go_roundw
      case rel =>
        refine ⟨z + 1, p3, c3, by omega, rfl, ?_, ?_⟩
        · rw [List.replicate_succ', ← List.append_assoc, cells_append]
          exact ho3
        · exact own_grown (HO.out.alloc _) (kr.alloc _) (by rw [HR.out]; exact Nat.le_refl _) hg3
      case measure => simp [sliceLen]; omega
    · obtain rfl : z = padZeros bs.length := by omega
      have hcond : (((bs.length : Int) + 1 + ((padZeros bs.length : Nat) : Int)) % 64 != 56) = false := by
        simp only [bne_eq_false_iff_eq]
        unfold padZeros
        omega
      have hc2 : ((bs.length : Int) + 1 + ((padZeros bs.length : Nat) : Int)) % 64 = 56 := by
        unfold padZeros
        omega
      have hzb : padZeros bs.length ≤ 64 := by unfold padZeros; omega
      have HP : Hid (padded bs = (bs ++ [128] ++ List.replicate (padZeros bs.length) 0) ++ bytesOf (8 * bs.length) 8) := rfl
      have lM : (bs ++ [128] ++ List.replicate (padZeros bs.length) (0 : UInt8)).length = bs.length + 1 + padZeros bs.length := by simp; omega
      have hln : ((bs.length + 1 + padZeros bs.length : Nat) : Int) % 64 = 56 := by omega
      have hlm : (((bs.length + 1 + padZeros bs.length : Nat) : Int) % 64 != 56) = false := by rw [hln]; rfl
      have hll : bs.length + 1 + padZeros bs.length ≤ 2000100 := by omega
      generalize bs ++ [128] ++ List.replicate (padZeros bs.length) (0 : UInt8) = M at *
      clear hcond hc2 hzb hlz hz
      generalize bs.length + 1 + padZeros bs.length = ln at *
      go_wp2
      clear hln hlm
      go_loopw [4, 6] (fun t ti x => ∃ (j : Nat) (po : Option Addr) (pc : Nat), j ≤ 8 ∧ ti = .int .i64 (7 - (j : Int)) ∧ t = .slice po (ln + j) pc ∧ x.ownsRow R 5 1 (.slice po (ln + j) pc) (ln + j) (cells (M ++ (bytesOf (8 * bs.length) 8).take j)) ∧ Kept (fun _ => True) w3 x) (fun _ ti _ => (intOf ti + 1).toNat)
      case atStart => exact ⟨0, po, pc, by omega, rfl, rfl, by simpa using ho, kr⟩
      case round =>
        clear ho kr
        obtain ⟨j, qo, qc, hj, rfl, rfl, ho, kr⟩ := hrel
        by_cases hlj : j < 8
        · have HT := bytesOf_take (8 * bs.length) j hlj
          have HO : Hid (wr.ownsRow R 5 1 (.slice qo (ln + j) qc) (ln + j) (cells (M ++ (bytesOf (8 * bs.length) 8).take j))) := ho
          obtain ⟨y, hy⟩ : ∃ y : UInt8, y = UInt8.ofNat (8 * bs.length / 256 ^ (7 - j)) := ⟨_, rfl⟩
          have HY : Hid ((bytesOf (8 * bs.length) 8).take (j + 1) = (bytesOf (8 * bs.length) 8).take j ++ [y]) := by rw [hy]; exact HT
          have ht : ((y.toNat : Nat) : Int) = ((8 * bs.length / 256 ^ (7 - j) % 256 : Nat) : Int) := by rw [hy, UInt8.toNat_ofNat']
          clear ho HT hy
          obtain rfl | rfl | rfl | rfl | rfl | rfl | rfl | rfl : j = 0 ∨ j = 1 ∨ j = 2 ∨ j = 3 ∨ j = 4 ∨ j = 5 ∨ j = 6 ∨ j = 7 := by omega
          · have hy : (bs.length : Int) * 8 / 72057594037927936 = ((y.toNat : Nat) : Int) := by rw [ht]; simp <;> omega
            clear ht
            go_wp2_with (at_builtin; refine wpList_append_has rfl (.tmp 45) (.tmp 52) rfl R (.slice qo (ln + 0) qc) (ln + 0) (cells (M ++ (bytesOf (8 * bs.length) 8).take 0)) rfl (HO.out.alloc _) (by have := HR.out; have := kr.size; simp; omega) _ 1 1 rfl [y] rfl (by simp) (has_row (heap_alloc_new wr _)) (by omega) ?_; intro p3 c3 w6 ho3 hg3 hl3)
            go_roundw
            case rel =>
              refine ⟨0 + 1, p3, c3, by omega, by go_num, rfl, ?_, own_grown (HO.out.alloc _) (kr.alloc _) (by rw [HR.out]; exact Nat.le_refl _) hg3⟩
              rw [HY.out, ← List.append_assoc, cells_append]
              exact ho3
            case measure => simp [intOf]
          · have hy : (bs.length : Int) * 8 / 281474976710656 = ((y.toNat : Nat) : Int) := by rw [ht]; simp <;> omega
            clear ht
            go_wp2_with (at_builtin; refine wpList_append_has rfl (.tmp 45) (.tmp 52) rfl R (.slice qo (ln + 1) qc) (ln + 1) (cells (M ++ (bytesOf (8 * bs.length) 8).take 1)) rfl (HO.out.alloc _) (by have := HR.out; have := kr.size; simp; omega) _ 1 1 rfl [y] rfl (by simp) (has_row (heap_alloc_new wr _)) (by omega) ?_; intro p3 c3 w6 ho3 hg3 hl3)
            go_roundw
            case rel =>
              refine ⟨1 + 1, p3, c3, by omega, by go_num, rfl, ?_, own_grown (HO.out.alloc _) (kr.alloc _) (by rw [HR.out]; exact Nat.le_refl _) hg3⟩
              rw [HY.out, ← List.append_assoc, cells_append]
              exact ho3
            case measure => simp [intOf]
          · have hy : (bs.length : Int) * 8 / 1099511627776 = ((y.toNat : Nat) : Int) := by rw [ht]; simp <;> omega
            clear ht
            go_wp2_with (at_builtin; refine wpList_append_has rfl (.tmp 45) (.tmp 52) rfl R (.slice qo (ln + 2) qc) (ln + 2) (cells (M ++ (bytesOf (8 * bs.length) 8).take 2)) rfl (HO.out.alloc _) (by have := HR.out; have := kr.size; simp; omega) _ 1 1 rfl [y] rfl (by simp) (has_row (heap_alloc_new wr _)) (by omega) ?_; intro p3 c3 w6 ho3 hg3 hl3)
            go_roundw
            case rel =>
              refine ⟨2 + 1, p3, c3, by omega, by go_num, rfl, ?_, own_grown (HO.out.alloc _) (kr.alloc _) (by rw [HR.out]; exact Nat.le_refl _) hg3⟩
              rw [HY.out, ← List.append_assoc, cells_append]
              exact ho3
            case measure => simp [intOf]
          · have hy : (bs.length : Int) * 8 / 4294967296 = ((y.toNat : Nat) : Int) := by rw [ht]; simp <;> omega
            clear ht
            go_wp2_with (at_builtin; refine wpList_append_has rfl (.tmp 45) (.tmp 52) rfl R (.slice qo (ln + 3) qc) (ln + 3) (cells (M ++ (bytesOf (8 * bs.length) 8).take 3)) rfl (HO.out.alloc _) (by have := HR.out; have := kr.size; simp; omega) _ 1 1 rfl [y] rfl (by simp) (has_row (heap_alloc_new wr _)) (by omega) ?_; intro p3 c3 w6 ho3 hg3 hl3)
            go_roundw
            case rel =>
              refine ⟨3 + 1, p3, c3, by omega, by go_num, rfl, ?_, own_grown (HO.out.alloc _) (kr.alloc _) (by rw [HR.out]; exact Nat.le_refl _) hg3⟩
              rw [HY.out, ← List.append_assoc, cells_append]
              exact ho3
            case measure => simp [intOf]
          · have hy : (bs.length : Int) * 8 / 16777216 = ((y.toNat : Nat) : Int) := by rw [ht]; simp <;> omega
            clear ht
            go_wp2_with (at_builtin; refine wpList_append_has rfl (.tmp 45) (.tmp 52) rfl R (.slice qo (ln + 4) qc) (ln + 4) (cells (M ++ (bytesOf (8 * bs.length) 8).take 4)) rfl (HO.out.alloc _) (by have := HR.out; have := kr.size; simp; omega) _ 1 1 rfl [y] rfl (by simp) (has_row (heap_alloc_new wr _)) (by omega) ?_; intro p3 c3 w6 ho3 hg3 hl3)
            go_roundw
            case rel =>
              refine ⟨4 + 1, p3, c3, by omega, by go_num, rfl, ?_, own_grown (HO.out.alloc _) (kr.alloc _) (by rw [HR.out]; exact Nat.le_refl _) hg3⟩
              rw [HY.out, ← List.append_assoc, cells_append]
              exact ho3
            case measure => simp [intOf]
          · have hy : (bs.length : Int) * 8 / 65536 = ((y.toNat : Nat) : Int) := by rw [ht]; simp <;> omega
            clear ht
            go_wp2_with (at_builtin; refine wpList_append_has rfl (.tmp 45) (.tmp 52) rfl R (.slice qo (ln + 5) qc) (ln + 5) (cells (M ++ (bytesOf (8 * bs.length) 8).take 5)) rfl (HO.out.alloc _) (by have := HR.out; have := kr.size; simp; omega) _ 1 1 rfl [y] rfl (by simp) (has_row (heap_alloc_new wr _)) (by omega) ?_; intro p3 c3 w6 ho3 hg3 hl3)
            go_roundw
            case rel =>
              refine ⟨5 + 1, p3, c3, by omega, by go_num, rfl, ?_, own_grown (HO.out.alloc _) (kr.alloc _) (by rw [HR.out]; exact Nat.le_refl _) hg3⟩
              rw [HY.out, ← List.append_assoc, cells_append]
              exact ho3
            case measure => simp [intOf]
          · have hy : (bs.length : Int) * 8 / 256 % 256 = ((y.toNat : Nat) : Int) := by rw [ht]; simp <;> omega
            clear ht
            go_wp2_with (at_builtin; refine wpList_append_has rfl (.tmp 45) (.tmp 52) rfl R (.slice qo (ln + 6) qc) (ln + 6) (cells (M ++ (bytesOf (8 * bs.length) 8).take 6)) rfl (HO.out.alloc _) (by have := HR.out; have := kr.size; simp; omega) _ 1 1 rfl [y] rfl (by simp) (has_row (heap_alloc_new wr _)) (by omega) ?_; intro p3 c3 w6 ho3 hg3 hl3)
            go_roundw
            case rel =>
              refine ⟨6 + 1, p3, c3, by omega, by go_num, rfl, ?_, own_grown (HO.out.alloc _) (kr.alloc _) (by rw [HR.out]; exact Nat.le_refl _) hg3⟩
              rw [HY.out, ← List.append_assoc, cells_append]
              exact ho3
            case measure => simp [intOf]
          · have hy : (bs.length : Int) * 8 % 256 = ((y.toNat : Nat) : Int) := by rw [ht]; simp <;> omega
            clear ht
            go_wp2_with (at_builtin; refine wpList_append_has rfl (.tmp 45) (.tmp 52) rfl R (.slice qo (ln + 7) qc) (ln + 7) (cells (M ++ (bytesOf (8 * bs.length) 8).take 7)) rfl (HO.out.alloc _) (by have := HR.out; have := kr.size; simp; omega) _ 1 1 rfl [y] rfl (by simp) (has_row (heap_alloc_new wr _)) (by omega) ?_; intro p3 c3 w6 ho3 hg3 hl3)
            go_roundw
            case rel =>
              refine ⟨7 + 1, p3, c3, by omega, by go_num, rfl, ?_, own_grown (HO.out.alloc _) (kr.alloc _) (by rw [HR.out]; exact Nat.le_refl _) hg3⟩
              rw [HY.out, ← List.append_assoc, cells_append]
              exact ho3
            case measure => simp [intOf]
        · obtain rfl : j = 8 := by omega
          rw [List.take_of_length_le (by rw [bytesOf_length]; omega), ← HP.out] at ho
          obtain ⟨nb, hnb⟩ : ∃ nb, nb = (bs.length + 72) / 64 := ⟨_, rfl⟩
          have lP : (padded bs).length = 64 * nb := by rw [hnb]; exact padded_length bs
          have hL : ln + 8 = 64 * nb := by
            rw [← lP, HP.out, List.length_append, lM, bytesOf_length]
          have hnb2 : nb ≤ 40000 := by omega
          have HF : Hid (shaOf bs = out4 (h0.blocks (padded bs) nb).words) := by show _ = _; rw [hnb]; rfl
          have hD : ∃ D, qo = some ⟨D, 0, none⟩ ∧ R ≤ D ∧ D < wr.heap.size ∧ ∀ i (hi : i < (padded bs).length), wr.cell? ⟨D, i, none⟩ = some (.int .u8 ((padded bs)[i]).toNat) := by
            have hrow := ho.2
            rcases hrow with ⟨_, h⟩ | ⟨g, cap', cur, hv, hg, hh, _⟩
            · omega
            · injection hv with e1 e2 e3
              subst e1
              exact ⟨g, rfl, hg, lt_of_block hh, fun i hi => by rw [ho.cellAt i (by omega), cells_getElem _ i hi]⟩
          obtain ⟨D, rfl, hRD, hDw, hcell⟩ := hD
          rw [hL]
          have A3 := a3'.kept kr trivial
          have A2r := A2.kept kr trivial
          have K0r : Kept (fun _ => True) w wr := K03.trans kr
          have d3 : B3 < R := d2
          clear ho HP hL hnb lM a3' A2 K03 kr HR d2 hl hll hlj hj
          generalize padded bs = P at *
          obtain ⟨ks, HK, lk, lk', ok, bk⟩ := ks_any
          have cc : ∀ w0, Calls Try.prog 92 #[] w0 fun e w' => e = .returned (.agg (wcells ks).toArray) ∧ Kept (fun _ => True) w0 w' := fun w0 => by rw [HK.out]; exact rconst_any
          go_wp2_with (first
            | (go_at_call 92; refine Calls.mono (cc _) ?_; rintro e w6 ⟨rfl, k6⟩)
            | ((with_reducible refine w_alloc (d := some 7) arr64 ?_); intro w7 a7 k7 s7)
            | ((with_reducible apply w_store (x := .tmp 7) (b := w6.heap.size) (xs := wcells ks) (old := List.replicate 64 (.int .u32 0)) arr64); (case hx => rfl); (case hy => rfl); (case ha => exact a7); (case ho => simp); (case hl => exact lk'); (case h1 => exact ok); intro w8 a7' k8 s8))
          have q7 := s7.out
          have q8 := s8.out
          have z6 := k6.size
          have K8 : Kept (· ≠ w6.heap.size) wr w8 := ((k6.trans k7).mono (fun _ _ _ => trivial)).trans k8
          have A3x := A3.kept K8 (by omega)
          have A2x := A2r.kept K8 (by omega)
          have K08 : Kept (fun _ => True) w w8 := K0r.then K8 (fun i hi _ => by have := K0r.size; omega)
          have hcx : ∀ i (hi : i < P.length), w8.cell? ⟨D, i, none⟩ = some (.int .u8 (P[i]).toNat) := fun i hi => (kept_cell K8 hDw (by omega)).trans (hcell i hi)
          have d7 : B3 < w6.heap.size := by omega
          have d8 : w6.heap.size < w8.heap.size := by omega
          have dD : D < w8.heap.size := by omega
          have dD2 : B3 < D := by omega
          have HC : Hid (∀ i (hi : i < P.length), w8.cell? ⟨D, i, none⟩ = some (.int .u8 (P[i]).toNat)) := hcx
          clear q7 q8 z6 K8 A3 A2r K0r hcell hcx s7 s8 k6 k7 k8 a7 cc ok hDw hRD d3
          generalize w6.heap.size = B7 at *
          refine wp_tail (R := fun e w' => e = .returned (.agg (cells (shaOf bs)).toArray) ∧ Kept (fun _ => True) w w') (rsha_blocks lP hnb2 HK lk bk a7' A3x HC d7 d8 dD dD2 ?_) (fun _ _ h => h) (fun _ _ _ h => h) (fun _ _ h => h)
          intro u8 u9 u10 u11 u12 u13 u14 u15 u16 u17 u18 u19 u20 u21 u55 u56 u57 u58 u59 u60 u61 u62 u63 u64 u65 u66 u67 u68 u69 u70 u71 u72 u73 u74 u75 u76 u77 u78 u79 u80 u81 u82 u83 u84 u85 u86 u87 u88 u89 u90 u91 u92 u93 u94 u95 u96 u97 u98 u99 u100 u101 u102 u103 u104 u105 u106 u107 u108 u109 u110 u111 u112 u113 u114 u115 u116 u117 u118 u119 u120 u121 u122 u123 u124 u125 u126 u127 u128 u129 u130 u131 u132 u133 u134 u135 u136 u137 u138 u139 u140 u141 u142 u143 u144 u145 u146 u147 u148 u149 u150 u151 u152 u153 u154 u155 u156 u157 u158 u159 u160 u161 u162 u163 u164 u165 u166 u167 u168 u169 u170 u171 u172 u173 u174 u175 u176 u177 u178 u179 u180 u181 u182 u183 u184 u185 u186 u187 u188 u189 u190 u191 u192 u193 u194 u195 u196 u197 u198 u199 u200 u201 u202 u203 u204 u205 u206 u207 u208 u209 u210 u211 u212 u213 u214 u215 u216 u217 u218 u219 u220 u221 u222 u223 u224 u225 u226 u227 u228 u229 u230 u231 u232 u233 u234 u235 u236 u237 u238 u239 u240 u241 u242 u243 u244 u245 u246 u247 u248 u249 u250 u251 u252 u253 u254 u255 u256 u257 u258 u259 u260 u261 u262 u263 u264 u265 wr hx
          obtain ⟨ar, kr⟩ := hx.out
          clear hx A3x
          have A2y := A2x.kept kr (by omega)
          have K0y : Kept (fun _ => True) w wr := K08.then kr (fun i hi _ => by have := HB.out; omega)
          have uok : (h0.blocks P nb).ok := H8.blocks_ok _ _ _ (by unfold h0 H8.ok; decide)
          have zr := ar.lt
          generalize h0.blocks P nb = V at *
          clear a7' HC A2x K08 kr
          go_wp2_with ((with_reducible refine w_alloc (d := some 22) arr32 ?_); intro w9 a22 k9 s9)
          rw [zeros_b] at a22
          have AH := ar.kept k9 trivial
          have A2z := A2y.kept k9 trivial
          have K09 := K0y.trans k9
          have d9 : B3 < wr.heap.size := zr
          clear ar A2y K0y s9 zr k9
          generalize wr.heap.size = B22 at *
          obtain ⟨S, hS⟩ : ∃ S, S = shaOf bs := ⟨_, rfl⟩
          have HZ : Hid (S = shaOf bs) := hS
          have lS : S.length = 32 := by rw [hS, HF.out, out4_length]; rfl
          have gS : ∀ a r, a < 8 → r < 4 → S[4 * a + r]? = some (UInt8.ofNat (V.words.getD a 0 / 256 ^ (3 - r))) := fun a r ha hr => by rw [hS, HF.out]; exact out4_get V.words a r ha hr
          clear hS HF
          go_loopw [23] (fun t x => ∃ i : Nat, i ≤ 32 ∧ t = .int .i64 i ∧ Ar x B22 78 (cells (S.take i ++ List.replicate (32 - i) 0)) ∧ Kept (· ≠ B22) w9 x) (fun t _ => 32 - (intOf t).toNat)
          case atStart => exact ⟨0, by omega, rfl, a22, Kept.refl _ _⟩
          case round =>
            clear a22
            obtain ⟨i, hi, rfl, ax, kx⟩ := hrel
            by_cases hli : i < 32
            · obtain ⟨a, r, hi4, ha, hr⟩ : ∃ a r, i = 4 * a + r ∧ a < 8 ∧ r < 4 := ⟨i / 4, i % 4, by omega, by omega, by omega⟩
              have hil : (i : Int) < 32 := by omega
              have hi0 : (0 : Int) ≤ (i : Int) := by omega
              have i4 : (i : Int) / 4 = (a : Int) := by omega
              have m4 : (i : Int) % 4 = (r : Int) := by omega
              have i5 : Int.tdiv (i : Int) 4 = (a : Int) := by rw [Int.tdiv_eq_ediv_of_nonneg (by omega)]; exact i4
              have m5 : Int.tmod (i : Int) 4 = (r : Int) := by rw [Int.tmod_eq_emod_of_nonneg (by omega)]; exact m4
              have y0 := words_lt V uok a
              have hc1 : wr.cell? ⟨B3, a, none⟩ = some (.int .u32 (V.words.getD a 0 : Nat)) := by
                rw [getD_at V.words (by show a < 8; omega)]
                exact (AH.kept kx (by omega)).word a (by show a < 8; omega)
              have ll : (S.take i ++ List.replicate (32 - i) (0 : UInt8)).length = 32 := by simp [lS]; omega
              obtain ⟨yy, hc2⟩ : ∃ yy, wr.cell? ⟨B22, i, none⟩ = some yy := ⟨_, by rw [ax.cell i, cells_getElem _ i (by omega)]⟩
              have hf := ax.free i
              have hz := gS a r ha hr
              rw [← hi4] at hz
              generalize V.words.getD a 0 = y at *
              have HS : Hid (∀ z : UInt8, S[i]? = some z → Ar (wr.setCell ⟨B22, i, none⟩ (.int .u8 z.toNat)) B22 78 (cells (S.take (i + 1) ++ List.replicate (32 - (i + 1)) 0))) := fun z hz => by
                have h1 := ax.set i (.int .u8 z.toNat)
                obtain ⟨hb, rfl⟩ := List.getElem?_eq_some_iff.1 hz
                have lt : (S.take i).length = i := by simp; omega
                rw [cells_set, List.set_append_right _ _ (by omega), lt, Nat.sub_self, show 32 - i = (32 - (i + 1)) + 1 by omega, List.replicate_succ, List.set_cons_zero] at h1
                rw [List.take_succ_eq_append_getElem hb, List.append_assoc]
                exact h1
              have ha0 : (0 : Int) ≤ (a : Int) ∧ (a : Int) < 8 := by omega
              have HI : Hid (i = 4 * a + r) := hi4
              clear ax ll hi4 gS
              obtain rfl | rfl | rfl | rfl : r = 0 ∨ r = 1 ∨ r = 2 ∨ r = 3 := by omega
              · go_wp2
                go_roundw
                case rel =>
                  refine ⟨i + 1, by omega, by go_num, ?_, kx.setCell (by simp) _⟩
                  rw [byte_mod y (256 ^ (3 - 0)) ((y : Int) / 16777216) (by simp; omega)]
                  exact HS.out _ hz
                case measure => simp [intOf]; omega
              · go_wp2
                go_roundw
                case rel =>
                  refine ⟨i + 1, by omega, by go_num, ?_, kx.setCell (by simp) _⟩
                  rw [byte_mod y (256 ^ (3 - 1)) ((y : Int) / 65536 % 256) (by simp)]
                  exact HS.out _ hz
                case measure => simp [intOf]; omega
              · go_wp2
                go_roundw
                case rel =>
                  refine ⟨i + 1, by omega, by go_num, ?_, kx.setCell (by simp) _⟩
                  rw [byte_mod y (256 ^ (3 - 2)) ((y : Int) / 256 % 256) (by simp)]
                  exact HS.out _ hz
                case measure => simp [intOf]; omega
              · go_wp2
                go_roundw
                case rel =>
                  refine ⟨i + 1, by omega, by go_num, ?_, kx.setCell (by simp) _⟩
                  rw [byte_mod y (256 ^ (3 - 3)) ((y : Int) % 256) (by simp)]
                  exact HS.out _ hz
                case measure => simp [intOf]; omega
            · have hil : ¬ (i : Int) < 32 := by omega
              obtain rfl : i = 32 := by omega
              rw [List.take_of_length_le (by omega), Nat.sub_self, List.replicate_zero, List.append_nil] at ax
              have A2e := A2z.kept kx (by omega)
              obtain ⟨xs, hxs⟩ : ∃ xs, xs = cells S := ⟨_, rfl⟩
              have lx : xs.length = 32 := by rw [hxs, cells_length, lS]
              have ox : ∀ x ∈ xs, x.oneCell' = true := by rw [hxs]; exact cells_one _
              rw [← hxs] at ax
              have HX : Hid (xs = cells S) := hxs
              clear hxs gS AH
              go_wp2_with (first
                | ((with_reducible apply w_load (d := some 283) (b := B22) (xs := xs) arr32); (case hx => rfl); (case ha => exact ax); (case hl => exact lx))
                | ((with_reducible apply w_store (x := .tmp 2) (b := B2) (xs := xs) (old := List.replicate 32 (.int .u8 0)) arr32); (case hx => rfl); (case hy => rfl); (case ha => exact A2e); (case ho => simp); (case hl => exact lx); (case h1 => exact ox); intro w10 a10 k10 s10))
              refine bodyPost_ret (results_ar (p := 2) arr32 rfl _ _ rfl a10 lx) rfl ⟨by rw [HX.out, HZ.out], ?_⟩
              have hb2 := HB.out
              exact (K09.then kx (fun i hi _ => by omega)).then k10 (fun i hi _ => by omega)

end Go.Proofs.Ytmcaoimgmgjjiaa

namespace Go.Proofs.Ytmcaoimgmgjjiaa
open Go.RowKit

set_option maxRecDepth 100000 in
set_option maxHeartbeats 1000000 in
theorem rnext_any {w : World} (h t : List UInt8) (hl : h.length = 32) (ht : t.length ≤ 1500000) :
    Calls Try.prog 56 #[.agg (cells h).toArray, .string ⟨t.toArray⟩] w fun e w' => e = .returned (.agg (cells (nxt h t)).toArray) ∧ Kept (fun _ => True) w w' := by
  have ln : (cells (nxt h t)).length = 32 := by rw [cells_length, nxt_len]
  have on := cells_one (nxt h t)
  have hsl := slice_whole w.heap.size
  obtain ⟨xs, hxs⟩ : ∃ xs, xs = cells (nxt h t) := ⟨_, rfl⟩
  rw [← hxs] at ln on ⊢
  obtain ⟨s, hs⟩ : ∃ s : ByteArray, s = ⟨t.toArray⟩ := ⟨_, rfl⟩
  have hsz : s.size = t.length := by rw [hs]; simp [ByteArray.size]
  have hsd : s.data.toList = t := by rw [hs]
  have SH : ∀ (w0 : World) (ao : Option Addr) (cap : Nat), w0.ownsRow 0 5 1 (.slice ao (32 + s.size) cap) (32 + s.size) (cells h ++ cells s.data.toList) → Calls Try.prog 82 #[.slice ao (32 + s.size) cap] w0 fun e w' => e = .returned (.agg xs.toArray) ∧ Kept (fun _ => True) w0 w' := fun w0 ao cap h1 => by
    have hlen : (h ++ t).length = 32 + s.size := by rw [List.length_append, hl, hsz]
    have h2 : w0.ownsRow 0 5 1 (.slice ao (h ++ t).length cap) (h ++ t).length (cells (h ++ t)) := by
      rw [hlen, cells_append, ← hsd]
      exact h1
    obtain ⟨_, _, e0, hn, hh⟩ := own_sl h2
    injection e0 with e1 e2 e3
    subst e1 e3
    rw [hxs, ← hlen]
    exact rsha_any hh hn (by rw [hlen, hsz]; omega)
  have hb : s.size ≤ 1500100 := by omega
  rw [← hs]
  clear hxs hs hsz hsd ht
  go_enter Try.func56, Try.ntmps56
  go_wp2_with (first
    | ((with_reducible refine w_box (d := some 2) (cells h) ?hx ?hn); (case hx => rfl); intro w1 a2 k1 s1)
    | ((with_reducible refine w_alloc (d := some 4) arr32 ?_); intro w2 a4 k2 s2)
    | (at_builtin; refine wpList_append_has rfl (.tmp 5) (.tmp 6) rfl w2.heap.size (.slice (some ⟨w2.heap.size, 0, none⟩) 0 0) 0 [] rfl (own_new w2 _ (Nat.le_refl _)) (by simp) (some ⟨w.heap.size, 0, none⟩) 32 32 rfl h hl (by simp) (((a2.kept k2 trivial).full).kept ((Kept.refl (fun _ => True) w2).alloc _) (fun _ _ => trivial)) (by omega) ?_; intro p1 c1 w3 ho1 hg1 hl1; simp only [Nat.zero_add, List.nil_append] at ho1 hl1)
    | (at_builtin; refine wpList_append_str rfl (.tmp 7) (.tmp 8) rfl (.slice p1 32 c1) 32 (cells h) rfl (World.ownsRow.mono ho1 (Nat.zero_le _)) s rfl (by omega) ?_; intro p2 c2 w4 ho2 hg2 hat)
    | (go_at_call 82; (with_reducible refine Calls.mono (SH _ p2 c2 ho2) ?_); rintro e w5 ⟨rfl, k5⟩; have k3 : Kept (fun _ => True) w2 w3 := fresh_one hg1; have k4 : Kept (fun _ => True) w2 w4 := k3.grown hg2 (fun i hi e => by have := (World.ownsRow.lt ho1 i e).1; omega))
    | ((with_reducible apply w_store (x := .tmp 4) (b := w1.heap.size) (xs := xs) (old := List.replicate 32 (.int .u8 0)) arr32); (case hx => rfl); (case hy => rfl); (case ha => exact (a4.kept k4 trivial).kept k5 trivial); (case ho => simp); (case hl => exact ln); (case h1 => exact on); intro w6 a6 k6 s6))
  have q1 := s1.out
  have q2 := s2.out
  refine bodyPost_ret (results_ar (p := 4) arr32 rfl _ _ rfl a6 ln) rfl ⟨rfl, ?_⟩
  exact (((k1.trans k2).trans k4).trans k5).then k6 (fun i hi _ => by omega)

end Go.Proofs.Ytmcaoimgmgjjiaa
