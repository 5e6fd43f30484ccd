/-
  The walk of WireKept: it answers true, and turns nothing that was there.
-/
import Derived.Test.YtlkkmggopoknaaaSl
import Derived.Test.YtlkkmggopoknaaaParts
namespace Go.Proofs.Ytlkkmggopoknaaa
open Go.RowKit

attribute [local go_sem ↓] Go.wp_at_zero Go.wp_at_succ

/-- All of a row are bytes. -/
def U8s (xs : List Value) : Prop := ∀ j (h : j < xs.length), ∃ z, xs[j] = .int .u8 z
theorem U8s.cells (bs : List UInt8) : U8s (cells bs) := fun j h => ⟨((bs[j]'(by simpa [Proofs.Ytlkkmggopoknaaa.cells] using h)).toNat : Int), by simp [Proofs.Ytlkkmggopoknaaa.cells]⟩
theorem U8s.set {xs : List Value} (h : U8s xs) (k : Nat) (z : Int) : U8s (xs.set k (.int .u8 z)) := by
  intro j hj
  rw [List.getElem_set]
  split
  · exact ⟨z, rfl⟩
  · exact h j (by simpa using hj)

theorem num_one (bs : List UInt8) (k : Nat) (h : k < bs.length) : (⟨k, 0⟩ : RS).num bs 1 = ((bs[k]).toNat, ⟨k + 1, 0⟩) := by
  unfold RS.num
  rw [if_pos rfl, if_pos (show k + 1 ≤ bs.length from h)]
  have e : (bs.drop k).take 1 = [bs[k]] := by
    have := take_drop_snoc bs k 0 (by omega)
    simpa using this
  simp only [e]
  simp [be]

set_option maxRecDepth 100000 in
set_option maxHeartbeats 8000000 in
theorem kept_any {w : World} {ao : Option Addr} {cap : Nat} {bs : List UInt8} (hs : Sl w (.slice ao bs.length cap) bs) (hb : bs.length ≤ 140737488351232) :
    Calls Try.prog 7 #[.slice ao bs.length cap] w fun e w' => e = .returned (.bool true) ∧ Kept (fun _ => True) w w' := by
  have HS : Hid (∀ W, Kept (fun _ => True) w W → Sl W (.slice ao bs.length cap) bs) := fun W hW => hs.kept hW (fun _ _ => trivial)
  have HN : Hid (ao = none → cap = 0) := by obtain ⟨ao', cap', e, hn, _⟩ := hs; cases e; exact hn
  have HH : Hid (∀ W, Kept (fun _ => True) w W → Has W ao bs) := fun W hW => by obtain ⟨ao', cap', e, hn, hh⟩ := HS.out W hW; cases e; exact hh
  have hZ : Hid ((⟨bs.toArray⟩ : ByteArray).size = bs.length) := by show _ = _; rfl
  obtain ⟨TB, hTB⟩ : ∃ T, T = [] ++ enc (u64 (⟨bs.toArray⟩ : ByteArray).size) 4 ++ (⟨bs.toArray⟩ : ByteArray).data.toList := ⟨_, rfl⟩
  have HTB : Hid ([] ++ enc (u64 (⟨bs.toArray⟩ : ByteArray).size) 4 ++ (⟨bs.toArray⟩ : ByteArray).data.toList = TB) := hTB.symm
  have lT0 : TB.length = 4 + bs.length := by rw [hTB]; simp [enc_length]
  have lTB : TB.length ≤ 4 + bs.length := by omega
  clear hs hTB lT0
  go_enter Try.func7, Try.ntmps7
  go_wp2_with fail
  refine Calls.mono newWriter_any ?_
  rintro e w1 ⟨rfl, hw, k1, s1⟩
  go_wp2_with (at_builtin; refine wpList_append_has rfl (.tmp 14) (.tmp 15) rfl w1.heap.size (.slice (some ⟨w1.heap.size, 0, none⟩) 0 0) 0 [] rfl (own_new w1 _ (Nat.le_refl _)) (by simp) ao bs.length cap rfl bs rfl HN.out (HH.out _ (k1.alloc _)) (by omega) ?_; intro a1 c1 w2 ho1 hg1 hl1; simp only [Nat.zero_add, List.nil_append] at ho1; have k12 := fresh_one hg1; have hcv := conv_sl (HS.out w2 (k1.trans k12)))
  have hw2 := hw.kept k12 trivial (fun _ _ => trivial)
  have k02 := k1.trans k12
  have ho2 : w2.ownsRow w1.heap.size 5 1 (.slice a1 bs.length c1) bs.length (cells bs) := ho1
  have s2 := k12.size
  clear hw k1 k12 hcv hg1 hl1 ho1
  refine Calls.mono (wtext_any ⟨bs.toArray⟩ hw2 (by rw [hZ.out]; simp; omega)) ?_
  rw [HTB.out]
  rintro e w3 ⟨rfl, G3, v3, hw3, k3, n3⟩
  have g3 : ∀ x, G3 = some x → w2.heap.size ≤ x := fun x hx => by rcases n3 x hx with h | h; cases h; exact h
  have mb : ∀ k, (Value.slice a1 bs.length c1).ownBlock = some k → w1.heap.size ≤ k ∧ k < w2.heap.size := fun k hk => ho2.lt k hk
  have ho3 := own_kept ho2 k3 (fun k hk => ⟨by have := mb k hk; omega, by simp⟩)
  have k03 : Kept (fun _ => True) w w3 := k02.then k3 (fun i hi _ => ⟨by omega, by simp⟩)
  have s3 := k3.size
  clear hw2 ho2 k02 k3 n3
  go_wp2_with fail
  refine Calls.mono (done_any hw3 (by omega)) ?_
  rintro e w4 ⟨D, rfl, hD, k4, hD0⟩
  have hw4 := hw3.kept k4 trivial (fun _ _ => trivial)
  have ho4 := own_kept ho3 k4 (fun _ _ => trivial)
  have k04 := k03.trans k4
  have l4 := hw3.rowlt
  have s4 := k4.size
  have hxo : w4.ownsRow 0 5 1 (.slice (some ⟨D, 0, none⟩) TB.length TB.length) TB.length (cells TB) := ⟨by simp [cells_length], .inr ⟨D, TB.length, (cells TB).toArray, rfl, Nat.zero_le _, hD, Nat.le_refl _, by unfold maxLen; omega, by simp [cells_length], by simp [cells_length, List.take_of_length_le]⟩⟩
  clear hw3 ho3 k03 k4 hD
  have lTB' : (TB.length : Int) ≤ 140737488355328 := by omega
  go_wp2
  go_loopw [6] (fun t wr => ∃ (k : Nat) (xs : List Value), k ≤ TB.length ∧ t = .int .i64 k ∧ wr.ownsRow 0 5 1 (.slice (some ⟨D, 0, none⟩) TB.length TB.length) TB.length xs ∧ U8s xs ∧ Kept (· ≠ D) w4 wr) (fun t _ => TB.length - (intOf t).toNat)
  case atStart => exact ⟨0, cells TB, Nat.zero_le _, rfl, hxo, U8s.cells TB, Kept.refl _ _⟩
  case round =>
    obtain ⟨k, xs, hk, rfl, hx, hu, kr⟩ := hrel
    have lx : xs.length = TB.length := by simpa using hx.1
    by_cases hlt : k < TB.length
    · obtain ⟨z, hz⟩ := hu k (by omega)
      have hc : wr.cell? ⟨D, k, none⟩ = some (.int .u8 z) := by rw [hx.cellAt k (by omega), List.getElem?_eq_getElem (by omega), hz]
      have hf := hx.frozenAt k
      have hkl : (k : Int) < (TB.length : Int) := by omega
      have HX : Hid (∀ y, (wr.setCell ⟨D, k, none⟩ (.int .u8 y)).ownsRow 0 5 1 (.slice (some ⟨D, 0, none⟩) TB.length TB.length) TB.length (xs.set k (.int .u8 y)) ∧ U8s (xs.set k (.int .u8 y))) := fun y => ⟨(hx.stored k _).1, hu.set k y⟩
      clear hx hu lx hz
      go_wp2
      go_roundw
      case rel => exact ⟨k + 1, _, by omega, by go_num, (HX.out _).1, (HX.out _).2, kr.setCell (by simp) _⟩
      case measure => simp [intOf]; omega
    · have hkl : ¬ ((k : Int) < (TB.length : Int)) := by omega
      have hw5 := hw4.kept kr (by omega) (fun x hx => by have := l4 x hx; omega)
      have ho5 := own_kept ho4 kr (fun x hx => by have := mb x hx; omega)
      have k05 : Kept (fun _ => True) w wr := k04.then kr (fun i hi _ => by omega)
      clear hx hu hxo hw4 ho4 k04 lx
      go_wp2_with fail
      refine Calls.mono (newReader_any (by omega) (own_has ho5)) ?_
      rintro e w6 ⟨B, R, rfl, hr, k6, hB, hR⟩
      have hw6 := hw5.kept k6 trivial (fun _ _ => trivial)
      have ho6 := own_kept ho5 k6 (fun _ _ => trivial)
      have k06 := k05.trans k6
      have s5 := kr.size
      clear hw5 ho5 k05 k6 kr
      have hBl := hr.lt
      have hRl := hr.rowlt
      go_wp2
      go_loopw [8] (fun t wr => ∃ (k : Nat) (xs : List Value), k ≤ bs.length ∧ t = .int .i64 k ∧ wr.ownsRow w1.heap.size 5 1 (.slice a1 bs.length c1) bs.length xs ∧ U8s xs ∧ Kept (fun x => (Value.slice a1 bs.length c1).ownBlock ≠ some x) w6 wr) (fun t _ => bs.length - (intOf t).toNat)
      case atStart => exact ⟨0, cells bs, Nat.zero_le _, rfl, ho6, U8s.cells bs, Kept.refl _ _⟩
      case round =>
        obtain ⟨k, xs, hk, rfl, hx, hu, kr⟩ := hrel
        have lx : xs.length = bs.length := by simpa using hx.1
        by_cases hlt : k < bs.length
        · obtain ⟨g, c', e, _, _⟩ := hx.form (by omega)
          obtain rfl : a1 = some ⟨g, 0, none⟩ := by cases e; rfl
          obtain ⟨z, hz⟩ := hu k (by omega)
          have hc : wr.cell? ⟨g, k, none⟩ = some (.int .u8 z) := by rw [hx.cellAt k (by omega), List.getElem?_eq_getElem (by omega), hz]
          have hf := hx.frozenAt k
          have hkl : (k : Int) < (bs.length : Int) := by omega
          have HX : Hid (∀ y, (wr.setCell ⟨g, k, none⟩ (.int .u8 y)).ownsRow w1.heap.size 5 1 (.slice (some ⟨g, 0, none⟩) bs.length c1) bs.length (xs.set k (.int .u8 y)) ∧ U8s (xs.set k (.int .u8 y)) ∧ Kept (fun x => (Value.slice (some ⟨g, 0, none⟩) bs.length c1).ownBlock ≠ some x) w6 (wr.setCell ⟨g, k, none⟩ (.int .u8 y))) := fun y => ⟨(hx.stored k _).1, hu.set k y, kr.setCell (by simp [Value.ownBlock]) _⟩
          clear hx hu lx hz ho6 kr
          go_wp2
          go_roundw
          case rel => exact ⟨k + 1, _, by omega, by go_num, (HX.out _).1, (HX.out _).2.1, (HX.out _).2.2⟩
          case measure => simp [intOf]; omega
        · have hkl : ¬ ((k : Int) < (bs.length : Int)) := by omega
          have hr7 := hr.kept kr (fun h => by have := mb _ h; omega) (fun h => by have := mb _ h; omega)
          have hw7 := hw6.kept kr (fun h => by have := mb _ h; omega) (fun x hx h => by have := mb _ h; have := g3 x hx; omega)
          have k07 : Kept (fun _ => True) w wr := k06.then kr (fun i hi _ h => by have := mb _ h; omega)
          have s7 := kr.size
          clear hx hu lx ho6 hr hw6 k06 kr
          go_wp2
          go_loopw [9, 10] (fun n t wv => ∃ k : Nat, k ≤ bs.length ∧ n = .int .i64 k ∧ t = .int .i64 k ∧ Rs wv B R bs bs.length ⟨k, 0⟩ ∧ Wr wv w.heap.size G3 v3 TB ∧ Kept (fun _ => True) w wv) (fun _ t _ => bs.length - (intOf t).toNat)
          case atStart => exact ⟨0, Nat.zero_le _, rfl, rfl, hr7, hw7, k07⟩
          case round =>
            clear hr7 hw7 k07
            obtain ⟨k, hk, rfl, rfl, hr, hw, k0v⟩ := hrel
            by_cases hlt : k < bs.length
            · obtain ⟨b, off, rfl, hbl, hcb⟩ := (HS.out w (Kept.refl _ _)).plain (by omega)
              have c1 := hcb k hlt
              have n1 := num_one bs k hlt
              have hy0 : (0 : Int) ≤ ((bs[k]).toNat : Int) := by omega
              have hy1 : ((bs[k]).toNat : Int) < 256 := by have := (bs[k]).toNat_lt; omega
              generalize (bs[k]).toNat = y at *
              have f1 : IntKind.i64.wrap (y : Int) = (y : Int) := by simp [IntKind.wrap, IntKind.bits, IntKind.signed]; omega
              have hcw : ∀ W, Kept (fun _ => True) w W → W.cell? ⟨b, off + k, none⟩ = some (.int .u8 y) := fun W hW => (hW.cell hbl trivial).trans c1
              have HN1 : Hid ((⟨k, 0⟩ : RS).num bs 1 = (y, ⟨k + 1, 0⟩)) := n1
              have hkl : (k : Int) < (bs.length : Int) := by omega
              have hk0 : (0 : Int) ≤ (k : Int) := by omega
              have hrd := hr.drewK
              have hwd := hw.kept (Kept.refl (fun _ => True) wr).drew trivial (fun _ _ => trivial)
              have k0d := k0v.drew
              clear hcb c1 n1 hr hw k0v
              go_wp2
              go_region_held3 (fun w' => Kept (fun _ => True) w w') (assumption)
                ((go_at_call 15; refine Calls.mono (byte_any hrd) ?_; rw [HN1.out]; rintro e u1 ⟨rfl, hr1, m1⟩; have q1 : Kept (fun _ => True) w u1 := k0d.then m1 (fun i hi _ => by omega)))
              go_wp2
              go_roundw
              case rel => exact ⟨k + 1, by omega, by go_num, by go_num, hr1, hwd.kept m1 (by omega) (fun x hx => by have := l4 x hx; omega), q1⟩
              case measure => simp [intOf]; omega
            · have hkl : ¬ ((k : Int) < (bs.length : Int)) := by omega
              obtain rfl : k = bs.length := by omega
              have HW : Hid (∀ W, Kept (fun _ => True) wr W → Wr W w.heap.size G3 v3 TB) := fun W hW => hw.kept hW trivial (fun _ _ => trivial)
              have HC : Hid (∀ W, Kept (fun _ => True) wr W → Sl W (.slice ao bs.length cap) bs) := fun W hW => HS.out W (k0v.trans hW)
              have hcd := conv_sl (HC.out wr.drew (Kept.refl _ _).drew)
              have lTC : Hid ((TB.length : Int) ≤ 140737488355328) := lTB'
              have hZ' : Hid (0 + 4 + (⟨bs.toArray⟩ : ByteArray).size ≤ 140737488355328) := by show _ ≤ _; rw [hZ.out]; omega
              clear hr hw
              go_wp2
              go_region_with (first
                | (go_at_call 17; refine Calls.mono (done_any (HW.out _ (by first | exact (Kept.refl _ _).drew | assumption)) lTC.out) ?_; rintro e x2 ⟨D2, rfl, hD2, j2, _⟩; have hcv := conv_row (cap := TB.length) hD2; have q2 : Kept (fun _ => True) wr x2 := Kept.trans (by first | assumption | exact (Kept.refl _ _).drew) j2; have hcb2 := conv_sl (HC.out x2 q2))
                | (go_at_call 36; refine Calls.mono (rtext_any (bs := []) ⟨bs.toArray⟩ ⟨none, 0, rfl, fun _ => rfl, by intro h; simp at h⟩ hZ'.out) ?_; rw [HTB.out]; rintro e x3 ⟨r, rfl, hr3, j3⟩; have hcv3 := conv_own hr3; have q3 : Kept (fun _ => True) wr x3 := Kept.trans (by assumption) j3; have hcvk := conv_row (cap := TB.length) ((j3.block D2 (lt_of_block hD2) trivial).trans hD2))
                | (go_at_call 18; refine Calls.mono (known_any _) ?_; rintro e x4 ⟨rfl, j4⟩; have q4 : Kept (fun _ => True) wr x4 := Kept.trans (by assumption) j4))
              all_goals
                go_wp2
                go_ret
                exact ⟨rfl, k0v.trans (by assumption)⟩

end Go.Proofs.Ytlkkmggopoknaaa
