/-
  The document's Prefix.
-/
import Derived.Test.YtflleblcliobdaaZ9
import Derived.Test.YtflleblcliobdaaMGz
namespace Go.Proofs.Ytflleblcliobdaa
open Go.RowKit

theorem pre_get {xs ys : List Li} (h : pre xs ys) (k : Nat) (h1 : k < xs.length) (h2 : k < ys.length) : xs[k] = ys[k] := by
  unfold pre at h
  have e1 : (xs.take (min xs.length ys.length))[k]? = some xs[k] := by rw [List.getElem?_take_of_lt (by omega), List.getElem?_eq_getElem h1]
  have e2 : (ys.take (min xs.length ys.length))[k]? = some ys[k] := by rw [List.getElem?_take_of_lt (by omega), List.getElem?_eq_getElem h2]
  rw [h, e2] at e1
  simpa using e1.symm
theorem pre_all {xs ys : List Li} (h : ∀ k (h1 : k < xs.length) (h2 : k < ys.length), xs[k] = ys[k]) : pre xs ys := by
  unfold pre
  refine List.ext_getElem? fun k => ?_
  by_cases hk : k < min xs.length ys.length
  · rw [List.getElem?_take_of_lt hk, List.getElem?_take_of_lt hk, List.getElem?_eq_getElem (by omega), List.getElem?_eq_getElem (by omega), h k (by omega) (by omega)]
  · rw [List.getElem?_eq_none (by simp; omega), List.getElem?_eq_none (by simp; omega)]

set_option maxRecDepth 100000 in
set_option maxHeartbeats 2000000 in
theorem rprefix_any {w : World} {a1 a2 : Option Addr} {c1 c2 : Nat} {xs ys : List Li} (h1 : Lv w a1 xs) (h2 : Lv w a2 ys) (n1 : xs.length ≤ 100000) (n2 : ys.length ≤ 100000) :
    Calls Try.prog 22 #[.slice a1 xs.length c1, .slice a2 ys.length c2] w fun e w' => ETells (pre xs ys) w e w' := by
  have V1 : Hid (Lv w a1 xs) := h1
  have V2 : Hid (Lv w a2 ys) := h2
  have hgd := guardR
  clear h1 h2
  go_enter Try.func22, Try.ntmps22
  by_cases hlt : ys.length < xs.length
  · have i2 : (ys.length : Int) < (xs.length : Int) := by omega
    go_wp2
    go_loopw [6] (fun t wr => ∃ i : Nat, i ≤ ys.length ∧ t = .int .i64 i ∧ (∀ j, j < i → ∀ (h1 : j < xs.length) (h2 : j < ys.length), xs[j] = ys[j]) ∧ Kept (fun _ => True) w wr) (fun t _ => ys.length - (intOf t).toNat)
    case atStart => exact ⟨0, Nat.zero_le _, rfl, fun j h => by omega, Kept.refl _ _⟩
    case round =>
      obtain ⟨i, hi, rfl, hall, kr⟩ := hrel
      have HL : Hid (∀ j, j < i → ∀ (h1 : j < xs.length) (h2 : j < ys.length), xs[j] = ys[j]) := hall
      clear hall
      by_cases hlt2 : i < ys.length
      · obtain ⟨b1, o1, rfl, hb1, hc1⟩ := V1.out.row (by omega)
        obtain ⟨b2, o2, rfl, hb2, hc2⟩ := V2.out.row (by omega)
        have hx : i < xs.length := by omega
        have hy : i < ys.length := by omega
        have HR1 : Hid (wr.rangeAt b1 (o1 + i * 33) (lcell xs[i])) := range_kept (hc1 i hx) kr hb1 trivial
        have HR2 : Hid (wr.rangeAt b2 (o2 + i * 33) (lcell ys[i])) := range_kept (hc2 i hy) kr hb2 trivial
        replace hb1 := Nat.lt_of_lt_of_le hb1 kr.size
        replace hb2 := Nat.lt_of_lt_of_le hb2 kr.size
        have i0 : (0 : Int) ≤ (i : Int) := by omega
        have i1 : (i : Int) < (xs.length : Int) := by omega
        have i3 : (i : Int) < (ys.length : Int) := by omega
        have KR : Hid (Kept (fun _ => True) w wr) := kr
        have he := fun (w0 : World) => eqR xs[i] ys[i] w0
        have hN : Hid ((xs[i].t == ys[i].t && xs[i].h == ys[i].h) = true ↔ xs[i] = ys[i]) := li_beq
        have ix : (Try.prog.info? 51).map (·.size) = some (lcell xs[i]).length := by rw [linkR.size, lcell_length]
        have iy : (Try.prog.info? 51).map (·.size) = some (lcell ys[i]).length := by rw [linkR.size, lcell_length]
        have HX : Hid (xs[i] = ys[i] → ∀ (h1 : i < xs.length) (h2 : i < ys.length), xs[i]'h1 = ys[i]'h2) := fun e _ _ => e
        have HZ : Hid (pre xs ys → xs[i] = ys[i]) := fun h => pre_get h i hx hy
        clear hc1 hc2 kr
        generalize xs[i] = x at *
        generalize ys[i] = y at *
        cases hq : (x.t == y.t && x.h == y.h)
        · have HQ : Hid (¬ x = y) := fun e => by have := hN.out.2 e; rw [hq] at this; cases this
          rw [hq] at he
          clear hq hx hy
          go_wp2
          refine Gz.begin (fun W => Kept (fun _ => True) wr W) (fun _ => false) (by kernel_rfl) ?_
          refine Gz.take (i := 0) (oi := { dst := some 20, op := Op.move (Operand.tmp 0), type := 38, pos := _, after := _, guard := none }) (v := ?_) rfl (by kernel_rfl) (by kernel_rfl) (by kernel_rfl) (by kernel_rfl) (fun _ _ _ h => h) (Or.inl ⟨by rfl, ?hy0⟩) (Kept.refl _ _).drew ?_
          case hy0 => (intro W hSw; (try dsimp only at hSw); go_simp; try with_reducible rfl)
          try simp only [Act.put, List.setIfInBounds_toArray, List.set_cons_zero, List.set_cons_succ]
          refine Gz.take (i := 1) (oi := { dst := some 21, op := Op.move (Operand.tmp 6), type := 3, pos := _, after := _, guard := none }) (v := ?_) rfl (by kernel_rfl) (by kernel_rfl) (by kernel_rfl) (by kernel_rfl) (fun _ _ _ h => h) (Or.inl ⟨by rfl, ?hy1⟩) (Kept.refl _ _).drew ?_
          case hy1 => (intro W hSw; (try dsimp only at hSw); go_simp; try with_reducible rfl)
          try simp only [Act.put, List.setIfInBounds_toArray, List.set_cons_zero, List.set_cons_succ]
          refine Gz.take (i := 2) (oi := { dst := some 22, op := Op.indexAddr 38 (Operand.tmp 20) (Operand.tmp 21), type := 0, pos := _, after := _, guard := none }) (v := ?_) rfl (by kernel_rfl) (by kernel_rfl) (by kernel_rfl) (by kernel_rfl) (fun _ _ _ h => h) (Or.inl ⟨by rfl, ?hy2⟩) (Kept.refl _ _).drew ?_
          case hy2 => (intro W hSw; (try dsimp only at hSw); go_simp; try with_reducible rfl)
          try simp only [Act.put, List.setIfInBounds_toArray, List.set_cons_zero, List.set_cons_succ]
          refine Gz.take (i := 3) (oi := { dst := some 23, op := Op.load 51 (Operand.tmp 22), type := 51, pos := _, after := _, guard := none }) (v := _) rfl (by kernel_rfl) (by kernel_rfl) (by kernel_rfl) (by kernel_rfl) (fun _ _ _ h => h) (yieldsIf_load_mid (by rfl) _ _ rfl (b1) (o1 + i * 33) rfl (lcell x) _ (fun W hW => range_kept HR1.out hW hb1 trivial) Try.underlying51 rfl (ix)) (Kept.refl _ _).drew ?_
          try simp only [Act.put, List.setIfInBounds_toArray, List.set_cons_zero, List.set_cons_succ]
          refine Gz.take (i := 4) (oi := { dst := some 24, op := Op.move (Operand.tmp 1), type := 38, pos := _, after := _, guard := none }) (v := ?_) rfl (by kernel_rfl) (by kernel_rfl) (by kernel_rfl) (by kernel_rfl) (fun _ _ _ h => h) (Or.inl ⟨by rfl, ?hy4⟩) (Kept.refl _ _).drew ?_
          case hy4 => (intro W hSw; (try dsimp only at hSw); go_simp; try with_reducible rfl)
          try simp only [Act.put, List.setIfInBounds_toArray, List.set_cons_zero, List.set_cons_succ]
          refine Gz.take (i := 5) (oi := { dst := some 25, op := Op.move (Operand.tmp 6), type := 3, pos := _, after := _, guard := none }) (v := ?_) rfl (by kernel_rfl) (by kernel_rfl) (by kernel_rfl) (by kernel_rfl) (fun _ _ _ h => h) (Or.inl ⟨by rfl, ?hy5⟩) (Kept.refl _ _).drew ?_
          case hy5 => (intro W hSw; (try dsimp only at hSw); go_simp; try with_reducible rfl)
          try simp only [Act.put, List.setIfInBounds_toArray, List.set_cons_zero, List.set_cons_succ]
          refine Gz.take (i := 6) (oi := { dst := some 26, op := Op.indexAddr 38 (Operand.tmp 24) (Operand.tmp 25), type := 0, pos := _, after := _, guard := none }) (v := ?_) rfl (by kernel_rfl) (by kernel_rfl) (by kernel_rfl) (by kernel_rfl) (fun _ _ _ h => h) (Or.inl ⟨by rfl, ?hy6⟩) (Kept.refl _ _).drew ?_
          case hy6 => (intro W hSw; (try dsimp only at hSw); go_simp; try with_reducible rfl)
          try simp only [Act.put, List.setIfInBounds_toArray, List.set_cons_zero, List.set_cons_succ]
          refine Gz.take (i := 7) (oi := { dst := some 27, op := Op.load 51 (Operand.tmp 26), type := 51, pos := _, after := _, guard := none }) (v := _) rfl (by kernel_rfl) (by kernel_rfl) (by kernel_rfl) (by kernel_rfl) (fun _ _ _ h => h) (yieldsIf_load_mid (by rfl) _ _ rfl (b2) (o2 + i * 33) rfl (lcell y) _ (fun W hW => range_kept HR2.out hW hb2 trivial) Try.underlying51 rfl (iy)) (Kept.refl _ _).drew ?_
          try simp only [Act.put, List.setIfInBounds_toArray, List.set_cons_zero, List.set_cons_succ]
          refine Gz.take (i := 8) (oi := { dst := some 28, op := Op.binOp BinOp.neq 51 (Operand.tmp 23) (Operand.tmp 27) 51, type := 4, pos := _, after := _, guard := none }) (v := ?_) rfl (by kernel_rfl) (by kernel_rfl) (by kernel_rfl) (by kernel_rfl) (fun _ _ _ h => h) (Or.inl ⟨by rfl, ?hy8⟩) (Kept.refl _ _).drew ?_
          case hy8 => (intro W hSw; (try dsimp only at hSw); go_simp; try with_reducible rfl)
          try simp only [Act.put, List.setIfInBounds_toArray, List.set_cons_zero, List.set_cons_succ]
          refine Gz.done (by kernel_rfl) ?_ _
          go_wp2_with fail
          go_ret
          exact ⟨false, rfl, ⟨fun h => (by cases h), fun h => absurd (HZ.out h) HQ.out⟩, KR.out.drew⟩
        · have HQ : Hid (x = y) := hN.out.1 hq
          rw [hq] at he
          clear hq hx hy
          go_wp2
          refine Gz.begin (fun W => Kept (fun _ => True) wr W) (fun _ => false) (by kernel_rfl) ?_
          refine Gz.take (i := 0) (oi := { dst := some 20, op := Op.move (Operand.tmp 0), type := 38, pos := _, after := _, guard := none }) (v := ?_) rfl (by kernel_rfl) (by kernel_rfl) (by kernel_rfl) (by kernel_rfl) (fun _ _ _ h => h) (Or.inl ⟨by rfl, ?hy0⟩) (Kept.refl _ _).drew ?_
          case hy0 => (intro W hSw; (try dsimp only at hSw); go_simp; try with_reducible rfl)
          try simp only [Act.put, List.setIfInBounds_toArray, List.set_cons_zero, List.set_cons_succ]
          refine Gz.take (i := 1) (oi := { dst := some 21, op := Op.move (Operand.tmp 6), type := 3, pos := _, after := _, guard := none }) (v := ?_) rfl (by kernel_rfl) (by kernel_rfl) (by kernel_rfl) (by kernel_rfl) (fun _ _ _ h => h) (Or.inl ⟨by rfl, ?hy1⟩) (Kept.refl _ _).drew ?_
          case hy1 => (intro W hSw; (try dsimp only at hSw); go_simp; try with_reducible rfl)
          try simp only [Act.put, List.setIfInBounds_toArray, List.set_cons_zero, List.set_cons_succ]
          refine Gz.take (i := 2) (oi := { dst := some 22, op := Op.indexAddr 38 (Operand.tmp 20) (Operand.tmp 21), type := 0, pos := _, after := _, guard := none }) (v := ?_) rfl (by kernel_rfl) (by kernel_rfl) (by kernel_rfl) (by kernel_rfl) (fun _ _ _ h => h) (Or.inl ⟨by rfl, ?hy2⟩) (Kept.refl _ _).drew ?_
          case hy2 => (intro W hSw; (try dsimp only at hSw); go_simp; try with_reducible rfl)
          try simp only [Act.put, List.setIfInBounds_toArray, List.set_cons_zero, List.set_cons_succ]
          refine Gz.take (i := 3) (oi := { dst := some 23, op := Op.load 51 (Operand.tmp 22), type := 51, pos := _, after := _, guard := none }) (v := _) rfl (by kernel_rfl) (by kernel_rfl) (by kernel_rfl) (by kernel_rfl) (fun _ _ _ h => h) (yieldsIf_load_mid (by rfl) _ _ rfl (b1) (o1 + i * 33) rfl (lcell x) _ (fun W hW => range_kept HR1.out hW hb1 trivial) Try.underlying51 rfl (ix)) (Kept.refl _ _).drew ?_
          try simp only [Act.put, List.setIfInBounds_toArray, List.set_cons_zero, List.set_cons_succ]
          refine Gz.take (i := 4) (oi := { dst := some 24, op := Op.move (Operand.tmp 1), type := 38, pos := _, after := _, guard := none }) (v := ?_) rfl (by kernel_rfl) (by kernel_rfl) (by kernel_rfl) (by kernel_rfl) (fun _ _ _ h => h) (Or.inl ⟨by rfl, ?hy4⟩) (Kept.refl _ _).drew ?_
          case hy4 => (intro W hSw; (try dsimp only at hSw); go_simp; try with_reducible rfl)
          try simp only [Act.put, List.setIfInBounds_toArray, List.set_cons_zero, List.set_cons_succ]
          refine Gz.take (i := 5) (oi := { dst := some 25, op := Op.move (Operand.tmp 6), type := 3, pos := _, after := _, guard := none }) (v := ?_) rfl (by kernel_rfl) (by kernel_rfl) (by kernel_rfl) (by kernel_rfl) (fun _ _ _ h => h) (Or.inl ⟨by rfl, ?hy5⟩) (Kept.refl _ _).drew ?_
          case hy5 => (intro W hSw; (try dsimp only at hSw); go_simp; try with_reducible rfl)
          try simp only [Act.put, List.setIfInBounds_toArray, List.set_cons_zero, List.set_cons_succ]
          refine Gz.take (i := 6) (oi := { dst := some 26, op := Op.indexAddr 38 (Operand.tmp 24) (Operand.tmp 25), type := 0, pos := _, after := _, guard := none }) (v := ?_) rfl (by kernel_rfl) (by kernel_rfl) (by kernel_rfl) (by kernel_rfl) (fun _ _ _ h => h) (Or.inl ⟨by rfl, ?hy6⟩) (Kept.refl _ _).drew ?_
          case hy6 => (intro W hSw; (try dsimp only at hSw); go_simp; try with_reducible rfl)
          try simp only [Act.put, List.setIfInBounds_toArray, List.set_cons_zero, List.set_cons_succ]
          refine Gz.take (i := 7) (oi := { dst := some 27, op := Op.load 51 (Operand.tmp 26), type := 51, pos := _, after := _, guard := none }) (v := _) rfl (by kernel_rfl) (by kernel_rfl) (by kernel_rfl) (by kernel_rfl) (fun _ _ _ h => h) (yieldsIf_load_mid (by rfl) _ _ rfl (b2) (o2 + i * 33) rfl (lcell y) _ (fun W hW => range_kept HR2.out hW hb2 trivial) Try.underlying51 rfl (iy)) (Kept.refl _ _).drew ?_
          try simp only [Act.put, List.setIfInBounds_toArray, List.set_cons_zero, List.set_cons_succ]
          refine Gz.take (i := 8) (oi := { dst := some 28, op := Op.binOp BinOp.neq 51 (Operand.tmp 23) (Operand.tmp 27) 51, type := 4, pos := _, after := _, guard := none }) (v := ?_) rfl (by kernel_rfl) (by kernel_rfl) (by kernel_rfl) (by kernel_rfl) (fun _ _ _ h => h) (Or.inl ⟨by rfl, ?hy8⟩) (Kept.refl _ _).drew ?_
          case hy8 => (intro W hSw; (try dsimp only at hSw); go_simp; try with_reducible rfl)
          try simp only [Act.put, List.setIfInBounds_toArray, List.set_cons_zero, List.set_cons_succ]
          refine Gz.done (by kernel_rfl) ?_ _
          go_wp2_with fail
          go_roundw
          case rel =>
            refine ⟨i + 1, by omega, by go_num, fun j hj h1 h2 => ?_, KR.out.drew⟩
            by_cases e : j = i
            · subst e; exact HX.out HQ.out h1 h2
            · exact HL.out j (by omega) h1 h2
          case measure => simp [intOf]; omega
      · have i1 : ¬ (i : Int) < (ys.length : Int) := by omega
        have hie : i = ys.length := by omega
        have HP : Hid (pre xs ys) := pre_all (fun k h1 h2 => HL.out k (by omega) h1 h2)
        clear HL
        subst hie
        go_wp2
        go_ret
        exact ⟨true, rfl, ⟨fun _ => HP.out, fun _ => rfl⟩, kr⟩
  · have i2 : ¬ (ys.length : Int) < (xs.length : Int) := by omega
    go_wp2
    go_loopw [6] (fun t wr => ∃ i : Nat, i ≤ xs.length ∧ t = .int .i64 i ∧ (∀ j, j < i → ∀ (h1 : j < xs.length) (h2 : j < ys.length), xs[j] = ys[j]) ∧ Kept (fun _ => True) w wr) (fun t _ => xs.length - (intOf t).toNat)
    case atStart => exact ⟨0, Nat.zero_le _, rfl, fun j h => by omega, Kept.refl _ _⟩
    case round =>
      obtain ⟨i, hi, rfl, hall, kr⟩ := hrel
      have HL : Hid (∀ j, j < i → ∀ (h1 : j < xs.length) (h2 : j < ys.length), xs[j] = ys[j]) := hall
      clear hall
      by_cases hlt2 : i < xs.length
      · obtain ⟨b1, o1, rfl, hb1, hc1⟩ := V1.out.row (by omega)
        obtain ⟨b2, o2, rfl, hb2, hc2⟩ := V2.out.row (by omega)
        have hx : i < xs.length := by omega
        have hy : i < ys.length := by omega
        have HR1 : Hid (wr.rangeAt b1 (o1 + i * 33) (lcell xs[i])) := range_kept (hc1 i hx) kr hb1 trivial
        have HR2 : Hid (wr.rangeAt b2 (o2 + i * 33) (lcell ys[i])) := range_kept (hc2 i hy) kr hb2 trivial
        replace hb1 := Nat.lt_of_lt_of_le hb1 kr.size
        replace hb2 := Nat.lt_of_lt_of_le hb2 kr.size
        have i0 : (0 : Int) ≤ (i : Int) := by omega
        have i1 : (i : Int) < (xs.length : Int) := by omega
        have i3 : (i : Int) < (ys.length : Int) := by omega
        have KR : Hid (Kept (fun _ => True) w wr) := kr
        have he := fun (w0 : World) => eqR xs[i] ys[i] w0
        have hN : Hid ((xs[i].t == ys[i].t && xs[i].h == ys[i].h) = true ↔ xs[i] = ys[i]) := li_beq
        have ix : (Try.prog.info? 51).map (·.size) = some (lcell xs[i]).length := by rw [linkR.size, lcell_length]
        have iy : (Try.prog.info? 51).map (·.size) = some (lcell ys[i]).length := by rw [linkR.size, lcell_length]
        have HX : Hid (xs[i] = ys[i] → ∀ (h1 : i < xs.length) (h2 : i < ys.length), xs[i]'h1 = ys[i]'h2) := fun e _ _ => e
        have HZ : Hid (pre xs ys → xs[i] = ys[i]) := fun h => pre_get h i hx hy
        clear hc1 hc2 kr
        generalize xs[i] = x at *
        generalize ys[i] = y at *
        cases hq : (x.t == y.t && x.h == y.h)
        · have HQ : Hid (¬ x = y) := fun e => by have := hN.out.2 e; rw [hq] at this; cases this
          rw [hq] at he
          clear hq hx hy
          go_wp2
          refine Gz.begin (fun W => Kept (fun _ => True) wr W) (fun _ => false) (by kernel_rfl) ?_
          refine Gz.take (i := 0) (oi := { dst := some 20, op := Op.move (Operand.tmp 0), type := 38, pos := _, after := _, guard := none }) (v := ?_) rfl (by kernel_rfl) (by kernel_rfl) (by kernel_rfl) (by kernel_rfl) (fun _ _ _ h => h) (Or.inl ⟨by rfl, ?hy0⟩) (Kept.refl _ _).drew ?_
          case hy0 => (intro W hSw; (try dsimp only at hSw); go_simp; try with_reducible rfl)
          try simp only [Act.put, List.setIfInBounds_toArray, List.set_cons_zero, List.set_cons_succ]
          refine Gz.take (i := 1) (oi := { dst := some 21, op := Op.move (Operand.tmp 6), type := 3, pos := _, after := _, guard := none }) (v := ?_) rfl (by kernel_rfl) (by kernel_rfl) (by kernel_rfl) (by kernel_rfl) (fun _ _ _ h => h) (Or.inl ⟨by rfl, ?hy1⟩) (Kept.refl _ _).drew ?_
          case hy1 => (intro W hSw; (try dsimp only at hSw); go_simp; try with_reducible rfl)
          try simp only [Act.put, List.setIfInBounds_toArray, List.set_cons_zero, List.set_cons_succ]
          refine Gz.take (i := 2) (oi := { dst := some 22, op := Op.indexAddr 38 (Operand.tmp 20) (Operand.tmp 21), type := 0, pos := _, after := _, guard := none }) (v := ?_) rfl (by kernel_rfl) (by kernel_rfl) (by kernel_rfl) (by kernel_rfl) (fun _ _ _ h => h) (Or.inl ⟨by rfl, ?hy2⟩) (Kept.refl _ _).drew ?_
          case hy2 => (intro W hSw; (try dsimp only at hSw); go_simp; try with_reducible rfl)
          try simp only [Act.put, List.setIfInBounds_toArray, List.set_cons_zero, List.set_cons_succ]
          refine Gz.take (i := 3) (oi := { dst := some 23, op := Op.load 51 (Operand.tmp 22), type := 51, pos := _, after := _, guard := none }) (v := _) rfl (by kernel_rfl) (by kernel_rfl) (by kernel_rfl) (by kernel_rfl) (fun _ _ _ h => h) (yieldsIf_load_mid (by rfl) _ _ rfl (b1) (o1 + i * 33) rfl (lcell x) _ (fun W hW => range_kept HR1.out hW hb1 trivial) Try.underlying51 rfl (ix)) (Kept.refl _ _).drew ?_
          try simp only [Act.put, List.setIfInBounds_toArray, List.set_cons_zero, List.set_cons_succ]
          refine Gz.take (i := 4) (oi := { dst := some 24, op := Op.move (Operand.tmp 1), type := 38, pos := _, after := _, guard := none }) (v := ?_) rfl (by kernel_rfl) (by kernel_rfl) (by kernel_rfl) (by kernel_rfl) (fun _ _ _ h => h) (Or.inl ⟨by rfl, ?hy4⟩) (Kept.refl _ _).drew ?_
          case hy4 => (intro W hSw; (try dsimp only at hSw); go_simp; try with_reducible rfl)
          try simp only [Act.put, List.setIfInBounds_toArray, List.set_cons_zero, List.set_cons_succ]
          refine Gz.take (i := 5) (oi := { dst := some 25, op := Op.move (Operand.tmp 6), type := 3, pos := _, after := _, guard := none }) (v := ?_) rfl (by kernel_rfl) (by kernel_rfl) (by kernel_rfl) (by kernel_rfl) (fun _ _ _ h => h) (Or.inl ⟨by rfl, ?hy5⟩) (Kept.refl _ _).drew ?_
          case hy5 => (intro W hSw; (try dsimp only at hSw); go_simp; try with_reducible rfl)
          try simp only [Act.put, List.setIfInBounds_toArray, List.set_cons_zero, List.set_cons_succ]
          refine Gz.take (i := 6) (oi := { dst := some 26, op := Op.indexAddr 38 (Operand.tmp 24) (Operand.tmp 25), type := 0, pos := _, after := _, guard := none }) (v := ?_) rfl (by kernel_rfl) (by kernel_rfl) (by kernel_rfl) (by kernel_rfl) (fun _ _ _ h => h) (Or.inl ⟨by rfl, ?hy6⟩) (Kept.refl _ _).drew ?_
          case hy6 => (intro W hSw; (try dsimp only at hSw); go_simp; try with_reducible rfl)
          try simp only [Act.put, List.setIfInBounds_toArray, List.set_cons_zero, List.set_cons_succ]
          refine Gz.take (i := 7) (oi := { dst := some 27, op := Op.load 51 (Operand.tmp 26), type := 51, pos := _, after := _, guard := none }) (v := _) rfl (by kernel_rfl) (by kernel_rfl) (by kernel_rfl) (by kernel_rfl) (fun _ _ _ h => h) (yieldsIf_load_mid (by rfl) _ _ rfl (b2) (o2 + i * 33) rfl (lcell y) _ (fun W hW => range_kept HR2.out hW hb2 trivial) Try.underlying51 rfl (iy)) (Kept.refl _ _).drew ?_
          try simp only [Act.put, List.setIfInBounds_toArray, List.set_cons_zero, List.set_cons_succ]
          refine Gz.take (i := 8) (oi := { dst := some 28, op := Op.binOp BinOp.neq 51 (Operand.tmp 23) (Operand.tmp 27) 51, type := 4, pos := _, after := _, guard := none }) (v := ?_) rfl (by kernel_rfl) (by kernel_rfl) (by kernel_rfl) (by kernel_rfl) (fun _ _ _ h => h) (Or.inl ⟨by rfl, ?hy8⟩) (Kept.refl _ _).drew ?_
          case hy8 => (intro W hSw; (try dsimp only at hSw); go_simp; try with_reducible rfl)
          try simp only [Act.put, List.setIfInBounds_toArray, List.set_cons_zero, List.set_cons_succ]
          refine Gz.done (by kernel_rfl) ?_ _
          go_wp2_with fail
          go_ret
          exact ⟨false, rfl, ⟨fun h => (by cases h), fun h => absurd (HZ.out h) HQ.out⟩, KR.out.drew⟩
        · have HQ : Hid (x = y) := hN.out.1 hq
          rw [hq] at he
          clear hq hx hy
          go_wp2
          refine Gz.begin (fun W => Kept (fun _ => True) wr W) (fun _ => false) (by kernel_rfl) ?_
          refine Gz.take (i := 0) (oi := { dst := some 20, op := Op.move (Operand.tmp 0), type := 38, pos := _, after := _, guard := none }) (v := ?_) rfl (by kernel_rfl) (by kernel_rfl) (by kernel_rfl) (by kernel_rfl) (fun _ _ _ h => h) (Or.inl ⟨by rfl, ?hy0⟩) (Kept.refl _ _).drew ?_
          case hy0 => (intro W hSw; (try dsimp only at hSw); go_simp; try with_reducible rfl)
          try simp only [Act.put, List.setIfInBounds_toArray, List.set_cons_zero, List.set_cons_succ]
          refine Gz.take (i := 1) (oi := { dst := some 21, op := Op.move (Operand.tmp 6), type := 3, pos := _, after := _, guard := none }) (v := ?_) rfl (by kernel_rfl) (by kernel_rfl) (by kernel_rfl) (by kernel_rfl) (fun _ _ _ h => h) (Or.inl ⟨by rfl, ?hy1⟩) (Kept.refl _ _).drew ?_
          case hy1 => (intro W hSw; (try dsimp only at hSw); go_simp; try with_reducible rfl)
          try simp only [Act.put, List.setIfInBounds_toArray, List.set_cons_zero, List.set_cons_succ]
          refine Gz.take (i := 2) (oi := { dst := some 22, op := Op.indexAddr 38 (Operand.tmp 20) (Operand.tmp 21), type := 0, pos := _, after := _, guard := none }) (v := ?_) rfl (by kernel_rfl) (by kernel_rfl) (by kernel_rfl) (by kernel_rfl) (fun _ _ _ h => h) (Or.inl ⟨by rfl, ?hy2⟩) (Kept.refl _ _).drew ?_
          case hy2 => (intro W hSw; (try dsimp only at hSw); go_simp; try with_reducible rfl)
          try simp only [Act.put, List.setIfInBounds_toArray, List.set_cons_zero, List.set_cons_succ]
          refine Gz.take (i := 3) (oi := { dst := some 23, op := Op.load 51 (Operand.tmp 22), type := 51, pos := _, after := _, guard := none }) (v := _) rfl (by kernel_rfl) (by kernel_rfl) (by kernel_rfl) (by kernel_rfl) (fun _ _ _ h => h) (yieldsIf_load_mid (by rfl) _ _ rfl (b1) (o1 + i * 33) rfl (lcell x) _ (fun W hW => range_kept HR1.out hW hb1 trivial) Try.underlying51 rfl (ix)) (Kept.refl _ _).drew ?_
          try simp only [Act.put, List.setIfInBounds_toArray, List.set_cons_zero, List.set_cons_succ]
          refine Gz.take (i := 4) (oi := { dst := some 24, op := Op.move (Operand.tmp 1), type := 38, pos := _, after := _, guard := none }) (v := ?_) rfl (by kernel_rfl) (by kernel_rfl) (by kernel_rfl) (by kernel_rfl) (fun _ _ _ h => h) (Or.inl ⟨by rfl, ?hy4⟩) (Kept.refl _ _).drew ?_
          case hy4 => (intro W hSw; (try dsimp only at hSw); go_simp; try with_reducible rfl)
          try simp only [Act.put, List.setIfInBounds_toArray, List.set_cons_zero, List.set_cons_succ]
          refine Gz.take (i := 5) (oi := { dst := some 25, op := Op.move (Operand.tmp 6), type := 3, pos := _, after := _, guard := none }) (v := ?_) rfl (by kernel_rfl) (by kernel_rfl) (by kernel_rfl) (by kernel_rfl) (fun _ _ _ h => h) (Or.inl ⟨by rfl, ?hy5⟩) (Kept.refl _ _).drew ?_
          case hy5 => (intro W hSw; (try dsimp only at hSw); go_simp; try with_reducible rfl)
          try simp only [Act.put, List.setIfInBounds_toArray, List.set_cons_zero, List.set_cons_succ]
          refine Gz.take (i := 6) (oi := { dst := some 26, op := Op.indexAddr 38 (Operand.tmp 24) (Operand.tmp 25), type := 0, pos := _, after := _, guard := none }) (v := ?_) rfl (by kernel_rfl) (by kernel_rfl) (by kernel_rfl) (by kernel_rfl) (fun _ _ _ h => h) (Or.inl ⟨by rfl, ?hy6⟩) (Kept.refl _ _).drew ?_
          case hy6 => (intro W hSw; (try dsimp only at hSw); go_simp; try with_reducible rfl)
          try simp only [Act.put, List.setIfInBounds_toArray, List.set_cons_zero, List.set_cons_succ]
          refine Gz.take (i := 7) (oi := { dst := some 27, op := Op.load 51 (Operand.tmp 26), type := 51, pos := _, after := _, guard := none }) (v := _) rfl (by kernel_rfl) (by kernel_rfl) (by kernel_rfl) (by kernel_rfl) (fun _ _ _ h => h) (yieldsIf_load_mid (by rfl) _ _ rfl (b2) (o2 + i * 33) rfl (lcell y) _ (fun W hW => range_kept HR2.out hW hb2 trivial) Try.underlying51 rfl (iy)) (Kept.refl _ _).drew ?_
          try simp only [Act.put, List.setIfInBounds_toArray, List.set_cons_zero, List.set_cons_succ]
          refine Gz.take (i := 8) (oi := { dst := some 28, op := Op.binOp BinOp.neq 51 (Operand.tmp 23) (Operand.tmp 27) 51, type := 4, pos := _, after := _, guard := none }) (v := ?_) rfl (by kernel_rfl) (by kernel_rfl) (by kernel_rfl) (by kernel_rfl) (fun _ _ _ h => h) (Or.inl ⟨by rfl, ?hy8⟩) (Kept.refl _ _).drew ?_
          case hy8 => (intro W hSw; (try dsimp only at hSw); go_simp; try with_reducible rfl)
          try simp only [Act.put, List.setIfInBounds_toArray, List.set_cons_zero, List.set_cons_succ]
          refine Gz.done (by kernel_rfl) ?_ _
          go_wp2_with fail
          go_roundw
          case rel =>
            refine ⟨i + 1, by omega, by go_num, fun j hj h1 h2 => ?_, KR.out.drew⟩
            by_cases e : j = i
            · subst e; exact HX.out HQ.out h1 h2
            · exact HL.out j (by omega) h1 h2
          case measure => simp [intOf]; omega
      · have i1 : ¬ (i : Int) < (xs.length : Int) := by omega
        have hie : i = xs.length := by omega
        have HP : Hid (pre xs ys) := pre_all (fun k h1 h2 => HL.out k (by omega) h1 h2)
        clear HL
        subst hie
        go_wp2
        go_ret
        exact ⟨true, rfl, ⟨fun _ => HP.out, fun _ => rfl⟩, kr⟩

end Go.Proofs.Ytflleblcliobdaa
