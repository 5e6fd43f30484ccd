/-
  Two links held against one another; slices.Equal and Prefix, the program's and the document's.
-/
import Derived.Test.YtflleblcliobdaaZ3
import Derived.Test.YtflleblcliobdaaVOrd
namespace Go.Proofs.Ytflleblcliobdaa
open Go.RowKit

theorem part_text (x : Li) (w0 : World) : (part 9 (lcell x).toArray 0).run Try.prog w0 = .ok (.string ⟨x.t.toArray⟩) w0 := by
  simp [part, isAgg, run_underlying Try.underlying9, lcell]
theorem part_head (x : Li) (w0 : World) : (part 25 (lcell x).toArray 1).run Try.prog w0 = .ok (.agg (cells x.h).toArray) w0 := by
  have hs : (sizeOf 25).run Try.prog w0 = .ok 32 w0 := by
    cases hq : Try.prog.info? 25 with
    | none => have h := arr32.size; simp [hq] at h
    | some i => have h := arr32.size; simp [hq] at h; simp [sizeOf, typeInfo, hq, h]
  simp [part, isAgg, run_underlying Try.underlying25]
  rw [show (lcell x).tail = cells x.h from rfl, List.take_of_length_le (by rw [cells_length, x.len]; exact Nat.le_refl _)]
theorem eq32d (xs ys : List UInt8) (hx : xs.length = 32) (hy : ys.length = 32) (w0 : World) : (Op.equalIn 9999 25 (.agg (cells xs).toArray) (.agg (cells ys).toArray)).run Try.prog w0 = .ok (xs == ys) w0 := by
  have hz : ∀ w, (sizeOf 5).run Try.prog w = .ok 1 w := fun w => by have := size_u8 w; rwa [Try.elemBytes] at this
  exact run_equalIn_bytes (P := Try.prog) w0 9997 25 5 32 Try.underlying25 Try.underlying5 hz xs ys hx hy
theorem bytes_beq (a b : List UInt8) : ((⟨a.toArray⟩ : ByteArray).toList == (⟨b.toArray⟩ : ByteArray).toList) = (a == b) := by
  rw [ByteArray.toList_eq, ByteArray.toList_eq]
set_option maxRecDepth 100000 in
theorem eqP (x y : Li) (w0 : World) : (Op.equalIn 10000 27 (.agg (lcell x).toArray) (.agg (lcell y).toArray)).run Try.prog w0 = .ok (x.t == y.t && x.h == y.h) w0 := by
  have hf : Try.prog.fieldsOf 27 = (match Try.prog.underlying 27 with | some (.struct fs) => fs | _ => #[]) := rfl
  rw [Try.underlying27] at hf
  rw [run_equalIn_struct (P := Try.prog) w0 9999 27 _ _ (by kernel_rfl) (by kernel_rfl), hf]
  have h1 := run_equalIn_string (P := Try.prog) w0 9998 9 ⟨x.t.toArray⟩ ⟨y.t.toArray⟩ Try.underlying9
  rw [bytes_beq] at h1
  simp [Op.eqFields, part_text, part_head, h1, eq32d x.h y.h x.len y.len]
  cases hb : (x.t == y.t) <;> cases hc : (x.h == y.h) <;> simp_all
set_option maxRecDepth 100000 in
theorem eqR (x y : Li) (w0 : World) : (Op.equalIn 10000 51 (.agg (lcell x).toArray) (.agg (lcell y).toArray)).run Try.prog w0 = .ok (x.t == y.t && x.h == y.h) w0 := by
  have hf : Try.prog.fieldsOf 51 = (match Try.prog.underlying 51 with | some (.struct fs) => fs | _ => #[]) := rfl
  rw [Try.underlying51] at hf
  rw [run_equalIn_struct (P := Try.prog) w0 9999 51 _ _ (by kernel_rfl) (by kernel_rfl), hf]
  have h1 := run_equalIn_string (P := Try.prog) w0 9998 9 ⟨x.t.toArray⟩ ⟨y.t.toArray⟩ Try.underlying9
  rw [bytes_beq] at h1
  simp [Op.eqFields, part_text, part_head, h1, eq32d x.h y.h x.len y.len]
  cases hb : (x.t == y.t) <;> cases hc : (x.h == y.h) <;> simp_all
theorem guardP : Try.prog.eqGuardType Try.prog.depth 27 = false := by kernel_rfl
theorem guardR : Try.prog.eqGuardType Try.prog.depth 51 = false := by kernel_rfl
theorem li_beq {x y : Li} : (x.t == y.t && x.h == y.h) = true ↔ x = y := by
  rw [Bool.and_eq_true, beq_iff_eq, beq_iff_eq]
  exact ⟨fun h => Li.ext' h.1 h.2, fun h => by rw [h]; exact ⟨rfl, rfl⟩⟩
theorem drew_succ (w : World) (m : Nat) : (w.drewN m).drew = w.drewN (m + 1) := by
  simp [World.drewN, World.drew, Nat.add_assoc]
/-- Whether they are alike. -/
def ESameL (A : Prop) (w : World) (e : Ending) (w' : World) : Prop := ∃ b : Bool, e = .returned (.bool b) ∧ (b = true ↔ A) ∧ ∃ m, w' = w.drewN m

set_option maxRecDepth 100000 in
set_option maxHeartbeats 2000000 in
theorem equalL_any {w : World} {a1 a2 : Option Addr} {c1 c2 : Nat} {xs ys : List Li} (h1 : Lv w a1 xs) (h2 : Lv w a2 ys) (hl : xs.length = ys.length) (hn : xs.length ≤ 100000) :
    Calls Try.prog 43 #[.slice a1 xs.length c1, .slice a2 xs.length c2] w fun e w' => ESameL (xs = ys) w e w' := by
  have H1 : Hid (Lv w a1 xs) := h1
  have H2 : Hid (Lv w a2 ys) := h2
  have HL : Hid (xs.length = ys.length) := hl
  have hgd := guardP
  clear h1 h2 hl
  go_enter Try.func43, Try.ntmps43
  go_wp2
  go_loopw [13] (fun t wr => ∃ i m : Nat, i ≤ xs.length ∧ t = .int .i64 i ∧ wr = w.drewN m ∧ ∀ j (_ : j < i) (hp : j < xs.length) (hq : j < ys.length), xs[j] = ys[j]) (fun t _ => xs.length - (intOf t).toNat)
  case atStart => exact ⟨0, 0, Nat.zero_le _, rfl, rfl, fun j h => by omega⟩
  case round =>
    obtain ⟨i, m, hi, rfl, rfl, hall⟩ := hrel
    have HA : Hid (∀ j (_ : j < i) (hp : j < xs.length) (hq : j < ys.length), xs[j] = ys[j]) := hall
    clear hall
    by_cases hlt : i < xs.length
    · have hlq : i < ys.length := by have := HL.out; omega
      obtain ⟨b, off, rfl, hb, hc⟩ := H1.out.row (by omega)
      obtain ⟨b', off', rfl, hb', hc'⟩ := H2.out.row (by omega)
      have r1 := hc i hlt
      have r2 := hc' i hlq
      have he := eqP xs[i] ys[i]
      have hiff := @li_beq xs[i] ys[i]
      have i0 : (0 : Int) ≤ (i : Int) := by omega
      have i1 : (i : Int) < (xs.length : Int) := by omega
      have HF : Hid (xs[i] ≠ ys[i] → xs ≠ ys) := fun hne e => hne (by subst e; rfl)
      have HN : Hid (xs[i] = ys[i] → ∀ j (_ : j < i + 1) (hp : j < xs.length) (hq : j < ys.length), xs[j] = ys[j]) := fun e j h hp hq => by
        by_cases hj : j = i
        · subst hj; exact e
        · exact HA.out j (by omega) hp hq
      have rg1 : ∀ W : World, Kept (fun _ => True) w W → W.rangeAt b (off + i * 33) (lcell xs[i]) := fun W hk => range_kept r1 hk hb trivial
      have rg2 : ∀ W : World, Kept (fun _ => True) w W → W.rangeAt b' (off' + i * 33) (lcell ys[i]) := fun W hk => range_kept r2 hk hb' trivial
      have ia1 : (Try.prog.info? 27).map (·.size) = some (lcell xs[i]).length := by rw [linkP.size, lcell_length]
      have ia2 : (Try.prog.info? 27).map (·.size) = some (lcell ys[i]).length := by rw [linkP.size, lcell_length]
      clear hc hc' r1 r2 HA
      generalize hbx : (xs[i].t == ys[i].t && xs[i].h == ys[i].h) = q at *
      have HI : Hid (q = true ↔ xs[i] = ys[i]) := hiff
      clear hiff hbx
      generalize xs[i] = x at *
      generalize ys[i] = y at *
      have kd : Kept (fun _ => True) w (w.drewN m).drew := ((Kept.refl _ _).drewN m).drew
      cases q with
      | true =>
        have HN3 := HN.out (HI.out.1 rfl)
        have HN4 : Hid (∀ j (_ : j < i + 1) (hp : j < xs.length) (hq : j < ys.length), xs[j] = ys[j]) := HN3
        clear HN HN3 HF HI
        go_wp2
        refine Gz.begin (fun W => Kept (fun _ => True) w W) (fun _ => false) (by kernel_rfl) ?_
        refine Gz.take (i := 0) (oi := { dst := some 16, op := Op.move (Operand.tmp 0), type := 22, pos := _, after := #[], guard := none }) (v := ?_) rfl (by kernel_rfl) (by kernel_rfl) (by kernel_rfl) (by kernel_rfl) (fun _ _ _ h => h) (Or.inl ⟨by rfl, ?hy0⟩) kd ?_
        case hy0 => (intro W hSw; (try dsimp only at hSw); go_simp; try with_reducible rfl)
        try simp only [Act.put, List.setIfInBounds_toArray, List.set_cons_zero, List.set_cons_succ]
        refine Gz.take (i := 1) (oi := { dst := some 17, op := Op.move (Operand.tmp 5), type := 3, pos := _, after := #[], guard := none }) (v := ?_) rfl (by kernel_rfl) (by kernel_rfl) (by kernel_rfl) (by kernel_rfl) (fun _ _ _ h => h) (Or.inl ⟨by rfl, ?hy1⟩) kd ?_
        case hy1 => (intro W hSw; (try dsimp only at hSw); go_simp; try with_reducible rfl)
        try simp only [Act.put, List.setIfInBounds_toArray, List.set_cons_zero, List.set_cons_succ]
        refine Gz.take (i := 2) (oi := { dst := some 18, op := Op.indexAddr 22 (Operand.tmp 16) (Operand.tmp 17), type := 0, pos := _, after := #[{ on := 0, ground := Ground.data }, { on := 1, ground := Ground.data }], guard := none }) (v := ?_) rfl (by kernel_rfl) (by kernel_rfl) (by kernel_rfl) (by kernel_rfl) (fun _ _ _ h => h) (Or.inl ⟨by rfl, ?hy2⟩) kd ?_
        case hy2 => (intro W hSw; (try dsimp only at hSw); go_simp; try with_reducible rfl)
        try simp only [Act.put, List.setIfInBounds_toArray, List.set_cons_zero, List.set_cons_succ]
        refine Gz.take (i := 3) (oi := { dst := some 19, op := Op.load 27 (Operand.tmp 18), type := 27, pos := _, after := #[{ on := 2, ground := Ground.data }], guard := none }) (v := _) rfl (by kernel_rfl) (by kernel_rfl) (by kernel_rfl) (by kernel_rfl) (fun _ _ _ h => h) (yieldsIf_load_mid (by rfl) _ _ rfl (b) (off + i * 33) rfl (lcell x) _ (fun W hW => rg1 W hW) Try.underlying27 rfl (ia1)) kd ?_
        try simp only [Act.put, List.setIfInBounds_toArray, List.set_cons_zero, List.set_cons_succ]
        refine Gz.take (i := 4) (oi := { dst := some 20, op := Op.move (Operand.tmp 1), type := 22, pos := _, after := #[], guard := none }) (v := ?_) rfl (by kernel_rfl) (by kernel_rfl) (by kernel_rfl) (by kernel_rfl) (fun _ _ _ h => h) (Or.inl ⟨by rfl, ?hy4⟩) kd ?_
        case hy4 => (intro W hSw; (try dsimp only at hSw); go_simp; try with_reducible rfl)
        try simp only [Act.put, List.setIfInBounds_toArray, List.set_cons_zero, List.set_cons_succ]
        refine Gz.take (i := 5) (oi := { dst := some 21, op := Op.move (Operand.tmp 5), type := 3, pos := _, after := #[], guard := none }) (v := ?_) rfl (by kernel_rfl) (by kernel_rfl) (by kernel_rfl) (by kernel_rfl) (fun _ _ _ h => h) (Or.inl ⟨by rfl, ?hy5⟩) kd ?_
        case hy5 => (intro W hSw; (try dsimp only at hSw); go_simp; try with_reducible rfl)
        try simp only [Act.put, List.setIfInBounds_toArray, List.set_cons_zero, List.set_cons_succ]
        refine Gz.take (i := 6) (oi := { dst := some 22, op := Op.indexAddr 22 (Operand.tmp 20) (Operand.tmp 21), type := 0, pos := _, after := #[{ on := 4, ground := Ground.data }, { on := 5, ground := Ground.data }], guard := none }) (v := ?_) rfl (by kernel_rfl) (by kernel_rfl) (by kernel_rfl) (by kernel_rfl) (fun _ _ _ h => h) (Or.inl ⟨by rfl, ?hy6⟩) kd ?_
        case hy6 => (intro W hSw; (try dsimp only at hSw); go_simp; try with_reducible rfl)
        try simp only [Act.put, List.setIfInBounds_toArray, List.set_cons_zero, List.set_cons_succ]
        refine Gz.take (i := 7) (oi := { dst := some 23, op := Op.load 27 (Operand.tmp 22), type := 27, pos := _, after := #[{ on := 6, ground := Ground.data }], guard := none }) (v := _) rfl (by kernel_rfl) (by kernel_rfl) (by kernel_rfl) (by kernel_rfl) (fun _ _ _ h => h) (yieldsIf_load_mid (by rfl) _ _ rfl (b') (off' + i * 33) rfl (lcell y) _ (fun W hW => rg2 W hW) Try.underlying27 rfl (ia2)) kd ?_
        try simp only [Act.put, List.setIfInBounds_toArray, List.set_cons_zero, List.set_cons_succ]
        refine Gz.take (i := 8) (oi := { dst := some 24, op := Op.binOp BinOp.neq 27 (Operand.tmp 19) (Operand.tmp 23) 27, type := 4, pos := _, after := #[{ on := 3, ground := Ground.data }, { on := 7, ground := Ground.data }], guard := none }) (v := ?_) rfl (by kernel_rfl) (by kernel_rfl) (by kernel_rfl) (by kernel_rfl) (fun _ _ _ h => h) (Or.inl ⟨by rfl, ?hy8⟩) kd ?_
        case hy8 => (intro W hSw; (try dsimp only at hSw); go_simp; try with_reducible rfl)
        try simp only [Act.put, List.setIfInBounds_toArray, List.set_cons_zero, List.set_cons_succ]
        refine Gz.done (by kernel_rfl) ?_ _
        go_wp2
        go_roundw
        case rel => exact ⟨i + 1, m + 1, by omega, by go_num, drew_succ _ _, HN4.out⟩
        case measure => simp [intOf]; omega
      | false =>
        have HNE : Hid (xs ≠ ys) := HF.out (fun e => by have := HI.out.2 e; cases this)
        clear HN HF HI
        go_wp2
        refine Gz.begin (fun W => Kept (fun _ => True) w W) (fun _ => false) (by kernel_rfl) ?_
        refine Gz.take (i := 0) (oi := { dst := some 16, op := Op.move (Operand.tmp 0), type := 22, pos := _, after := #[], guard := none }) (v := ?_) rfl (by kernel_rfl) (by kernel_rfl) (by kernel_rfl) (by kernel_rfl) (fun _ _ _ h => h) (Or.inl ⟨by rfl, ?hy0⟩) kd ?_
        case hy0 => (intro W hSw; (try dsimp only at hSw); go_simp; try with_reducible rfl)
        try simp only [Act.put, List.setIfInBounds_toArray, List.set_cons_zero, List.set_cons_succ]
        refine Gz.take (i := 1) (oi := { dst := some 17, op := Op.move (Operand.tmp 5), type := 3, pos := _, after := #[], guard := none }) (v := ?_) rfl (by kernel_rfl) (by kernel_rfl) (by kernel_rfl) (by kernel_rfl) (fun _ _ _ h => h) (Or.inl ⟨by rfl, ?hy1⟩) kd ?_
        case hy1 => (intro W hSw; (try dsimp only at hSw); go_simp; try with_reducible rfl)
        try simp only [Act.put, List.setIfInBounds_toArray, List.set_cons_zero, List.set_cons_succ]
        refine Gz.take (i := 2) (oi := { dst := some 18, op := Op.indexAddr 22 (Operand.tmp 16) (Operand.tmp 17), type := 0, pos := _, after := #[{ on := 0, ground := Ground.data }, { on := 1, ground := Ground.data }], guard := none }) (v := ?_) rfl (by kernel_rfl) (by kernel_rfl) (by kernel_rfl) (by kernel_rfl) (fun _ _ _ h => h) (Or.inl ⟨by rfl, ?hy2⟩) kd ?_
        case hy2 => (intro W hSw; (try dsimp only at hSw); go_simp; try with_reducible rfl)
        try simp only [Act.put, List.setIfInBounds_toArray, List.set_cons_zero, List.set_cons_succ]
        refine Gz.take (i := 3) (oi := { dst := some 19, op := Op.load 27 (Operand.tmp 18), type := 27, pos := _, after := #[{ on := 2, ground := Ground.data }], guard := none }) (v := _) rfl (by kernel_rfl) (by kernel_rfl) (by kernel_rfl) (by kernel_rfl) (fun _ _ _ h => h) (yieldsIf_load_mid (by rfl) _ _ rfl (b) (off + i * 33) rfl (lcell x) _ (fun W hW => rg1 W hW) Try.underlying27 rfl (ia1)) kd ?_
        try simp only [Act.put, List.setIfInBounds_toArray, List.set_cons_zero, List.set_cons_succ]
        refine Gz.take (i := 4) (oi := { dst := some 20, op := Op.move (Operand.tmp 1), type := 22, pos := _, after := #[], guard := none }) (v := ?_) rfl (by kernel_rfl) (by kernel_rfl) (by kernel_rfl) (by kernel_rfl) (fun _ _ _ h => h) (Or.inl ⟨by rfl, ?hy4⟩) kd ?_
        case hy4 => (intro W hSw; (try dsimp only at hSw); go_simp; try with_reducible rfl)
        try simp only [Act.put, List.setIfInBounds_toArray, List.set_cons_zero, List.set_cons_succ]
        refine Gz.take (i := 5) (oi := { dst := some 21, op := Op.move (Operand.tmp 5), type := 3, pos := _, after := #[], guard := none }) (v := ?_) rfl (by kernel_rfl) (by kernel_rfl) (by kernel_rfl) (by kernel_rfl) (fun _ _ _ h => h) (Or.inl ⟨by rfl, ?hy5⟩) kd ?_
        case hy5 => (intro W hSw; (try dsimp only at hSw); go_simp; try with_reducible rfl)
        try simp only [Act.put, List.setIfInBounds_toArray, List.set_cons_zero, List.set_cons_succ]
        refine Gz.take (i := 6) (oi := { dst := some 22, op := Op.indexAddr 22 (Operand.tmp 20) (Operand.tmp 21), type := 0, pos := _, after := #[{ on := 4, ground := Ground.data }, { on := 5, ground := Ground.data }], guard := none }) (v := ?_) rfl (by kernel_rfl) (by kernel_rfl) (by kernel_rfl) (by kernel_rfl) (fun _ _ _ h => h) (Or.inl ⟨by rfl, ?hy6⟩) kd ?_
        case hy6 => (intro W hSw; (try dsimp only at hSw); go_simp; try with_reducible rfl)
        try simp only [Act.put, List.setIfInBounds_toArray, List.set_cons_zero, List.set_cons_succ]
        refine Gz.take (i := 7) (oi := { dst := some 23, op := Op.load 27 (Operand.tmp 22), type := 27, pos := _, after := #[{ on := 6, ground := Ground.data }], guard := none }) (v := _) rfl (by kernel_rfl) (by kernel_rfl) (by kernel_rfl) (by kernel_rfl) (fun _ _ _ h => h) (yieldsIf_load_mid (by rfl) _ _ rfl (b') (off' + i * 33) rfl (lcell y) _ (fun W hW => rg2 W hW) Try.underlying27 rfl (ia2)) kd ?_
        try simp only [Act.put, List.setIfInBounds_toArray, List.set_cons_zero, List.set_cons_succ]
        refine Gz.take (i := 8) (oi := { dst := some 24, op := Op.binOp BinOp.neq 27 (Operand.tmp 19) (Operand.tmp 23) 27, type := 4, pos := _, after := #[{ on := 3, ground := Ground.data }, { on := 7, ground := Ground.data }], guard := none }) (v := ?_) rfl (by kernel_rfl) (by kernel_rfl) (by kernel_rfl) (by kernel_rfl) (fun _ _ _ h => h) (Or.inl ⟨by rfl, ?hy8⟩) kd ?_
        case hy8 => (intro W hSw; (try dsimp only at hSw); go_simp; try with_reducible rfl)
        try simp only [Act.put, List.setIfInBounds_toArray, List.set_cons_zero, List.set_cons_succ]
        refine Gz.done (by kernel_rfl) ?_ _
        go_wp2
        go_ret
        exact ⟨false, rfl, by simpa using HNE.out, m + 1, drew_succ _ _⟩
    · have i1 : ¬ (i : Int) < (xs.length : Int) := by omega
      have HEQ : Hid (xs = ys) := List.ext_getElem HL.out (fun j h1 h2 => HA.out j (by omega) h1 h2)
      clear HA
      go_wp2
      go_ret
      exact ⟨true, rfl, by simpa using HEQ.out, m, rfl⟩

end Go.Proofs.Ytflleblcliobdaa
