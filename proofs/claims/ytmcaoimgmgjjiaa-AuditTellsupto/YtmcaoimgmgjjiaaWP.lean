/-
  Texts of the proofs, 16 of 52.
-/
import Derived.Test.YtmcaoimgmgjjiaaWN
import Derived.Test.YtmcaoimgmgjjiaaWM
import Derived.Test.YtmcaoimgmgjjiaaWD
import Derived.Test.YtmcaoimgmgjjiaaWO
namespace Go.Proofs.Ytmcaoimgmgjjiaa
open Go.RowKit

def Tv (w : World) (a : Option Addr) (ss : List (List UInt8)) : Prop :=
  0 < ss.length → ∃ b off, a = some ⟨b, off, none⟩ ∧ b < w.heap.size ∧ ∀ i (h : i < ss.length), w.cell? ⟨b, off + i, none⟩ = some (.string ⟨(ss[i]).toArray⟩)
theorem Txs.tv {w : World} {base : Nat} {ao : Option Addr} {n cap : Nat} {ss : List (List UInt8)} (h : Txs w base (.slice ao n cap) ss) : Tv w ao ss := fun h0 => by
  obtain ⟨ao', cap', e, _, hg⟩ := h.shape
  injection e with e1 e2 e3
  subst e1 e2
  obtain ⟨g, rfl⟩ := hg h0
  exact ⟨g, 0, rfl, World.block_lt_of_cell? w _ (h.cell 0 h0), fun i hi => by rw [Nat.zero_add]; exact h.cell i hi⟩

end Go.Proofs.Ytmcaoimgmgjjiaa

namespace Go.Proofs.Ytmcaoimgmgjjiaa
open Go.RowKit

theorem part_text (x : Li) (w0 : World) : (part 9 (lcell x).toArray 0).run Try.prog w0 = .ok (.string ⟨x.t.toArray⟩) w0 := by
  simp [part, isAgg, run_underlying Try.underlying9, lcell]
theorem part_head (x : Li) (w0 : World) : (part 78 (lcell x).toArray 1).run Try.prog w0 = .ok (.agg (cells x.h).toArray) w0 := by
  have hs : (sizeOf 78).run Try.prog w0 = .ok 32 w0 := by
    cases hq : Try.prog.info? 78 with
    | none => have h := arr32.size; simp [hq] at h
    | some i => have h := arr32.size; simp [hq] at h; simp [sizeOf, typeInfo, hq, h]
  simp [part, isAgg, run_underlying Try.underlying78]
  rw [show (lcell x).tail = cells x.h from rfl, List.take_of_length_le (by rw [cells_length, x.len]; exact Nat.le_refl _)]
theorem eq32d (xs ys : List UInt8) (hx : xs.length = 32) (hy : ys.length = 32) (w0 : World) : (Op.equalIn 9999 78 (.agg (cells xs).toArray) (.agg (cells ys).toArray)).run Try.prog w0 = .ok (xs == ys) w0 := by
  have hz : ∀ w, (sizeOf 5).run Try.prog w = .ok 1 w := fun w => by have := size_u8 w; rwa [Try.elemBytes] at this
  exact run_equalIn_bytes (P := Try.prog) w0 9997 78 5 32 Try.underlying78 Try.underlying5 hz xs ys hx hy
theorem bytes_beq (a b : List UInt8) : ((⟨a.toArray⟩ : ByteArray).toList == (⟨b.toArray⟩ : ByteArray).toList) = (a == b) := by
  rw [ByteArray.toList_eq, ByteArray.toList_eq]
set_option maxRecDepth 100000 in
theorem eqP (x y : Li) (w0 : World) : (Op.equalIn 10000 121 (.agg (lcell x).toArray) (.agg (lcell y).toArray)).run Try.prog w0 = .ok (x.t == y.t && x.h == y.h) w0 := by
  have hf : Try.prog.fieldsOf 121 = (match Try.prog.underlying 121 with | some (.struct fs) => fs | _ => #[]) := rfl
  rw [Try.underlying121] at hf
  rw [run_equalIn_struct (P := Try.prog) w0 9999 121 _ _ (by kernel_rfl) (by kernel_rfl), hf]
  have h1 := run_equalIn_string (P := Try.prog) w0 9998 9 ⟨x.t.toArray⟩ ⟨y.t.toArray⟩ Try.underlying9
  rw [bytes_beq] at h1
  simp [Op.eqFields, part_text, part_head, h1, eq32d x.h y.h x.len y.len]
  cases hb : (x.t == y.t) <;> cases hc : (x.h == y.h) <;> simp_all
set_option maxRecDepth 100000 in
theorem eqR (x y : Li) (w0 : World) : (Op.equalIn 10000 80 (.agg (lcell x).toArray) (.agg (lcell y).toArray)).run Try.prog w0 = .ok (x.t == y.t && x.h == y.h) w0 := by
  have hf : Try.prog.fieldsOf 80 = (match Try.prog.underlying 80 with | some (.struct fs) => fs | _ => #[]) := rfl
  rw [Try.underlying80] at hf
  rw [run_equalIn_struct (P := Try.prog) w0 9999 80 _ _ (by kernel_rfl) (by kernel_rfl), hf]
  have h1 := run_equalIn_string (P := Try.prog) w0 9998 9 ⟨x.t.toArray⟩ ⟨y.t.toArray⟩ Try.underlying9
  rw [bytes_beq] at h1
  simp [Op.eqFields, part_text, part_head, h1, eq32d x.h y.h x.len y.len]
  cases hb : (x.t == y.t) <;> cases hc : (x.h == y.h) <;> simp_all
theorem guardP : Try.prog.eqGuardType Try.prog.depth 121 = false := by kernel_rfl
theorem guardR : Try.prog.eqGuardType Try.prog.depth 80 = false := by kernel_rfl
theorem li_beq {x y : Li} : (x.t == y.t && x.h == y.h) = true ↔ x = y := by
  rw [Bool.and_eq_true, beq_iff_eq, beq_iff_eq]
  exact ⟨fun h => Li.ext' h.1 h.2, fun h => by rw [h]; exact ⟨rfl, rfl⟩⟩
theorem drew_succ (w : World) (m : Nat) : (w.drewN m).drew = w.drewN (m + 1) := by
  simp [World.drewN, World.drew, Nat.add_assoc]
def ESameL (A : Prop) (w : World) (e : Ending) (w' : World) : Prop := ∃ b : Bool, e = .returned (.bool b) ∧ (b = true ↔ A) ∧ ∃ m, w' = w.drewN m

set_option maxRecDepth 100000 in
set_option maxHeartbeats 2000000 in
theorem equalL_any {w : World} {a1 a2 : Option Addr} {c1 c2 : Nat} {xs ys : List Li} (h1 : Lv w a1 xs) (h2 : Lv w a2 ys) (hl : xs.length = ys.length) (hn : xs.length ≤ 100000) :
    Calls Try.prog 84 #[.slice a1 xs.length c1, .slice a2 xs.length c2] w fun e w' => ESameL (xs = ys) w e w' := by
  have H1 : Hid (Lv w a1 xs) := h1
  have H2 : Hid (Lv w a2 ys) := h2
  have HL : Hid (xs.length = ys.length) := hl
  have hgd := guardP
  clear h1 h2 hl
  go_enter Try.func84, Try.ntmps84
  go_wp2
  go_loopw [13] (fun t wr => ∃ i m : Nat, i ≤ xs.length ∧ t = .int .i64 i ∧ wr = w.drewN m ∧ ∀ j (_ : j < i) (hp : j < xs.length) (hq : j < ys.length), xs[j] = ys[j]) (fun t _ => xs.length - (intOf t).toNat)
  case atStart => exact ⟨0, 0, Nat.zero_le _, rfl, rfl, fun j h => by omega⟩
  case round =>
    obtain ⟨i, m, hi, rfl, rfl, hall⟩ := hrel
    have HA : Hid (∀ j (_ : j < i) (hp : j < xs.length) (hq : j < ys.length), xs[j] = ys[j]) := hall
    clear hall
    by_cases hlt : i < xs.length
    · have hlq : i < ys.length := by have := HL.out; omega
      obtain ⟨b, off, rfl, hb, hc⟩ := H1.out.row (by omega)
      obtain ⟨b', off', rfl, hb', hc'⟩ := H2.out.row (by omega)
      have r1 := hc i hlt
      have r2 := hc' i hlq
      have he := eqP xs[i] ys[i]
      have hiff := @li_beq xs[i] ys[i]
      have i0 : (0 : Int) ≤ (i : Int) := by omega
      have i1 : (i : Int) < (xs.length : Int) := by omega
      have HF : Hid (xs[i] ≠ ys[i] → xs ≠ ys) := fun hne e => hne (by subst e; rfl)
      have HN : Hid (xs[i] = ys[i] → ∀ j (_ : j < i + 1) (hp : j < xs.length) (hq : j < ys.length), xs[j] = ys[j]) := fun e j h hp hq => by
        by_cases hj : j = i
        · subst hj; exact e
        · exact HA.out j (by omega) hp hq
      have rg1 : ∀ W : World, Kept (fun _ => True) w W → W.rangeAt b (off + i * 33) (lcell xs[i]) := fun W hk => range_kept r1 hk hb trivial
      have rg2 : ∀ W : World, Kept (fun _ => True) w W → W.rangeAt b' (off' + i * 33) (lcell ys[i]) := fun W hk => range_kept r2 hk hb' trivial
      have ia1 : (Try.prog.info? 121).map (·.size) = some (lcell xs[i]).length := by rw [linkP.size, lcell_length]
      have ia2 : (Try.prog.info? 121).map (·.size) = some (lcell ys[i]).length := by rw [linkP.size, lcell_length]
      clear hc hc' r1 r2 HA
      generalize hbx : (xs[i].t == ys[i].t && xs[i].h == ys[i].h) = q at *
      have HI : Hid (q = true ↔ xs[i] = ys[i]) := hiff
      clear hiff hbx
      generalize xs[i] = x at *
      generalize ys[i] = y at *
      have kd : Kept (fun _ => True) w (w.drewN m).drew := ((Kept.refl _ _).drewN m).drew
      cases q with
      | true =>
        have HN3 := HN.out (HI.out.1 rfl)
        have HN4 : Hid (∀ j (_ : j < i + 1) (hp : j < xs.length) (hq : j < ys.length), xs[j] = ys[j]) := HN3
        clear HN HN3 HF HI
        go_wp2
        refine Gz.begin (fun W => Kept (fun _ => True) w W) (fun _ => false) (by kernel_rfl) ?_
        refine Gz.tk (i := 0) (oi := { dst := some 16, op := Op.move (Operand.tmp 0), type := 83, pos := _, after := #[], guard := none }) (v := ?_) rfl (by kernel_rfl) (fun _ _ _ h => h) (Or.inl ⟨by rfl, ?hy0⟩) kd ?_
        case hy0 => (intro W hS; (try dsimp only at hS); go_simp; try with_reducible rfl)
        try simp only [Act.put, lyA, ly0, ly1]
        refine Gz.tk (i := 1) (oi := { dst := some 17, op := Op.move (Operand.tmp 5), type := 3, pos := _, after := #[], guard := none }) (v := ?_) rfl (by kernel_rfl) (fun _ _ _ h => h) (Or.inl ⟨by rfl, ?hy1⟩) kd ?_
        case hy1 => (intro W hS; (try dsimp only at hS); go_simp; try with_reducible rfl)
        try simp only [Act.put, lyA, ly0, ly1]
        refine Gz.tk (i := 2) (oi := { dst := some 18, op := Op.indexAddr 83 (Operand.tmp 16) (Operand.tmp 17), type := 0, pos := _, after := #[{ on := 0, ground := Ground.data }, { on := 1, ground := Ground.data }], guard := none }) (v := ?_) rfl (by kernel_rfl) (fun _ _ _ h => h) (Or.inl ⟨by rfl, ?hy2⟩) kd ?_
        case hy2 => (intro W hS; (try dsimp only at hS); go_simp; try with_reducible rfl)
        try simp only [Act.put, lyA, ly0, ly1]
        refine Gz.tk (i := 3) (oi := { dst := some 19, op := Op.load 121 (Operand.tmp 18), type := 121, pos := _, after := #[{ on := 2, ground := Ground.data }], guard := none }) (v := _) rfl (by kernel_rfl) (fun _ _ _ h => h) (yieldsIf_load_mid (by rfl) _ _ rfl (b) (off + i * 33) rfl (lcell x) _ (fun W hW => rg1 W hW) Try.underlying121 rfl (ia1)) kd ?_
        try simp only [Act.put, lyA, ly0, ly1]
        refine Gz.tk (i := 4) (oi := { dst := some 20, op := Op.move (Operand.tmp 1), type := 83, pos := _, after := #[], guard := none }) (v := ?_) rfl (by kernel_rfl) (fun _ _ _ h => h) (Or.inl ⟨by rfl, ?hy4⟩) kd ?_
        case hy4 => (intro W hS; (try dsimp only at hS); go_simp; try with_reducible rfl)
        try simp only [Act.put, lyA, ly0, ly1]
        refine Gz.tk (i := 5) (oi := { dst := some 21, op := Op.move (Operand.tmp 5), type := 3, pos := _, after := #[], guard := none }) (v := ?_) rfl (by kernel_rfl) (fun _ _ _ h => h) (Or.inl ⟨by rfl, ?hy5⟩) kd ?_
        case hy5 => (intro W hS; (try dsimp only at hS); go_simp; try with_reducible rfl)
        try simp only [Act.put, lyA, ly0, ly1]
        refine Gz.tk (i := 6) (oi := { dst := some 22, op := Op.indexAddr 83 (Operand.tmp 20) (Operand.tmp 21), type := 0, pos := _, after := #[{ on := 4, ground := Ground.data }, { on := 5, ground := Ground.data }], guard := none }) (v := ?_) rfl (by kernel_rfl) (fun _ _ _ h => h) (Or.inl ⟨by rfl, ?hy6⟩) kd ?_
        case hy6 => (intro W hS; (try dsimp only at hS); go_simp; try with_reducible rfl)
        try simp only [Act.put, lyA, ly0, ly1]
        refine Gz.tk (i := 7) (oi := { dst := some 23, op := Op.load 121 (Operand.tmp 22), type := 121, pos := _, after := #[{ on := 6, ground := Ground.data }], guard := none }) (v := _) rfl (by kernel_rfl) (fun _ _ _ h => h) (yieldsIf_load_mid (by rfl) _ _ rfl (b') (off' + i * 33) rfl (lcell y) _ (fun W hW => rg2 W hW) Try.underlying121 rfl (ia2)) kd ?_
        try simp only [Act.put, lyA, ly0, ly1]
        refine Gz.tk (i := 8) (oi := { dst := some 24, op := Op.binOp BinOp.neq 121 (Operand.tmp 19) (Operand.tmp 23) 121, type := 4, pos := _, after := #[{ on := 3, ground := Ground.data }, { on := 7, ground := Ground.data }], guard := none }) (v := ?_) rfl (by kernel_rfl) (fun _ _ _ h => h) (Or.inl ⟨by rfl, ?hy8⟩) kd ?_
        case hy8 => (intro W hS; (try dsimp only at hS); go_simp; try with_reducible rfl)
        try simp only [Act.put, lyA, ly0, ly1]
        refine Gz.done (by kernel_rfl) ?_ _
        go_wp2
        go_roundw
        case rel => exact ⟨i + 1, m + 1, by omega, by go_num, drew_succ _ _, HN4.out⟩
        case measure => simp [intOf]; omega
      | false =>
        have HNE : Hid (xs ≠ ys) := HF.out (fun e => by have := HI.out.2 e; cases this)
        clear HN HF HI
        go_wp2
        refine Gz.begin (fun W => Kept (fun _ => True) w W) (fun _ => false) (by kernel_rfl) ?_
        refine Gz.tk (i := 0) (oi := { dst := some 16, op := Op.move (Operand.tmp 0), type := 83, pos := _, after := #[], guard := none }) (v := ?_) rfl (by kernel_rfl) (fun _ _ _ h => h) (Or.inl ⟨by rfl, ?hy0⟩) kd ?_
        case hy0 => (intro W hS; (try dsimp only at hS); go_simp; try with_reducible rfl)
        try simp only [Act.put, lyA, ly0, ly1]
        refine Gz.tk (i := 1) (oi := { dst := some 17, op := Op.move (Operand.tmp 5), type := 3, pos := _, after := #[], guard := none }) (v := ?_) rfl (by kernel_rfl) (fun _ _ _ h => h) (Or.inl ⟨by rfl, ?hy1⟩) kd ?_
        case hy1 => (intro W hS; (try dsimp only at hS); go_simp; try with_reducible rfl)
        try simp only [Act.put, lyA, ly0, ly1]
        refine Gz.tk (i := 2) (oi := { dst := some 18, op := Op.indexAddr 83 (Operand.tmp 16) (Operand.tmp 17), type := 0, pos := _, after := #[{ on := 0, ground := Ground.data }, { on := 1, ground := Ground.data }], guard := none }) (v := ?_) rfl (by kernel_rfl) (fun _ _ _ h => h) (Or.inl ⟨by rfl, ?hy2⟩) kd ?_
        case hy2 => (intro W hS; (try dsimp only at hS); go_simp; try with_reducible rfl)
        try simp only [Act.put, lyA, ly0, ly1]
        refine Gz.tk (i := 3) (oi := { dst := some 19, op := Op.load 121 (Operand.tmp 18), type := 121, pos := _, after := #[{ on := 2, ground := Ground.data }], guard := none }) (v := _) rfl (by kernel_rfl) (fun _ _ _ h => h) (yieldsIf_load_mid (by rfl) _ _ rfl (b) (off + i * 33) rfl (lcell x) _ (fun W hW => rg1 W hW) Try.underlying121 rfl (ia1)) kd ?_
        try simp only [Act.put, lyA, ly0, ly1]
        refine Gz.tk (i := 4) (oi := { dst := some 20, op := Op.move (Operand.tmp 1), type := 83, pos := _, after := #[], guard := none }) (v := ?_) rfl (by kernel_rfl) (fun _ _ _ h => h) (Or.inl ⟨by rfl, ?hy4⟩) kd ?_
        case hy4 => (intro W hS; (try dsimp only at hS); go_simp; try with_reducible rfl)
        try simp only [Act.put, lyA, ly0, ly1]
        refine Gz.tk (i := 5) (oi := { dst := some 21, op := Op.move (Operand.tmp 5), type := 3, pos := _, after := #[], guard := none }) (v := ?_) rfl (by kernel_rfl) (fun _ _ _ h => h) (Or.inl ⟨by rfl, ?hy5⟩) kd ?_
        case hy5 => (intro W hS; (try dsimp only at hS); go_simp; try with_reducible rfl)
        try simp only [Act.put, lyA, ly0, ly1]
        refine Gz.tk (i := 6) (oi := { dst := some 22, op := Op.indexAddr 83 (Operand.tmp 20) (Operand.tmp 21), type := 0, pos := _, after := #[{ on := 4, ground := Ground.data }, { on := 5, ground := Ground.data }], guard := none }) (v := ?_) rfl (by kernel_rfl) (fun _ _ _ h => h) (Or.inl ⟨by rfl, ?hy6⟩) kd ?_
        case hy6 => (intro W hS; (try dsimp only at hS); go_simp; try with_reducible rfl)
        try simp only [Act.put, lyA, ly0, ly1]
        refine Gz.tk (i := 7) (oi := { dst := some 23, op := Op.load 121 (Operand.tmp 22), type := 121, pos := _, after := #[{ on := 6, ground := Ground.data }], guard := none }) (v := _) rfl (by kernel_rfl) (fun _ _ _ h => h) (yieldsIf_load_mid (by rfl) _ _ rfl (b') (off' + i * 33) rfl (lcell y) _ (fun W hW => rg2 W hW) Try.underlying121 rfl (ia2)) kd ?_
        try simp only [Act.put, lyA, ly0, ly1]
        refine Gz.tk (i := 8) (oi := { dst := some 24, op := Op.binOp BinOp.neq 121 (Operand.tmp 19) (Operand.tmp 23) 121, type := 4, pos := _, after := #[{ on := 3, ground := Ground.data }, { on := 7, ground := Ground.data }], guard := none }) (v := ?_) rfl (by kernel_rfl) (fun _ _ _ h => h) (Or.inl ⟨by rfl, ?hy8⟩) kd ?_
        case hy8 => (intro W hS; (try dsimp only at hS); go_simp; try with_reducible rfl)
        try simp only [Act.put, lyA, ly0, ly1]
        refine Gz.done (by kernel_rfl) ?_ _
        go_wp2
        go_ret
        exact ⟨false, rfl, by simpa using HNE.out, m + 1, drew_succ _ _⟩
    · have i1 : ¬ (i : Int) < (xs.length : Int) := by omega
      have HEQ : Hid (xs = ys) := List.ext_getElem HL.out (fun j h1 h2 => HA.out j (by omega) h1 h2)
      clear HA
      go_wp2
      go_ret
      exact ⟨true, rfl, by simpa using HEQ.out, m, rfl⟩

end Go.Proofs.Ytmcaoimgmgjjiaa

namespace Go.Proofs.Ytmcaoimgmgjjiaa
open Go.RowKit

def ETells (A : Prop) (w : World) (e : Ending) (w' : World) : Prop := ∃ b : Bool, e = .returned (.bool b) ∧ (b = true ↔ A) ∧ Kept (fun _ => True) w w'
def pre (xs ys : List Li) : Prop := xs.take (min xs.length ys.length) = ys.take (min xs.length ys.length)

set_option maxRecDepth 100000 in
set_option maxHeartbeats 1000000 in
theorem prefix_any {w : World} {a1 a2 : Option Addr} {c1 c2 : Nat} {xs ys : List Li} (h1 : Lv w a1 xs) (h2 : Lv w a2 ys) (n1 : xs.length ≤ 100000) (n2 : ys.length ≤ 100000) (l1 : xs.length ≤ c1) (l2 : ys.length ≤ c2) :
    Calls Try.prog 59 #[.slice a1 xs.length c1, .slice a2 ys.length c2] w fun e w' => ETells (pre xs ys) w e w' := by
  obtain ⟨n, hn⟩ : ∃ n, min xs.length ys.length = n := ⟨_, rfl⟩
  have e1 : (xs.take n).length = n := by rw [List.length_take]; omega
  have e2 : (ys.take n).length = n := by rw [List.length_take]; omega
  have ce : ∀ W, Kept (fun _ => True) w W → Calls Try.prog 84 #[.slice a1 n c1, .slice a2 n c2] W fun e w' => ESameL (xs.take n = ys.take n) W e w' := fun W k => by
    have := equalL_any (c1 := c1) (c2 := c2) ((h1.take n).all k) ((h2.take n).all k) (by rw [e1, e2]) (by omega)
    rwa [e1] at this
  have hp : pre xs ys = (xs.take n = ys.take n) := by unfold pre; rw [hn]
  have s1 := cut_links a1 xs.length c1 n (by omega) l1
  have s2 := cut_links a2 ys.length c2 n (by omega) l2
  have hm : min (xs.length : Int) (ys.length : Int) = (n : Int) := by omega
  have hmf : (if (xs.length : Int) < (ys.length : Int) then (xs.length : Int) else (ys.length : Int)) = (n : Int) := by split <;> omega
  have g1 : (n : Int) ≤ (xs.length : Int) := by omega
  have g2 : (n : Int) ≤ (ys.length : Int) := by omega
  rw [hp]
  clear hp hn e1 e2 h1 h2
  go_enter Try.func59, Try.ntmps59
  go_wp2
  have kd : Kept (fun _ => True) w w.drew := (Kept.refl _ _).drew
  go_region_held3 (fun W => Kept (fun _ => True) w W) (assumption) (first
    | (go_at_call 84; (with_reducible refine Calls.mono (ce _ (by assumption)) ?_); rintro e w2 ⟨q, rfl, hq, m, rfl⟩; have kn : Kept (fun _ => True) w (w.drewN (1 + m)) := (Kept.refl _ _).drewN _))
  go_wp2
  go_ret
  exact ⟨q, rfl, hq, kn⟩

set_option maxRecDepth 100000 in
set_option maxHeartbeats 2000000 in
theorem textsL_any {w : World} {ao : Option Addr} {cap : Nat} {xs : List Li} (h : Lv w ao xs) (hn : xs.length ≤ 100000) :
    Calls Try.prog 38 #[.slice ao xs.length cap] w fun e w' => ∃ a' c', e = .returned (.slice a' (txs xs).length c') ∧ Txs w' w.heap.size (.slice a' (txs xs).length c') (txs xs) ∧ Kept (fun _ => True) w w' := by
  obtain ⟨i, hi, hz0, hz1, hz2⟩ := info_parts Try.infoText
  have hb1 : i.bytes * xs.length ≤ 281474976710656 := by rw [hz2]; omega
  have hb2 : xs.length ≤ maxLen := by unfold maxLen; omega
  have HV : Hid (Lv w ao xs) := h
  clear h
  go_enter Try.func38, Try.ntmps38
  go_wp2_with (at_make; refine wpList_make_full _ rfl _ _ _ rfl w.heap.size 9 i (.string ⟨#[]⟩) 1 Try.underlying60 hi hz0 hz1 _ _ _ _ xs.length rfl rfl rfl rfl hb1 hb2 (Nat.le_refl _) ?_; intro w1 hown hg)
  have k1 : Kept (fun _ => True) w w1 := (Kept.refl _ _).grown hg (fun k _ h => by cases h)
  have lr : (madeCells (Value.string ⟨#[]⟩).cells (xs.length * 1)).toList.length = xs.length := by simp [size_madeCells]
  generalize (madeCells (Value.string ⟨#[]⟩).cells (xs.length * 1)).toList = rest at *
  have HO : Hid (w1.ownsRow w.heap.size 9 1 (.slice (some ⟨w.heap.size, 0, none⟩) xs.length xs.length) xs.length rest) := hown
  have K1 : Hid (Kept (fun _ => True) w w1) := k1
  have LR : Hid (rest.length = xs.length) := lr
  clear hown hg k1 lr hb1 hb2 hi hz0 hz1 hz2
  obtain ⟨G, hG⟩ : ∃ G, G = w.heap.size := ⟨_, rfl⟩
  rw [← hG] at HO ⊢
  have HG : Hid (G = w.heap.size) := hG
  clear hG
  go_loopw [11] (fun t wr => ∃ (k : Nat) (rs : List Value), k ≤ xs.length ∧ t = .int .i64 k ∧ rs.length = xs.length - k ∧ wr.ownsRow G 9 1 (.slice (some ⟨G, 0, none⟩) xs.length xs.length) xs.length (srow ((txs xs).take k) ++ rs) ∧ Kept (fun _ => True) w wr) (fun t _ => xs.length - (intOf t).toNat)
  case atStart => exact ⟨0, rest, Nat.zero_le _, rfl, by simpa using LR.out, HO.out, K1.out⟩
  case round =>
    obtain ⟨k, rs, hk, rfl, lrs, ho, kr⟩ := hrel
    have lm : (srow ((txs xs).take k)).length = k := by rw [srow_length, List.length_take, txs_length]; omega
    by_cases hlt : k < xs.length
    · obtain ⟨b, off, rfl, hb, hc⟩ := HV.out.row (by omega)
      have hr := range_kept (hc k hlt) kr hb trivial
      have i0 : (0 : Int) ≤ (k : Int) := by omega
      have i1 : (k : Int) < (xs.length : Int) := by omega
      have HT : Hid (srow ((txs xs).take (k + 1)) = srow ((txs xs).take k) ++ [.string ⟨(xs[k].t).toArray⟩]) := by
        show _ = _
        rw [List.take_succ_eq_append_getElem (by rw [txs_length]; exact hlt), srow_append, txs_get xs k hlt]
        rfl
      have HR : Hid (wr.rangeAt b (off + k * 33) (lcell xs[k])) := hr
      have HW : Hid (wr.ownsRow G 9 1 (.slice (some ⟨G, 0, none⟩) xs.length xs.length) xs.length (srow ((txs xs).take k) ++ rs)) := ho
      have LRS : Hid (rs.length = xs.length - k) := lrs
      have LM : Hid ((srow ((txs xs).take k)).length = k) := lm
      have hgl : G < wr.heap.size := (World.ownsRow.lt ho _ rfl).2
      clear hc hr ho lrs lm
      generalize xs[k] = x at *
      have cw : ∀ W : World, Kept (· ≠ wr.heap.size) wr W → (∃ u, W.cell? ⟨G, k, none⟩ = some u) ∧ W.frozen? ⟨G, k, none⟩ = false := fun W kW => by
        have h1 := ownL_kept HW.out kW (fun i hi => by (have : G = i := by simpa [Value.ownBlock] using hi); omega)
        have hl : (srow ((txs xs).take k) ++ rs).length = xs.length := by rw [List.length_append, LM.out, LRS.out]; omega
        exact ⟨⟨_, by rw [h1.cellAt k (by omega), List.getElem?_eq_getElem (by omega)]⟩, h1.frozenAt _⟩
      go_wp2_with (first
        | ((with_reducible apply w_loadL (d := some 15) linkP (b := b) (o := off + k * 33) (x := x)); (case hx => rfl); (case hr => exact HR.out))
        | ((with_reducible refine w_allocL (d := some 5) linkP ?_); intro w3 a5 k3 s3)
        | ((with_reducible apply w_storeL (x := .tmp 5) linkP (b := wr.heap.size) (z := x) (old := zeroLi)); (case hx => rfl); (case hy => rfl); (case ha => exact a5); intro w4 a5' k4 s4; have ct := a5'.text; have kk : Kept (· ≠ wr.heap.size) wr w4 := (k3.mono (fun _ _ _ => trivial)).trans k4; obtain ⟨⟨u0, cu⟩, cf⟩ := cw _ kk))
      go_roundw
      case rel =>
        have how := ownL_kept HW.out kk (fun i hi => by (have : G = i := by simpa [Value.ownBlock] using hi); omega)
        have h5 := (how.stored k (.string ⟨x.t.toArray⟩)).1
        refine ⟨k + 1, rs.drop 1, by omega, by go_num, by rw [List.length_drop, LRS.out]; omega, ?_, ?_⟩
        · have e1 : (srow ((txs xs).take k) ++ rs).set k (.string ⟨x.t.toArray⟩) = srow ((txs xs).take (k + 1)) ++ rs.drop 1 := by
            rw [HT.out, List.set_append_right _ _ (by rw [LM.out]; exact Nat.le_refl _), LM.out, Nat.sub_self]
            rcases hrs : rs with _ | ⟨r0, rs'⟩
            · have := LRS.out
              rw [hrs] at this
              simp at this
              omega
            · simp
          rw [e1] at h5
          exact h5
        · have hG2 := HG.out
          exact (kr.then kk (fun i hi _ => by have := kr.size; omega)).then ((Kept.refl (· ≠ G) _).setCell (by simp) _) (fun i hi _ => by omega)
      case measure => simp [intOf]; omega
    · have i1 : ¬ (k : Int) < (xs.length : Int) := by omega
      have hke : k = xs.length := by omega
      have e0 : rs = [] := List.eq_nil_of_length_eq_zero (by omega)
      rw [e0, List.append_nil, hke, List.take_of_length_le (by rw [txs_length]; exact Nat.le_refl _)] at ho
      have HX : Hid (wr.ownsRow G 9 1 (.slice (some ⟨G, 0, none⟩) xs.length xs.length) xs.length (srow (txs xs))) := ho
      clear ho e0 lrs lm
      go_wp2
      go_ret
      refine ⟨some ⟨G, 0, none⟩, xs.length, by rw [txs_length]; rfl, ?_, kr⟩
      rw [← HG.out]
      unfold Txs
      rw [txs_length]
      exact HX.out

end Go.Proofs.Ytmcaoimgmgjjiaa
