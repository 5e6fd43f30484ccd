/-
  Texts of the proofs, 3 of 52.
-/
import Derived.Test.YtmcaoimgmgjjiaaWB
import Derived.Lib.ConvBytes
import Derived.Test.YtmcaoimgmgjjiaaWA
import Derived.WalkKit
import Derived.WalkSpells
import Derived.OwnWalk
import Derived.OneCell
import Derived.Laws.Pointers
import Derived.Laws.CopyOwn
import Derived.Deep.AppendLies
import Derived.Deep.AppendSrc
import Derived.Deep.RegionHeld3
import Derived.Deep.QuietTactic
import Derived.BigQuiet
import Derived.Deep.DrawnRows
import Derived.KernelRfl
import Derived.WalkMore
import Derived.ScopeJumps
namespace Go.Proofs.Ytmcaoimgmgjjiaa
open Go.RowKit

theorem own_shape_row {w : World} {b e sz n : Nat} {v : Value} {xs : List Value} (h : w.ownsRow b e sz v n xs) : ∃ ao cap, v = .slice ao n cap := by
  rcases h.2 with ⟨e, h0⟩ | ⟨g, cap, _, e, _⟩
  · exact ⟨_, _, h0 ▸ e⟩
  · exact ⟨_, _, e⟩

def irow (ns : List Nat) : List Value := ns.map fun n => .int .i64 (n : Nat)
theorem irow_append (a b : List Nat) : irow (a ++ b) = irow a ++ irow b := by simp [irow]
theorem irow_get (ns : List Nat) (k : Nat) (h : k < ns.length) : (irow ns)[k]? = some (.int .i64 (ns[k] : Nat)) := by simp [irow, h]
theorem irow_one (ns : List Nat) : ∀ u ∈ irow ns, u.oneCell' = true := by
  intro u hu
  obtain ⟨_, _, rfl⟩ := List.mem_map.1 hu
  rfl
theorem Try.infoInt : (Try.prog.info? 3).map (fun i => (i.zero, i.size, i.bytes)) = some (some (.int .i64 0), 1, 8) := by kernel_rfl

def Its (w : World) (base : Nat) (v : Value) (ns : List Nat) : Prop := w.ownsRow base 3 1 v ns.length (irow ns)
theorem Its.nil (w : World) (base : Nat) : Its w base (.slice none 0 0) [] := World.ownsRow_nil _ _ _ _
theorem Its.kept {p : Nat → Prop} {w w' : World} {base : Nat} {v : Value} {ns : List Nat} (h : Its w base v ns) (hk : Kept p w w') (hp : ∀ k, v.ownBlock = some k → p k) : Its w' base v ns := by
  refine ⟨h.1, ?_⟩
  rcases h.2 with h0 | ⟨g, cap, cur, rfl, hb, hh, rest⟩
  · exact .inl h0
  · exact .inr ⟨g, cap, cur, rfl, hb, (hk.block g (lt_of_block hh) (hp g rfl)).trans hh, rest⟩
theorem Its.fresh {w : World} {base : Nat} {v : Value} {ns : List Nat} (h : Its w base v ns) (o : Obj) : Its (w.alloc o) base v ns := h.kept (p := fun _ => True) ((Kept.refl _ _).alloc o) (fun _ _ => trivial)
theorem Its.at {w : World} {base n cap : Nat} {ao : Option Addr} {ns : List Nat} (h : Its w base (.slice ao n cap) ns) (k : Nat) (hk : k < ns.length) : ∃ g, ao = some ⟨g, 0, none⟩ ∧ w.cell? ⟨g, k, none⟩ = some (.int .i64 (ns[k] : Nat)) := by
  rcases h.2 with ⟨hv, h0⟩ | ⟨g, cap', cur, hv, _⟩
  · omega
  · injection hv with e1 e2 e3
    subst e1 e2 e3
    have h' : w.ownsRow base 3 1 (.slice (some ⟨g, 0, none⟩) ns.length cap) ns.length (irow ns) := h
    exact ⟨g, rfl, (h'.cellAt k (by omega)).trans (irow_get ns k hk)⟩
theorem append_int (w : World) (ty : TypeId) (base : Nat) (v : Value) (ns : List Nat) (h : Its w base v ns) (hb : base ≤ w.heap.size) (G : Nat) (n : Nat) (fr : Nat × Nat) (hG : w.heap[G]? = some (.cells #[.int .i64 (n : Nat)] 3 fr)) (hm : ns.length ≤ 1099511627776) :
    ∃ ao' cap' w', (Builtin.append_ #[22, 22] ty #[v, .slice (some ⟨G, 0, none⟩) 1 1]).run Try.prog w = .ok (.slice ao' (ns.length + 1) cap') w' ∧ Its w' base (.slice ao' (ns.length + 1) cap') (ns ++ [n]) ∧ w.grownBy w' v.ownBlock := by
  obtain ⟨i, hi, hz0, hz1, hz2⟩ := info_parts Try.infoInt
  obtain ⟨v', w', hr, h2, h3, _, h5⟩ := run_append_own_at (P := Try.prog) w base 22 ty 3 i (.int .i64 0) 1 8 Try.underlying22 hi hz0 hz1 hz2 rfl (by decide) v ns.length (irow ns) h ⟨G, 0, none⟩ 1 1 (irow [n]) (by simp [irow]) (World.news_of_block (w := w) hG) (irow_one [n]) (by unfold maxLen; omega) (by omega) hb
  obtain ⟨ao', cap', rfl⟩ := own_shape_row h2
  refine ⟨ao', cap', w', hr, ?_, h3⟩
  unfold Its
  rw [irow_append, List.length_append]
  exact h2
theorem wpList_append_int {w : World} {ops : Array Oper} {rest : List Oper} {o : Oper} {a : Act} {Q : Exit → Act → World → Prop} (hgd : o.guard = none) (sl y : Operand) (ho : o.op = .call { callee := .builtin .append, args := #[sl, y], argTypes := #[22, 22] })
    (base : Nat) (v : Value) (ns : List Nat) (hs : a.eval sl = v) (h : Its w base v ns) (hb : base ≤ w.heap.size) (G : Nat) (hy : a.eval y = .slice (some ⟨G, 0, none⟩) 1 1) (n : Nat) (fr : Nat × Nat) (hG : w.heap[G]? = some (.cells #[.int .i64 (n : Nat)] 3 fr)) (hm : ns.length ≤ 1099511627776)
    (hK : ∀ ao' cap' w', Its w' base (.slice ao' (ns.length + 1) cap') (ns ++ [n]) → w.grownBy w' v.ownBlock → wpList Try.prog ops Q rest (a.put o.dst (.slice ao' (ns.length + 1) cap')) w') : wpList Try.prog ops Q (o :: rest) a w := by
  refine wpList_plain hgd fun K hK' => ?_
  obtain ⟨ao', cap', w', hr, h2, h3⟩ := append_int w o.type base v ns h hb G n fr hG hm
  unfold Oper.wp execOp
  simp only [ho, resolve, invoke, builtin, Sem.run_bind, Sem.run_pure, Result.andThen_ok, List.map_toArray, List.map_cons, List.map_nil, hs, hy, hr]
  exact hK' _ _ (hK ao' cap' w' h2 h3)

theorem Its.shape {w : World} {base : Nat} {v : Value} {ns : List Nat} (h : Its w base v ns) : ∃ ao cap, v = .slice ao ns.length cap := own_shape_row h
set_option maxRecDepth 100000 in
set_option maxHeartbeats 1000000 in
theorem isame_raw {w : World} {b1 b2 : Nat} {a1 a2 : Option Addr} {n c1 c2 : Nat} {xs : List Nat} (h1 : Its w b1 (.slice a1 n c1) xs) (h2 : Its w b2 (.slice a2 n c2) xs) (hn : n = xs.length) (hl : n ≤ 1000000) :
    Calls Try.prog 13 #[.slice a1 n c1, .slice a2 n c2] w fun e w' => e = .returned (.bool true) ∧ ∃ m, w' = w.drewN m := by
  have H1 : Hid (Its w b1 (.slice a1 n c1) xs) := h1
  have H2 : Hid (Its w b2 (.slice a2 n c2) xs) := h2
  have HN : Hid (n = xs.length) := hn
  clear h1 h2 hn
  go_enter Try.func13, Try.ntmps13
  go_wp2
  go_loopw [5] (fun t wr => ∃ k m : Nat, k ≤ n ∧ t = .int .i64 k ∧ wr = w.drewN m) (fun t _ => n - (intOf t).toNat)
  case atStart => exact ⟨0, 0, Nat.zero_le _, rfl, rfl⟩
  case round =>
    obtain ⟨k, m, hk, rfl, rfl⟩ := hrel
    by_cases hlt : k < n
    · obtain ⟨G1, rfl, q1⟩ := H1.out.at k (by have := HN.out; omega)
      obtain ⟨G2, rfl, q2⟩ := H2.out.at k (by have := HN.out; omega)
      generalize xs[k]'(by have := HN.out; omega) = y at *
      have hkl : (k : Int) < (n : Int) := by omega
      have hk0 : (0 : Int) ≤ (k : Int) := by omega
      go_wp2
      go_quiet (fail)
      go_wp2
      go_roundw
      case rel => exact ⟨k + 1, _, by omega, by go_num, rfl⟩
      case measure => simp [intOf]; omega
    · have hkn : k = n := by omega
      subst hkn
      go_wp2
      go_ret
      exact ⟨rfl, _, rfl⟩
theorem isame_any {w : World} {b1 b2 : Nat} {v1 v2 : Value} {xs : List Nat} (h1 : Its w b1 v1 xs) (h2 : Its w b2 v2 xs) (hl : xs.length ≤ 1000000) :
    Calls Try.prog 13 #[v1, v2] w fun e w' => e = .returned (.bool true) ∧ ∃ m, w' = w.drewN m := by
  obtain ⟨a1, c1, rfl⟩ := h1.shape
  obtain ⟨a2, c2, rfl⟩ := h2.shape
  exact isame_raw h1 h2 rfl hl

end Go.Proofs.Ytmcaoimgmgjjiaa

namespace Go.Proofs.Ytmcaoimgmgjjiaa
open Go.RowKit

set_option maxRecDepth 100000 in
set_option maxHeartbeats 2000000 in
theorem with_any {w : World} (K : K4) (k : Nat) (hk : k = 1 ∨ k = 2 ∨ k = 3 ∨ k = 4) :
    Calls Try.prog 39 #[.int .i64 (K.val : Nat), .int .i64 (k : Nat)] w fun e w' => e = .returned (.int .i64 ((K.put k).val : Nat)) ∧ w' = w := by
  obtain ⟨n, hn⟩ : ∃ n : Nat, n = K.val := ⟨_, rfl⟩
  obtain ⟨m, hm⟩ : ∃ m : Nat, m = (K.put k).val := ⟨_, rfl⟩
  rw [← hn, ← hm]
  have hb : bits BinOp.or .i64 (n : Int) ((2 ^ k : Nat) : Int) = (m : Int) := by
    subst hn hm
    obtain ⟨o, p, c, a⟩ := K
    rcases hk with rfl | rfl | rfl | rfl <;> cases o <;> cases p <;> cases c <;> cases a <;> decide
  clear hn hm
  rcases hk with rfl | rfl | rfl | rfl
  all_goals
    simp only [Nat.reducePow] at hb
    go_enter Try.func39, Try.ntmps39
    go_wp2
    go_ret
    exact ⟨congrArg (fun z => Ending.returned (.int .i64 z)) hb, rfl⟩
set_option maxRecDepth 100000 in
set_option maxHeartbeats 2000000 in
theorem has_any {w : World} (K : K4) (k : Nat) (hk : k = 1 ∨ k = 2 ∨ k = 3 ∨ k = 4) :
    Calls Try.prog 40 #[.int .i64 (K.val : Nat), .int .i64 (k : Nat)] w fun e w' => e = .returned (.bool (K.has k)) ∧ w' = w := by
  obtain ⟨n, hn⟩ : ∃ n : Nat, n = K.val := ⟨_, rfl⟩
  obtain ⟨m, hm⟩ : ∃ m : Bool, m = K.has k := ⟨_, rfl⟩
  rw [← hn, ← hm]
  have hb : (bits BinOp.and .i64 ((n / 2 ^ k : Nat) : Int) 1 == 1) = m := by
    subst hn hm
    obtain ⟨o, p, c, a⟩ := K
    rcases hk with rfl | rfl | rfl | rfl <;> cases o <;> cases p <;> cases c <;> cases a <;> decide
  clear hn hm
  rcases hk with rfl | rfl | rfl | rfl
  all_goals
    simp only [Nat.reducePow] at hb
    go_enter Try.func40, Try.ntmps40
    go_wp2
    go_ret
    exact ⟨congrArg (fun z => Ending.returned (.bool z)) hb, rfl⟩

def Gv (w : World) (a : Option Addr) (gs : List Nat) : Prop :=
  0 < gs.length → ∃ b off, a = some ⟨b, off, none⟩ ∧ b < w.heap.size ∧ ∀ i (h : i < gs.length), w.cell? ⟨b, off + i, none⟩ = some (.int .i64 (gs[i] : Nat))
theorem Gv.all {w w' : World} {a : Option Addr} {gs : List Nat} (h : Gv w a gs) (k : Kept (fun _ => True) w w') : Gv w' a gs := fun h0 => by
  obtain ⟨b, off, e, hb, hc⟩ := h h0
  exact ⟨b, off, e, Nat.lt_of_lt_of_le hb k.size, fun i hi => (kept_cell k hb trivial).trans (hc i hi)⟩
theorem Its.gv {w : World} {base n cap : Nat} {ao : Option Addr} {gs : List Nat} (h : Its w base (.slice ao n cap) gs) : Gv w ao gs := fun h0 => by
  obtain ⟨g, rfl, h1⟩ := h.at 0 h0
  refine ⟨g, 0, rfl, World.block_lt_of_cell? w _ h1, fun i hi => ?_⟩
  obtain ⟨g', e, h2⟩ := h.at i hi
  injection e with e
  injection e with e
  subst e
  rw [Nat.zero_add]
  exact h2
def Ur.val (r : Ur) (a : Option Addr) (c : Nat) : Value := .agg #[.int .i64 (r.k : Nat), .string ⟨r.tx.toArray⟩, .slice a r.gs.length c, .string ⟨r.bd.toArray⟩]

theorem upG_cons (a : Int) (g : Nat) (t : List Nat) : upG a (g :: t) = (decide (a < (g : Int)) && decide (g < 3) && upG g t) := rfl
set_option maxRecDepth 100000 in
set_option maxHeartbeats 2000000 in
theorem rising_any {w : World} {ao : Option Addr} {cap : Nat} {gs : List Nat} (h : Gv w ao gs) (hn : gs.length ≤ 100000) :
    Calls Try.prog 78 #[.slice ao gs.length cap] w fun e w' => e = .returned (.bool (upG (-1) gs)) ∧ ∃ n, w' = w.drewN n := by
  have HV : Hid (Gv w ao gs) := h
  clear h
  obtain ⟨R, hR⟩ : ∃ R, R = upG (-1) gs := ⟨_, rfl⟩
  rw [← hR]
  have HR : Hid (upG (-1) gs = R) := hR.symm
  clear hR
  go_enter Try.func78, Try.ntmps78
  go_wp2
  go_loopw [8, 3] (fun t u wr => ∃ (i m : Nat) (q : Int), i ≤ gs.length ∧ t = .int .i64 i ∧ u = .int .i64 q ∧ upG q (gs.drop i) = R ∧ -1 ≤ q ∧ q < 1000 ∧ wr = w.drewN m) (fun t _ _ => gs.length - (intOf t).toNat)
  case atStart => exact ⟨0, 0, -1, Nat.zero_le _, rfl, rfl, by rw [List.drop_zero, HR.out], by omega, by omega, rfl⟩
  case round =>
    obtain ⟨i, m, q, hi, rfl, rfl, hq, q0, q1, rfl⟩ := hrel
    by_cases hlt : i < gs.length
    · obtain ⟨b, off, rfl, hb, hc⟩ := HV.out (by omega)
      have c0 := hc i hlt
      have i0 : (0 : Int) ≤ (i : Int) := by omega
      have i1 : (i : Int) < (gs.length : Int) := by omega
      rw [← List.getElem_cons_drop hlt, upG_cons] at hq
      clear hc
      generalize gs[i] = g at *
      have HQ : Hid ((decide (q < (g : Int)) && decide (g < 3) && upG g (gs.drop (i + 1))) = R) := hq
      clear hq
      by_cases h1 : q < (g : Int)
      · by_cases h2 : g < 3
        · have n1 : ¬ (g : Int) ≤ q := by omega
          have n2 : ¬ (g : Int) ≥ 3 := by omega
          have n3 : ¬ (3 : Int) ≤ (g : Int) := by omega
          have HQ2 : Hid (upG g (gs.drop (i + 1)) = R) := by have := HQ.out; show _ = _; simpa [h1, h2] using this
          clear HQ
          go_wp2
          go_roundw
          case rel => exact ⟨i + 1, m, (g : Int), by omega, by go_num, rfl, HQ2.out, by omega, by omega, rfl⟩
          case measure => simp [intOf]; omega
        · have n1 : ¬ (g : Int) ≤ q := by omega
          have n2 : (g : Int) ≥ 3 := by omega
          have n3 : (3 : Int) ≤ (g : Int) := by omega
          have HQ2 : false = R := by have := HQ.out; simpa [h2] using this
          subst HQ2
          clear HQ
          go_wp2
          go_ret
          exact ⟨rfl, m, rfl⟩
      · have n1 : (g : Int) ≤ q := by omega
        have HQ2 : false = R := by have := HQ.out; simpa [h1] using this
        subst HQ2
        clear HQ
        go_wp2
        go_ret
        exact ⟨rfl, m, rfl⟩
    · have i1 : ¬ (i : Int) < (gs.length : Int) := by omega
      have HQ2 : true = R := by rw [← hq, List.drop_eq_nil_of_le (by omega)]; rfl
      subst HQ2
      go_wp2
      go_ret
      exact ⟨rfl, m, rfl⟩

end Go.Proofs.Ytmcaoimgmgjjiaa

namespace Go.Proofs.Ytmcaoimgmgjjiaa
open Go.RowKit

theorem conv_strU (w : World) (bs : List UInt8) : ∃ cap w1, (convert 9 25 (.string ⟨bs.toArray⟩)).run Try.prog w = .ok (.slice (some ⟨w.heap.size, 0, none⟩) bs.length cap) w1 ∧ Has w1 (some ⟨w.heap.size, 0, none⟩) bs ∧ Kept (fun _ => True) w w1 := by
  have hc : ∀ j (hj : j < bs.length), (Lib.bytesWorld w 5 ⟨bs.toArray⟩).cell? ⟨w.heap.size, j, none⟩ = some (.int .u8 (bs[j]).toNat) := fun j hj => by
    rw [Lib.bytesWorld_cell w 5 ⟨bs.toArray⟩ j hj]
    simp [List.getD, List.getElem?_eq_getElem hj]
  refine ⟨_, _, Lib.run_convert_string_bytes (P := Try.prog) w 9 25 5 ⟨bs.toArray⟩ Try.underlying9 Try.underlying25 Try.underlying5, ?_, ?_⟩
  · intro _
    refine ⟨_, rfl, fun j hj => ?_⟩
    rw [WideShapes.add_plain, Nat.zero_add]
    exact hc j hj
  · refine ⟨rfl, rfl, rfl, ?_, fun k hk _ => Lib.bytesWorld_at_old w _ _ k hk⟩
    rw [Lib.bytesWorld_size]
    omega

end Go.Proofs.Ytmcaoimgmgjjiaa

namespace Go.Proofs.Ytmcaoimgmgjjiaa
open Go.RowKit

structure Wr (w : World) (B : Nat) (G : Option Nat) (v : Value) (bs : List UInt8) : Prop where
  self : w.heap[B]? = some (.cells #[v] 142 (0, 0))
  own : w.ownsRow 0 5 1 v bs.length (cells bs)
  row : v.ownBlock = G

theorem Wr.ne {w : World} {B : Nat} {G : Option Nat} {v : Value} {bs : List UInt8} (h : Wr w B G v bs) : G ≠ some B := by
  intro e
  rcases h.own.2 with ⟨hv, _⟩ | ⟨g, cap, cur, hv, _, hh, _⟩
  · have := h.row; rw [hv, e] at this; simp [Value.ownBlock] at this
  · have := h.row; rw [hv, e] at this; simp [Value.ownBlock] at this
    subst this
    rw [h.self] at hh
    simp at hh
theorem Wr.lt {w : World} {B : Nat} {G : Option Nat} {v : Value} {bs : List UInt8} (h : Wr w B G v bs) : B < w.heap.size := lt_of_block h.self
theorem Wr.rowlt {w : World} {B : Nat} {G : Option Nat} {v : Value} {bs : List UInt8} (h : Wr w B G v bs) : ∀ k, G = some k → k < w.heap.size := fun k hk => (h.own.lt k (h.row.trans hk)).2
theorem Wr.kept {p : Nat → Prop} {w w' : World} {B : Nat} {G : Option Nat} {v : Value} {bs : List UInt8} (h : Wr w B G v bs) (hk : Kept p w w') (hB : p B) (hG : ∀ k, G = some k → p k) : Wr w' B G v bs := by
  refine ⟨(hk.block B h.lt hB).trans h.self, ⟨h.own.1, ?_⟩, h.row⟩
  rcases h.own.2 with hn | ⟨g, cap, cur, hv, hb, hh, rest⟩
  · exact .inl hn
  · refine .inr ⟨g, cap, cur, hv, hb, ?_, rest⟩
    have hg : G = some g := by rw [← h.row, hv]; rfl
    rw [hk.block g (h.rowlt g hg) (hG g hg)]
    exact hh

structure Rd (w : World) (B R : Nat) (bs : List UInt8) (cap : Nat) (at_ why : Int) : Prop where
  self : w.heap[B]? = some (.cells #[.slice (some ⟨R, 0, none⟩) bs.length cap, .int .i64 at_, .int .i64 why] 137 (0, 0))
  row : ∃ cur : Array Value, w.heap[R]? = some (.cells cur 5 (0, 0)) ∧ cur.toList.take bs.length = cells bs ∧ bs.length ≤ cap
theorem Rd.lt {w : World} {B R : Nat} {bs : List UInt8} {cap : Nat} {a y : Int} (h : Rd w B R bs cap a y) : B < w.heap.size := lt_of_block h.self
theorem Rd.rowlt {w : World} {B R : Nat} {bs : List UInt8} {cap : Nat} {a y : Int} (h : Rd w B R bs cap a y) : R < w.heap.size := by
  obtain ⟨cur, hc, _⟩ := h.row; exact lt_of_block hc
theorem Rd.ne {w : World} {B R : Nat} {bs : List UInt8} {cap : Nat} {a y : Int} (h : Rd w B R bs cap a y) : B ≠ R := by
  rintro rfl
  obtain ⟨cur, hc, _⟩ := h.row
  rw [h.self] at hc
  simp at hc
theorem Rd.kept {p : Nat → Prop} {w w' : World} {B R : Nat} {bs : List UInt8} {cap : Nat} {a y : Int} (h : Rd w B R bs cap a y) (hk : Kept p w w') (hB : p B) (hR : p R) : Rd w' B R bs cap a y := by
  refine ⟨(hk.block B h.lt hB).trans h.self, ?_⟩
  obtain ⟨cur, hc, r⟩ := h.row
  exact ⟨cur, (hk.block R h.rowlt hR).trans hc, r⟩
theorem Rd.byte {w : World} {B R : Nat} {bs : List UInt8} {cap : Nat} {a y : Int} (h : Rd w B R bs cap a y) (k : Nat) (hk : k < bs.length) : w.cell? ⟨R, k, none⟩ = some (.int .u8 (bs[k]).toNat) := by
  obtain ⟨cur, hc, ht, _⟩ := h.row
  rw [cell_of_row w R k cur _ _ hc]
  have := cells_getElem bs k hk
  rw [← ht, List.getElem?_take, if_pos hk] at this
  simpa using this

theorem wthree_cell {w : World} {b : Nat} {x y z : Value} {t : TypeId} (h : w.heap[b]? = some (.cells #[x, y, z] t (0, 0))) :
    w.cell? ⟨b, 0, none⟩ = some x ∧ w.cell? ⟨b, 1, none⟩ = some y ∧ w.cell? ⟨b, 2, none⟩ = some z ∧ (∀ k, w.frozen? ⟨b, k, none⟩ = false) := by
  refine ⟨by simp [World.cell?, h], by simp [World.cell?, h], by simp [World.cell?, h], fun k => by simp [World.frozen?, h]⟩
theorem wthree_set {w : World} {b : Nat} {x y z : Value} {t : TypeId} (h : w.heap[b]? = some (.cells #[x, y, z] t (0, 0))) (u : Value) :
    (w.setCell ⟨b, 1, none⟩ u).heap[b]? = some (.cells #[x, u, z] t (0, 0)) ∧ (w.setCell ⟨b, 2, none⟩ u).heap[b]? = some (.cells #[x, y, u] t (0, 0)) := by
  have hlt := lt_of_block h
  have h' : w.heap[b] = .cells #[x, y, z] t (0, 0) := by simpa [Array.getElem?_eq_getElem hlt] using h
  constructor
  · show (w.heap.modify b _)[b]? = _
    rw [Array.getElem?_eq_getElem (by simpa using hlt), Array.getElem_modify_self, h']
    rfl
  · show (w.heap.modify b _)[b]? = _
    rw [Array.getElem?_eq_getElem (by simpa using hlt), Array.getElem_modify_self, h']
    rfl
theorem Rd.setAt {w : World} {B R : Nat} {bs : List UInt8} {cap : Nat} {a y : Int} (h : Rd w B R bs cap a y) (a' : Int) : Rd (w.setCell ⟨B, 1, none⟩ (.int .i64 a')) B R bs cap a' y := by
  refine ⟨(wthree_set h.self _).1, ?_⟩
  obtain ⟨cur, hc, r⟩ := h.row
  exact ⟨cur, by rw [Below.heap_setCell _ _ _ _ (Ne.symm h.ne)]; exact hc, r⟩
theorem Rd.setWhy {w : World} {B R : Nat} {bs : List UInt8} {cap : Nat} {a y : Int} (h : Rd w B R bs cap a y) (y' : Int) : Rd (w.setCell ⟨B, 2, none⟩ (.int .i64 y')) B R bs cap a y' := by
  refine ⟨(wthree_set h.self _).2, ?_⟩
  obtain ⟨cur, hc, r⟩ := h.row
  exact ⟨cur, by rw [Below.heap_setCell _ _ _ _ (Ne.symm h.ne)]; exact hc, r⟩
theorem Rd.drewN {w : World} {B R : Nat} {bs : List UInt8} {cap : Nat} {a y : Int} (h : Rd w B R bs cap a y) (n : Nat) : Rd (w.drewN n) B R bs cap a y := ⟨h.self, h.row⟩

end Go.Proofs.Ytmcaoimgmgjjiaa

namespace Go.Proofs.Ytmcaoimgmgjjiaa
open Go.RowKit

set_option maxRecDepth 100000 in
set_option maxHeartbeats 400000 in
theorem left_any {w : World} {B R : Nat} {bs : List UInt8} {cap at_ : Nat} {why : Int} (h : Rd w B R bs cap at_ why) (hn : (bs.length : Int) ≤ 140737488355328) (ha : at_ ≤ bs.length) :
    Calls Try.prog 71 #[.pointer (some ⟨B, 0, none⟩)] w fun e w' => e = .returned (.int .i64 (leftOf bs.length at_ why)) ∧ ∃ n, w' = w.drewN n := by
  obtain ⟨c0, c1, c2, hf⟩ := wthree_cell h.self
  have ha' : (at_ : Int) ≤ (bs.length : Int) := by omega
  by_cases hy : why = 0
  · subst hy
    go_enter Try.func71, Try.ntmps71
    go_wp2
    go_quiet (fail)
    go_wp2
    go_ret
    exact ⟨by simp [leftOf], _, rfl⟩
  · have hy' : (why == 0) = false := by simp [hy]
    go_enter Try.func71, Try.ntmps71
    go_wp2
    go_ret
    exact ⟨by simp [leftOf, hy], 0, rfl⟩

set_option maxRecDepth 100000 in
set_option maxHeartbeats 400000 in
theorem refuse_yes {w : World} {B R : Nat} {bs : List UInt8} {cap : Nat} {at_ : Int} (why a : Int) (h : Rd w B R bs cap at_ 0) (hw : why ≠ 0) :
    Calls Try.prog 90 #[.pointer (some ⟨B, 0, none⟩), .int .i64 why, .int .i64 a] w fun e w' => e = .returned (.tuple #[]) ∧ Rd w' B R bs cap a why ∧ Kept (· ≠ B) w w' := by
  obtain ⟨c0, c1, c2, hf⟩ := wthree_cell h.self
  have hw' : (why == 0) = false := by simp [hw]
  have hw2 : (why != 0) = true := by simp [hw]
  have c1' : (w.setCell ⟨B, 2, none⟩ (.int .i64 why)).cell? ⟨B, 1, none⟩ = some (.int .i64 at_) := (wthree_cell (h.setWhy why).self).2.1
  go_enter Try.func90, Try.ntmps90
  go_wp2
  go_end0
  exact ⟨rfl, (h.setWhy why).setAt a, ((Kept.refl _ _).setCell (by simp) _).setCell (by simp) _⟩

set_option maxRecDepth 100000 in
set_option maxHeartbeats 400000 in
theorem refuse_no {w : World} {B R : Nat} {bs : List UInt8} {cap : Nat} {at_ y : Int} (why a : Int) (h : Rd w B R bs cap at_ y) (hw : y ≠ 0 ∨ why = 0) :
    Calls Try.prog 90 #[.pointer (some ⟨B, 0, none⟩), .int .i64 why, .int .i64 a] w fun e w' => e = .returned (.tuple #[]) ∧ w' = w := by
  obtain ⟨c0, c1, c2, hf⟩ := wthree_cell h.self
  by_cases hy : y = 0
  · subst hy
    have hz : why = 0 := by omega
    subst hz
    go_enter Try.func90, Try.ntmps90
    go_wp2
    go_end0
    exact ⟨rfl, rfl⟩
  · have hy' : (y == 0) = false := by simp [hy]
    go_enter Try.func90, Try.ntmps90
    go_wp2
    go_end0
    exact ⟨rfl, rfl⟩

end Go.Proofs.Ytmcaoimgmgjjiaa

namespace Go.Proofs.Ytmcaoimgmgjjiaa
open Go.RowKit

set_option maxRecDepth 100000 in
set_option maxHeartbeats 400000 in
theorem has_yes {w : World} {B R : Nat} {bs : List UInt8} {cap at_ : Nat} {why : Int} (n : Int) (h : Rd w B R bs cap at_ why) (hn : (bs.length : Int) ≤ 140737488355328) (ha : at_ ≤ bs.length) (hl : n ≤ leftOf bs.length at_ why) :
    Calls Try.prog 77 #[.pointer (some ⟨B, 0, none⟩), .int .i64 n] w fun e w' => e = .returned (.bool true) ∧ ∃ n, w' = w.drewN n := by
  generalize hL : leftOf bs.length at_ why = L at hl
  have HL : Hid (leftOf bs.length at_ why = L) := hL
  clear hL
  go_enter Try.func77, Try.ntmps77
  go_wp2_with (go_at_call 71; refine (left_any h hn ha).mono ?_; rintro e w' ⟨rfl, nd, rfl⟩; rw [HL.out])
  go_ret
  exact ⟨rfl, nd, rfl⟩

set_option maxRecDepth 100000 in
set_option maxHeartbeats 400000 in
theorem has_no {w : World} {B R : Nat} {bs : List UInt8} {cap at_ : Nat} {why : Int} (n : Int) (h : Rd w B R bs cap at_ why) (hn : (bs.length : Int) ≤ 140737488355328) (ha : at_ ≤ bs.length) (hl : leftOf bs.length at_ why < n) :
    Calls Try.prog 77 #[.pointer (some ⟨B, 0, none⟩), .int .i64 n] w fun e w' => e = .returned (.bool false) ∧
      (why = 0 → Rd w' B R bs cap bs.length 10) ∧ (why ≠ 0 → Rd w' B R bs cap at_ why) ∧ Kept (· ≠ B) w w' := by
  generalize hL : leftOf bs.length at_ why = L at hl
  have HL : Hid (leftOf bs.length at_ why = L) := hL
  clear hL
  obtain ⟨c0, c1, c2, hf⟩ := wthree_cell h.self
  by_cases hy : why = 0
  · subst hy
    go_enter Try.func77, Try.ntmps77
    go_wp2_with (first
      | (go_at_call 71; refine (left_any h hn ha).mono ?_; rintro e w' ⟨rfl, nd, rfl⟩; rw [HL.out])
      | (go_at_call 90; refine (refuse_yes 10 _ (h.drewN _) (by omega)).mono ?_; rintro e w' ⟨rfl, hr, hk⟩))
    go_ret
    exact ⟨rfl, fun _ => hr, fun hh => absurd rfl hh, (Kept.refl _ _).drewN nd |>.trans hk⟩
  · have HY : Hid (why ≠ 0) := hy
    go_enter Try.func77, Try.ntmps77
    go_wp2_with (first
      | (go_at_call 71; refine (left_any h hn ha).mono ?_; rintro e w' ⟨rfl, nd, rfl⟩; rw [HL.out])
      | (go_at_call 90; refine (refuse_no 10 _ (h.drewN _) (.inl HY.out)).mono ?_; rintro e w' ⟨rfl, rfl⟩))
    go_ret
    exact ⟨rfl, fun hh => absurd hh HY.out, fun _ => h.drewN _, (Kept.refl _ _).drewN nd⟩

end Go.Proofs.Ytmcaoimgmgjjiaa

namespace Go.Proofs.Ytmcaoimgmgjjiaa
open Go.RowKit

def Jm (w : World) (B R : Nat) (bs : List UInt8) (cap at_ k : Nat) (a' : Act) (w' : World) : Prop :=
  ∃ m j : Nat, m + j = k ∧ 1 ≤ m ∧ Rd w' B R bs cap ((at_ + j : Nat) : Int) 0 ∧ Kept (· ≠ B) w w' ∧ ∃ u6 u7 u8 u9 u10 u11 u12 u13 u14 u15 u16 u17 u18 u19 u20 u21 u22 u23 u24 u25 u26 u27 u28 u29 u30 u31 u32 u33 u34 u35 : Value,
    a' = { tmps := #[.pointer (some ⟨B, 0, none⟩), .int .i64 m, undef, undef, .int .u64 0, .int .u64 (be ((bs.drop at_).take j)), u6, u7, u8, u9, u10, u11, u12, u13, u14, u15, u16, u17, u18, u19, u20, u21, u22, u23, u24, u25, u26, u27, u28, u29, u30, u31, u32, u33, u34, u35], defers := [] }

theorem step_be (bs : List UInt8) (a j N : Nat) (h : a + j < bs.length) (hN : be ((bs.drop a).take j) = N) (h56 : N < 72057594037927936) :
    bits BinOp.or .u64 ((N : Int) * 256) (IntKind.u64.wrap ((bs[a + j]).toNat : Int)) = ((be ((bs.drop a).take (j + 1)) : Nat) : Int) := by
  rw [or_byte _ _ h56, take_drop_snoc bs a j h, be_snoc, hN]

set_option maxRecDepth 100000 in
set_option maxHeartbeats 800000 in
theorem number_yes {w : World} {B R : Nat} {bs : List UInt8} {cap at_ : Nat} (k : Nat) (h : Rd w B R bs cap at_ 0) (hn : (bs.length : Int) ≤ 140737488355328) (hk1 : 1 ≤ k) (hk8 : k ≤ 8) (hl : at_ + k ≤ bs.length) :
    Calls Try.prog 76 #[.pointer (some ⟨B, 0, none⟩), .int .i64 k] w fun e w' => e = .returned (.int .u64 (be ((bs.drop at_).take k))) ∧ Rd w' B R bs cap ((at_ + k : Nat) : Int) 0 ∧ Kept (· ≠ B) w w' := by
  have HL : (k : Int) ≤ leftOf bs.length at_ 0 := by simp [leftOf]; omega
  go_enter Try.func76, Try.ntmps76
  go_wp2
  refine wp_scope_jumps 0 (Jm w B R bs cap at_ k) (fun a' _ => (intOf (a'.tmps.getD 1 undef)).toNat) rfl ?_ ?_
  · obtain ⟨c0, c1, c2, hf⟩ := wthree_cell h.self
    have hj : at_ + 0 < bs.length := by omega
    have hb := h.byte at_ (by omega)
    have S := step_be bs at_ 0 0 hj (by simp [be]) (by decide)
    have S' : bits BinOp.or .u64 0 (IntKind.u64.wrap ((bs[at_]).toNat : Int)) = ((be ((bs.drop at_).take 1) : Nat) : Int) := by simpa using S
    clear S
    have w0 : IntKind.u64.wrap 0 = 0 := by decide
    generalize hM : be ((bs.drop at_).take 1) = M at *
    have HM : Hid (be ((bs.drop at_).take 1) = M) := hM
    clear hM
    have hj' : (at_ : Int) < (bs.length : Int) := by omega
    go_wp2_with (go_at_call 77; refine (has_yes _ h hn (by omega) HL).mono ?_; rintro e w' ⟨rfl, nd, rfl⟩)
    go_step3
    go_wp2
    go_quiet (fail)
    go_wp2
    · go_step3
      rw [← HM.out, show (k : Int) - 1 = ((k - 1 : Nat) : Int) from by omega]
      exact ⟨rfl, k - 1, 1, by omega, by omega, (h.drewN _).setAt _, ((Kept.refl _ _).drewN _).setCell (by simp) _, _, _, _, _, _, _, _, _, _, _, _, _, _, _, _, _, _, _, _, _, _, _, _, _, _, _, _, _, _, _, rfl⟩
    · simp only [Exit.jump]
      go_ret
      have hk : k = 1 := by omega
      subst hk
      rw [HM.out]
      exact ⟨rfl, (h.drewN _).setAt _, ((Kept.refl _ _).drewN _).setCell (by simp) _⟩
  · rintro a' w' ⟨m, j, hmj, hm, hr, hk, u6, u7, u8, u9, u10, u11, u12, u13, u14, u15, u16, u17, u18, u19, u20, u21, u22, u23, u24, u25, u26, u27, u28, u29, u30, u31, u32, u33, u34, u35, rfl⟩
    obtain ⟨c0, c1, c2, hf⟩ := wthree_cell hr.self
    have hj : at_ + j < bs.length := by omega
    have hb := hr.byte (at_ + j) hj
    have hN : be ((bs.drop at_).take j) < 72057594037927936 := be_lt56 _ (by simp; omega)
    have S := step_be bs at_ j _ hj rfl hN
    generalize be ((bs.drop at_).take j) = N at *
    generalize hM : be ((bs.drop at_).take (j + 1)) = M at *
    have HM : Hid (be ((bs.drop at_).take (j + 1)) = M) := hM
    clear hM
    go_wp2
    go_quiet (fail)
    go_wp2
    · go_step3
      rw [← HM.out, show (m : Int) - 1 = ((m - 1 : Nat) : Int) from by omega]
      refine ⟨rfl, ⟨m - 1, j + 1, by omega, by omega, (hr.drewN nq).setAt _, (hk.drewN nq).setCell (by simp) _, _, _, _, _, _, _, _, _, _, _, _, _, _, _, _, _, _, _, _, _, _, _, _, _, _, _, _, _, _, _, rfl⟩, ?_⟩
      simp [intOf]; omega
    · simp only [Exit.jump]
      go_ret
      have hk1 : m = 1 := by omega
      subst hk1
      obtain rfl : k = j + 1 := by omega
      rw [HM.out]
      exact ⟨rfl, (hr.drewN nq).setAt _, (hk.drewN nq).setCell (by simp) _⟩
end Go.Proofs.Ytmcaoimgmgjjiaa
