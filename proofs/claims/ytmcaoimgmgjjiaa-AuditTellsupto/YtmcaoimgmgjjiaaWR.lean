/-
  Texts of the proofs, 18 of 52.
-/
import Derived.Test.YtmcaoimgmgjjiaaWC
import Derived.Test.YtmcaoimgmgjjiaaWI
namespace Go.Proofs.Ytmcaoimgmgjjiaa
open Go.RowKit

set_option maxRecDepth 100000 in
set_option maxHeartbeats 2000000 in
theorem equalI_any {w : World} {a1 a2 : Option Addr} {c1 c2 : Nat} {xs ys : List Nat} (h1 : Gv w a1 xs) (h2 : Gv w a2 ys) (hl : xs.length ≤ 1000000) :
    Calls Try.prog 83 #[.slice a1 xs.length c1, .slice a2 ys.length c2] w fun e w' => e = .returned (.bool (decide (xs = ys))) ∧ ∃ m, w' = w.drewN m := by
  have H1 : Hid (Gv w a1 xs) := h1
  have H2 : Hid (Gv w a2 ys) := h2
  clear h1 h2
  obtain ⟨R, hR⟩ : ∃ R, R = decide (xs = ys) := ⟨_, rfl⟩
  rw [← hR]
  have HR : Hid (R = decide (xs = ys)) := hR
  clear hR
  by_cases hlen : xs.length = ys.length
  · obtain ⟨n, hn⟩ : ∃ n, xs.length = n := ⟨_, rfl⟩
    have hn2 : ys.length = n := by omega
    rw [hn, hn2]
    have HN : Hid (xs.length = n ∧ ys.length = n) := ⟨hn, hn2⟩
    clear hlen hn2
    rw [hn] at hl
    clear hn
    go_enter Try.func83, Try.ntmps83
    go_wp2
    go_loopw [13] (fun t wr => ∃ k m : Nat, k ≤ n ∧ t = .int .i64 k ∧ xs.take k = ys.take k ∧ wr = w.drewN m) (fun t _ => n - (intOf t).toNat)
    case atStart => exact ⟨0, 0, Nat.zero_le _, rfl, rfl, rfl⟩
    case round =>
      obtain ⟨k, m, hk, rfl, ht, rfl⟩ := hrel
      have HT : Hid (xs.take k = ys.take k) := ht
      clear ht
      by_cases hlt : k < n
      · have hx : k < xs.length := by have := HN.out; omega
        have hy : k < ys.length := by have := HN.out; omega
        obtain ⟨b1, o1, rfl, _, q1⟩ := H1.out (by omega)
        obtain ⟨b2, o2, rfl, _, q2⟩ := H2.out (by omega)
        have r1 := q1 k hx
        have r2 := q2 k hy
        clear q1 q2
        have HI : Hid (k < n) := hlt
        have hkl : (k : Int) < (n : Int) := by omega
        have hk0 : (0 : Int) ≤ (k : Int) := by omega
        by_cases he : xs[k] = ys[k]
        · have HT2 : Hid (xs.take (k + 1) = ys.take (k + 1)) := by
            show _ = _
            rw [List.take_succ_eq_append_getElem hx, List.take_succ_eq_append_getElem hy, HT.out, he]
          rw [he] at r1
          generalize ys[k] = y at *
          clear he hx hy hlt
          go_wp2
          go_quiet (fail)
          go_wp2
          go_roundw
          case rel => exact ⟨k + 1, _, by have := HI.out; omega, by go_num, HT2.out, rfl⟩
          case measure => have := HI.out; simp [intOf]; omega
        · have HRF : Hid (R = false) := by
            show _ = _
            rw [HR.out, decide_eq_false_iff_not]
            intro e
            subst e
            exact he rfl
          have hne : ((xs[k] : Int) != (ys[k] : Int)) = true := by simp only [bne_iff_ne]; omega
          have hne2 : ((xs[k] : Int) == (ys[k] : Int)) = false := by simp only [beq_eq_false_iff_ne]; omega
          generalize ys[k] = y at *
          generalize xs[k] = x at *
          clear he hx hy hlt
          go_wp2
          go_quiet (fail)
          go_wp2
          go_ret
          exact ⟨by rw [HRF.out]; rfl, _, drew_two _ _ _⟩
      · have hkn : k = n := by omega
        subst hkn
        have HRT : Hid (R = true) := by
          show _ = _
          rw [HR.out, decide_eq_true_iff]
          have := HT.out
          rwa [List.take_of_length_le (by have := HN.out; omega), List.take_of_length_le (by have := HN.out; omega)] at this
        go_wp2
        go_ret
        exact ⟨by rw [HRT.out]; rfl, _, rfl⟩
  · have hne : ((xs.length : Int) != (ys.length : Int)) = true := by simp only [bne_iff_ne]; omega
    have hne2 : ((xs.length : Int) == (ys.length : Int)) = false := by simp only [beq_eq_false_iff_ne]; omega
    have HRF : Hid (R = false) := by
      show _ = _
      rw [HR.out, decide_eq_false_iff_not]
      intro e
      exact hlen (by rw [e])
    clear HR hlen
    go_enter Try.func83, Try.ntmps83
    go_wp2
    go_ret
    exact ⟨by rw [HRF.out]; rfl, 0, rfl⟩

def idxG (gs : List Nat) (g : Int) (k : Int) : Prop := (k = -1 ∧ ∀ x ∈ gs, (x : Int) ≠ g) ∨ (0 ≤ k ∧ ∃ x ∈ gs, (x : Int) = g)
set_option maxRecDepth 100000 in
set_option maxHeartbeats 2000000 in
theorem indexI_any {w : World} {a1 : Option Addr} {c1 : Nat} {xs : List Nat} (g : Int) (h1 : Gv w a1 xs) (hl : xs.length ≤ 1000000) :
    Calls Try.prog 85 #[.slice a1 xs.length c1, .int .i64 g] w fun e w' => (∃ k, e = .returned (.int .i64 k) ∧ idxG xs g k) ∧ ∃ m, w' = w.drewN m := by
  have H1 : Hid (Gv w a1 xs) := h1
  clear h1
  go_enter Try.func85, Try.ntmps85
  go_wp2
  go_loopw [8] (fun t wr => ∃ k m : Nat, k ≤ xs.length ∧ t = .int .i64 k ∧ (∀ x ∈ xs.take k, (x : Int) ≠ g) ∧ wr = w.drewN m) (fun t _ => xs.length - (intOf t).toNat)
  case atStart => exact ⟨0, 0, Nat.zero_le _, rfl, fun x hx => by simp at hx, rfl⟩
  case round =>
    obtain ⟨k, m, hk, rfl, ht, rfl⟩ := hrel
    have HT : Hid (∀ x ∈ xs.take k, (x : Int) ≠ g) := ht
    clear ht
    by_cases hlt : k < xs.length
    · obtain ⟨b1, o1, rfl, _, q1⟩ := H1.out (by omega)
      have r1 := q1 k hlt
      clear q1
      have hkl : (k : Int) < (xs.length : Int) := by omega
      have hk0 : (0 : Int) ≤ (k : Int) := by omega
      have HI : Hid (k < xs.length) := hlt
      by_cases he : (xs[k] : Int) = g
      · have HY : Hid (idxG xs g (k : Int)) := .inr ⟨hk0, xs[k], List.getElem_mem _, he⟩
        have he2 : (g == (xs[k] : Int)) = true := by simp only [beq_iff_eq]; omega
        generalize (xs[k] : Int) = y at *
        clear he hlt
        go_wp2
        go_ret
        exact ⟨⟨_, rfl, HY.out⟩, m, rfl⟩
      · have HT2 : Hid (∀ x ∈ xs.take (k + 1), (x : Int) ≠ g) := fun x hx => by
          rw [List.take_succ_eq_append_getElem hlt] at hx
          rcases List.mem_append.1 hx with h | h
          · exact HT.out x h
          · rw [List.mem_singleton.1 h]; exact he
        have he2 : (g == (xs[k] : Int)) = false := by simp only [beq_eq_false_iff_ne]; omega
        generalize (xs[k] : Int) = y at *
        clear he hlt
        go_wp2
        go_roundw
        case rel => exact ⟨k + 1, m, by have := HI.out; omega, by go_num, HT2.out, rfl⟩
        case measure => have := HI.out; simp [intOf]; omega
    · have hkl : ¬ (k : Int) < (xs.length : Int) := by omega
      have HY : Hid (idxG xs g (-1)) := .inl ⟨rfl, fun x hx => HT.out x (by rw [List.take_of_length_le (by omega)]; exact hx)⟩
      go_wp2
      go_ret
      exact ⟨⟨_, rfl, HY.out⟩, m, rfl⟩
theorem idxG_has {gs : List Nat} {g k : Int} (h : idxG gs g k) : decide (0 ≤ k) = gs.any fun x => decide ((x : Int) = g) := by
  rcases h with ⟨rfl, h⟩ | ⟨h, x, hx, he⟩
  · rw [show decide ((0 : Int) ≤ -1) = false from rfl]
    symm
    rw [List.any_eq_false]
    intro x hx
    simpa using h x hx
  · rw [decide_eq_true h]
    symm
    rw [List.any_eq_true]
    exact ⟨x, hx, by simpa using he⟩
set_option maxRecDepth 100000 in
set_option maxHeartbeats 2000000 in
theorem containsI_any {w : World} {a1 : Option Addr} {c1 : Nat} {xs : List Nat} (g : Int) (h1 : Gv w a1 xs) (hl : xs.length ≤ 1000000) :
    Calls Try.prog 65 #[.slice a1 xs.length c1, .int .i64 g] w fun e w' => e = .returned (.bool (xs.any fun x => decide ((x : Int) = g))) ∧ ∃ m, w' = w.drewN m := by
  have ci := indexI_any (c1 := c1) g h1 hl
  obtain ⟨R, hR⟩ : ∃ R, R = xs.any fun x => decide ((x : Int) = g) := ⟨_, rfl⟩
  rw [← hR]
  have HR : Hid (R = xs.any fun x => decide ((x : Int) = g)) := hR
  clear hR h1
  go_enter Try.func65, Try.ntmps65
  go_wp2_with (go_at_call 85; (with_reducible refine Calls.mono ci ?_); rintro e w1 ⟨⟨k, rfl, hk⟩, m, rfl⟩; have HK : Hid (decide (0 ≤ k) = R) := (by show _ = _; rw [HR.out]; exact idxG_has hk); clear hk)
  go_ret
  exact ⟨by rw [← HK.out]; rfl, m, rfl⟩

end Go.Proofs.Ytmcaoimgmgjjiaa

namespace Go.Proofs.Ytmcaoimgmgjjiaa
open Go.RowKit Go.Maps Go.Sort

structure Tl where
  ks : K4
  gs : List Nat
  ap : Bool
def Tl.nil : Tl := ⟨K4.nil, [], false⟩
def Tl.step (t : Tl) (r : Ur) : Tl := ⟨t.ks.put r.k, if r.k = 3 ∧ t.ks.c = false then r.gs else t.gs, if r.k = 3 ∧ t.ks.c = true ∧ t.gs ≠ r.gs then true else t.ap⟩
def tel (rs : List Ur) (tx : List UInt8) : Tl := rs.foldl (fun t r => if r.tx = tx then t.step r else t) Tl.nil
theorem tel_snoc (rs : List Ur) (r : Ur) (tx : List UInt8) : tel (rs ++ [r]) tx = if r.tx = tx then (tel rs tx).step r else tel rs tx := by simp [tel]

theorem step_few {t : Tl} {r : Ur} (ht : t.gs.length < 256) (hr : r.gs.length < 256) : (t.step r).gs.length < 256 := by
  unfold Tl.step
  simp only
  split
  · exact hr
  · exact ht
theorem tel_few (tx : List UInt8) : ∀ (rs : List Ur) (t : Tl), t.gs.length < 256 → (∀ r ∈ rs, r.gs.length < 256) → (rs.foldl (fun t r => if r.tx = tx then t.step r else t) t).gs.length < 256
  | [], t, h, _ => h
  | r :: rs, t, h, hr => by
    rw [List.foldl_cons]
    refine tel_few tx rs _ ?_ (fun q hq => hr q (List.mem_cons_of_mem _ hq))
    split
    · exact step_few h (hr r (by simp))
    · exact h
structure Tz where
  k : Int
  a : Option Addr
  n : Nat
  c : Nat
  ap : Bool
def Tz.val (x : Tz) : Value := .agg #[.int .i64 x.k, .slice x.a x.n x.c, .bool x.ap]
def numDu (n : Nat) : DataW Unit := .lit (.int .i64 (n : Int))
theorem numDu_inj {n m : Nat} (h : numDu n = numDu m) : n = m := by
  simp only [numDu, DataW.lit.injEq, Lit.int.injEq, true_and] at h
  exact Int.ofNat_inj.1 h
def spotDu : Option Nat → DataW Unit
  | none => .nil
  | some k => numDu k
theorem spotDu_inj : ∀ {a b : Option Nat}, spotDu a = spotDu b → a = b
  | none, none, _ => rfl
  | some _, some _, h => by rw [numDu_inj h]
  | none, some _, h => by cases h
  | some _, none, h => by cases h
def adDu : Option Addr → DataW Unit
  | none => .nil
  | some a => .agg [numDu a.block, numDu a.off, spotDu a.spot]
theorem adDu_inj : ∀ {a b : Option Addr}, adDu a = adDu b → a = b
  | none, none, _ => rfl
  | some ⟨b, o, s⟩, some ⟨b', o', s'⟩, h => by
    simp only [adDu, DataW.agg.injEq, List.cons.injEq, and_true] at h
    rw [numDu_inj h.1, numDu_inj h.2.1, spotDu_inj h.2.2]
  | none, some _, h => by cases h
  | some _, none, h => by cases h
def tzD (x : Tz) : DataW Unit := .agg [.lit (.int .i64 x.k), adDu x.a, numDu x.n, numDu x.c, .lit (.bool x.ap)]
theorem tzD_inj (x y : Tz) (h : tzD x = tzD y) : x = y := by
  obtain ⟨k, a, n, c, p⟩ := x
  obtain ⟨k', a', n', c', p'⟩ := y
  simp only [tzD, DataW.agg.injEq, List.cons.injEq, and_true, DataW.lit.injEq, Lit.int.injEq, true_and, Lit.bool.injEq] at h
  rw [h.1, adDu_inj h.2.1, numDu_inj h.2.2.1, numDu_inj h.2.2.2.1, h.2.2.2.2]
def tzL : List Value → Option (DataW Unit × List MemPlace)
  | [.int .i64 k, .slice a n c, .bool p] => some (tzD ⟨k, a, n, c, p⟩, [])
  | _ => none
def tzR : Value → Option (DataW Unit × List MemPlace)
  | .agg a => tzL a.toList
  | _ => none
theorem tzR_inv (v : Value) (z : DataW Unit × List MemPlace) (h : tzR v = some z) : ∃ x : Tz, v = x.val ∧ z = (tzD x, []) := by
  unfold tzR at h
  split at h
  · rename_i a
    obtain ⟨l⟩ := a
    unfold tzL at h
    split at h
    · rename_i k a n c p e
      simp only at e
      subst e
      exact ⟨⟨k, a, n, c, p⟩, by simp [Tz.val], by simpa using h.symm⟩
    · cases h
  · cases h
def codeT : Cde Tz := ⟨Tz.val, tzD, tzR, fun x => by simp [tzR, tzL, Tz.val], tzR_inv, tzD_inj⟩
theorem zeroTold (w : World) : (zeroValue 127).run Try.prog w = .ok (codeT.enc ⟨0, none, 0, 0, false⟩) w := by kernel_rfl

structure TzIs (w : World) (b : Nat) (x : Tz) (t : Tl) : Prop where
  k : x.k = (t.ks.val : Nat)
  n : x.n = t.gs.length
  ap : x.ap = t.ap
  row : Its w b (.slice x.a t.gs.length x.c) t.gs
theorem TzIs.kept {q : Nat → Prop} {w w' : World} {b : Nat} {x : Tz} {t : Tl} (h : TzIs w b x t) (k : Kept q w w') (hq : ∀ y, b ≤ y → y < w.heap.size → (∃ cs fr, w.heap[y]? = some (.cells cs 3 fr)) → q y) : TzIs w' b x t :=
  ⟨h.k, h.n, h.ap, h.row.kept k (fun y hy => by
    refine hq y (World.ownsRow.lt h.row y hy).1 (World.ownsRow.lt h.row y hy).2 ?_
    rcases h.row.2 with ⟨e, _⟩ | ⟨g, cap, cur, e, _, hg, _⟩
    · rw [e] at hy; cases hy
    · rw [e] at hy; cases hy; exact ⟨_, _, hg⟩)⟩
def Tmp (w : World) (M n b : Nat) (rs : List Ur) : Prop := ∃ f : List UInt8 → Option Tz, Mp codeT w M n f ∧ ∀ tx, TzIs w b ((f tx).getD ⟨0, none, 0, 0, false⟩) (tel rs tx)
section
variable {w w' : World} {M n b : Nat} {rs : List Ur}
theorem Tmp.lt (h : Tmp w M n b rs) : M < w.heap.size := by obtain ⟨f, hm, _⟩ := h; exact hm.lt
theorem Tmp.kept {q : Nat → Prop} (h : Tmp w M n b rs) (k : Kept q w w') (hM : q M) (hq : ∀ y, b ≤ y → y < w.heap.size → (∃ cs fr, w.heap[y]? = some (.cells cs 3 fr)) → q y) : Tmp w' M n b rs := by
  obtain ⟨f, hm, hf⟩ := h
  exact ⟨f, hm.kept k hM, fun tx => (hf tx).kept k hq⟩
theorem Tmp.made (w : World) (b : Nat) : Tmp (w.alloc (.map #[] 0)) w.heap.size 0 b [] := ⟨_, Mp.made codeT w, fun _ => ⟨rfl, rfl, rfl, Its.nil _ _⟩⟩
theorem Tmp.lookA (h : Tmp w M n b rs) {tx : List UInt8} (hx : tx.length ≤ 9223372036854775807) : ∃ x, (∀ W, Kept (fun _ => True) w W → (Instr.lookup 109 (.map (some M)) (.string ⟨tx.toArray⟩) false).run Try.prog W = .ok (.agg #[.int .i64 ((tel rs tx).ks.val : Nat), .slice x.a (tel rs tx).gs.length x.c, .bool (tel rs tx).ap]) W) ∧ TzIs w b x (tel rs tx) := by
  obtain ⟨f, hm, hf⟩ := h
  refine ⟨_, fun W k => ?_, hf tx⟩
  rw [(hm.kept k trivial).look1 Try.underlying109 (zeroTold W) hx]
  show Result.ok (Tz.val _) W = _
  unfold Tz.val
  rw [(hf tx).k, (hf tx).n, (hf tx).ap]
theorem Tmp.store (h : Tmp w M n b rs) (r : Ur) (hx : r.tx.length ≤ 9223372036854775807) (hn : n ≤ 1000000) (a : Option Addr) (c : Nat) (hr : Its w b (.slice a ((tel rs r.tx).step r).gs.length c) ((tel rs r.tx).step r).gs) :
    ∃ w', (Instr.mapUpdate 109 (.map (some M)) (.string ⟨r.tx.toArray⟩) (.agg #[.int .i64 (((tel rs r.tx).step r).ks.val : Nat), .slice a ((tel rs r.tx).step r).gs.length c, .bool ((tel rs r.tx).step r).ap])).run Try.prog w = .ok () w' ∧ Tmp w' M (n + 1) b (rs ++ [r]) ∧ Kept (· ≠ M) w w' ∧ w'.heap.size = w.heap.size := by
  obtain ⟨f, hm, hf⟩ := h
  obtain ⟨w', hu, h1, h2, h3⟩ := hm.store Try.underlying109 hx hn (⟨(((tel rs r.tx).step r).ks.val : Nat), a, ((tel rs r.tx).step r).gs.length, c, ((tel rs r.tx).step r).ap⟩ : Tz)
  obtain ⟨es, clock, hmm⟩ := hm.isMap
  have hne : ∀ y, (∃ cs fr, w.heap[y]? = some (.cells cs 3 fr)) → y ≠ M := fun y ⟨cs, fr, hc⟩ e => by
    subst e
    rw [hmm] at hc
    cases hc
  refine ⟨w', hu, ⟨_, h1, fun tx => ?_⟩, h2, h3⟩
  unfold putM
  rw [tel_snoc]
  by_cases e : tx = r.tx
  · subst e
    rw [if_pos rfl, if_pos rfl]
    refine TzIs.kept ⟨rfl, rfl, rfl, hr⟩ h2 (fun y _ _ hy => hne y hy)
  · rw [if_neg e, if_neg (fun q => e q.symm)]
    exact (hf tx).kept h2 (fun y _ _ hy => hne y hy)
end

end Go.Proofs.Ytmcaoimgmgjjiaa
