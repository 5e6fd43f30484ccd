/-
  LogOrder.
-/
import Derived.Test.YtmejeiadfcdogaaLTx
import Derived.Test.YtmejeiadfcdogaaLAsks
import Derived.Test.YtmejeiadfcdogaaSWithin
namespace Go.Proofs.Ytmejeiadfcdogaa
open Go.RowKit

theorem wrap32' (s : Nat) (h : s ≤ 1000) : IntKind.i32.wrap (65 + (s : Int)) = 65 + (s : Int) := by
  simp [IntKind.wrap, IntKind.bits, IntKind.signed]
  omega

/-- The log, and the texts that were taken. -/
structure OL (tx : Nat → List UInt8) (w0 w : World) (L M q : Nat) (x : Lo) (N : Nat) (v : Value) : Prop where
  lm : LM w0 w L M q x
  got : Txs w w0.heap.size v (txs tx x.taken)
  zero : x.base = 0
  text : ∀ s : Nat, x.f (s : Int) = none ∨ x.f (s : Int) = some (tx s)
  most : ∀ z : Int, (N : Int) ≤ z → x.f z = none

section
variable {tx : Nat → List UInt8} {w0 w w' : World} {L M q q' : Nat} {x y : Lo} {N : Nat} {v v' : Value}
theorem OL.ahead (h : OL tx w0 w L M q x N v) (k : Kept (fun _ => True) w w') : OL tx w0 w' L M q x N v :=
  ⟨h.lm.ahead k, h.got.kept k (fun _ _ => trivial), h.zero, h.text, h.most⟩
/-- A slot's own text is learned: the answer is OK. -/
theorem OL.learns (h : OL tx w0 w L M q x N v) {s : Nat} (hs : s < 512) : learn x (s : Int) (tx s) = (0, { x with f := put x.f (s : Int) (tx s) }) := by
  have hz := h.zero
  rcases h.text s with e | e
  · exact learn_new (by omega) (by omega) (by omega) e
  · rw [learn_same (by omega) (by omega) (by omega) e, put_same e]
theorem OL.learned (h : OL tx w0 w L M q x N v) {s : Nat} (hs : s < N) (h' : Lm w' L M q' { x with f := put x.f (s : Int) (tx s) }) (k : Kept (fun y => y ≠ L ∧ y ≠ M) w w') : OL tx w0 w' L M q' { x with f := put x.f (s : Int) (tx s) } N v := by
  refine ⟨h.lm.step h' k, h.got.kept k (h.lm.txs h.got), h.zero, fun j => ?_, fun z hz => ?_⟩
  · show put x.f (s : Int) (tx s) (j : Int) = none ∨ put x.f (s : Int) (tx s) (j : Int) = some (tx j)
    unfold put
    by_cases e : (j : Int) = (s : Int)
    · have : j = s := by omega
      subst this
      rw [if_pos rfl]
      exact .inr rfl
    · rw [if_neg e]
      exact h.text j
  · show put x.f (s : Int) (tx s) z = none
    unfold put
    rw [if_neg (by omega)]
    exact h.most z hz
/-- What a Take answers is what comes next. -/
theorem OL.takes (h : OL tx w0 w L M q x N v) {m : Nat} (n : IsNext x.f x.taken m) : txs tx x.taken ++ vals x.f x.taken m = txs tx m :=
  txs_vals n.le (fun s h1 h2 => by
    rcases h.text s with e | e
    · exact absurd e (n.known s (by omega) (by omega))
    · exact e)
theorem OL.next_le (h : OL tx w0 w L M q x N v) {m : Nat} (n : IsNext x.f x.taken m) (ht : x.taken ≤ N) : m ≤ N := by
  rcases Nat.lt_or_ge N m with l | l
  · exact absurd (h.most N (Int.le_refl _)) (n.known N (by omega) (by omega))
  · exact l
theorem OL.taken (h : OL tx w0 w L M q x N v) {m : Nat} (l : LM w0 w' L M q' { x with taken := m }) (t : Txs w' w0.heap.size v' (txs tx m)) : OL tx w0 w' L M q' { x with taken := m } N v' :=
  ⟨l, t, h.zero, h.text, h.most⟩
end

/-- An append onto a row that was made behind w0. -/
theorem LM.grown {w0 w w' : World} {L M n b : Nat} {x : Lo} {v : Value} {ss : List (List UInt8)} (h : LM w0 w L M n x) (hb : w0.heap.size ≤ b) (hv : Txs w b v ss) (g : w.grownBy w' v.ownBlock) : LM w0 w' L M n x := by
  have k : Kept (fun y => v.ownBlock ≠ some y) w w' := (Kept.refl _ _).grown g (fun _ _ e q => q e)
  exact h.side k (fun e => (h.txs hv L e).1 rfl) (fun e => (h.txs hv M e).2 rfl) (fun i hi e => by have := own_ge hv e; omega)

set_option maxRecDepth 100000 in
set_option maxHeartbeats 6000000 in
theorem logOrder_any {w : World} {a1 : Option Addr} {n1 c1 : Nat} (h1 : IsInts w a1 n1) {a2 : Option Addr} {n2 c2 : Nat} {B : Nat → Bool} (h2 : IsBools w a2 n2 B) (z : Int) :
    Calls Try.prog 5 #[.slice a1 n1 c1, .slice a2 n2 c2, .int .i64 z] w fun e w' => e = .returned (.bool true) ∧ Kept (fun _ => True) w w' := by
  obtain ⟨tx, htx⟩ := tx_some
  have HI : Hid (IsInts w a1 n1) := h1
  have HB : Hid (IsBools w a2 n2 B) := h2
  clear h1 h2
  go_enter Try.func5, Try.ntmps5
  go_wp2_with fail
  refine Calls.mono (within_any _ 30 (by decide)) ?_
  rintro e w ⟨⟨N, hN, rfl⟩, rfl⟩
  go_wp2_with fail
  refine Calls.mono new_any ?_
  rintro e w1 ⟨L, M, rfl, h1, k1, a1', m1⟩
  obtain ⟨K, hK⟩ : ∃ K, K = N + 1 := ⟨_, rfl⟩
  have eK : (1 : Int) + (N : Int) = (K : Int) := by omega
  have eD : (K : Int) - 1 = (N : Int) := by omega
  have HK : Hid (K = N + 1) := hK
  have hK31 : K ≤ 31 := by omega
  have H1 : Hid (OL tx w w1 L M 0 ⟨0, 0, fun _ => none⟩ K (.slice none 0 0)) := ⟨⟨h1, k1, a1', m1⟩, Txs.nil _ _, rfl, fun _ => .inl rfl, fun _ _ => rfl⟩
  clear h1 k1 a1' m1 hK
  rw [eK]
  clear eK
  go_wp2_with fail
  go_loopw [8, 9] (fun u t wr => ∃ (i q : Nat) (x : Lo) (ao : Option Addr) (cap : Nat), i ≤ 120 ∧ q ≤ i ∧ x.taken ≤ K ∧ t = .int .i64 (i : Nat) ∧ u = .slice ao x.taken cap ∧ OL tx w wr L M q x K (.slice ao x.taken cap)) (fun _ t _ => 120 - (intOf t).toNat)
  case atStart => exact ⟨0, 0, _, none, 0, by omega, by omega, by show 0 ≤ _; omega, rfl, rfl, H1.out⟩
  case round =>
    obtain ⟨i, q, x, ao, cap, hi, hq, hxt, rfl, rfl, hm⟩ := hrel
    have HM : Hid (OL tx w wr L M q x K (.slice ao x.taken cap)) := hm
    clear hm H1
    by_cases hlt : i < n1 ∧ i < 120
    · obtain ⟨b, off, y, rfl, hy⟩ := int_at HI.out hlt.1
      have y1 := hy wr HM.out.lm.kept
      have g1 : (i : Int) < (n1 : Int) := by omega
      have g2 : (i : Int) < 120 := by omega
      have g0 : (0 : Int) ≤ (i : Int) := by omega
      clear hlt hy
      go_wp2_with fail
      refine Calls.mono (within_any _ N (by omega)) ?_
      rintro e wr ⟨⟨s, hs, rfl⟩, rfl⟩
      have hc := conv_tx htx s
      have hw := wrap32' s (by omega)
      have c := learn_to HM.out.lm.lm (by omega) (s := (s : Int)) ⟨by omega, by omega⟩ (HM.out.learns (s := s) (by omega))
      have HL : Hid (∀ w2 : World, Lm w2 L M (q + 1) { x with f := put x.f (s : Int) (tx s) } → Kept (fun y => y ≠ L ∧ y ≠ M) wr w2 → OL tx w w2 L M (q + 1) { x with f := put x.f (s : Int) (tx s) } K (.slice ao x.taken cap)) := fun w2 h2 k2 => HM.out.learned (by have := HK.out; omega) h2 k2
      generalize hx' : ({ x with f := put x.f (s : Int) (tx s) } : Lo) = x' at c HL
      have ht' : x'.taken = x.taken := by rw [← hx']
      clear hx'
      generalize tx s = v at *
      rw [← ht'] at HL hxt ⊢
      clear ht' HM
      go_wp2_with fail
      refine Calls.mono c ?_
      rintro e w2 ⟨rfl, h2, k2⟩
      have H2 : Hid (OL tx w w2 L M (q + 1) x' K (.slice ao x'.taken cap)) := HL.out w2 h2 k2
      clear h2 k2 c HL hc hw
      by_cases ht : i < n2
      · obtain ⟨b2, off2, rfl, hy2⟩ := bool_at HB.out ht
        have y2 := hy2 w2 H2.out.lm.kept
        have g3 : (i : Int) < (n2 : Int) := by omega
        cases hBi : B i
        · rw [hBi] at y2
          go_wp2_with fail
          go_roundw
          case rel => exact ⟨i + 1, q + 1, x', ao, cap, by omega, by omega, hxt, by go_num, rfl, H2.out⟩
          case measure => simp [intOf]; omega
        · rw [hBi] at y2
          go_wp2_with fail
          refine Calls.mono (take_any H2.out.lm.lm) ?_
          rintro e w3 ⟨m3, v3, rfl, n3, t3, h3, k3⟩
          have e3 : Hid (txs tx x'.taken ++ vals x'.f x'.taken m3 = txs tx m3) := H2.out.takes n3
          have l3 : m3 ≤ K := H2.out.next_le n3 hxt
          have le3 : x'.taken ≤ m3 := n3.le
          have H3 : Hid (LM w w3 L M (q + 1) { x' with taken := m3 }) := H2.out.lm.step h3 k3
          have G3 : Hid (Txs w3 w.heap.size (.slice ao x'.taken cap) (txs tx x'.taken)) := H2.out.got.kept k3 (H2.out.lm.txs H2.out.got)
          have T3 : Hid (Txs w3 w2.heap.size v3 (vals x'.f x'.taken m3)) := t3
          have sz3 : Hid (w.heap.size ≤ w3.heap.size) := H3.out.kept.size
          have lens : Hid ((txs tx x'.taken).length + (vals x'.f x'.taken m3).length = m3) := by show _ = _; rw [txs_length, vals_length]; omega
          clear n3 t3 h3 k3 y2 hy2
          go_wp2_with (at_builtin; refine wpList_append_texts rfl _ _ rfl w.heap.size w2.heap.size _ _ (txs tx x'.taken) (vals x'.f x'.taken m3) rfl G3.out rfl T3.out sz3.out (by have := lens.out; omega) ?_; intro ao4 cap4 w4 t4 gr4; rw [lens.out]; rw [lens.out, e3.out] at t4)
          have H4 : Hid (OL tx w w4 L M (q + 1) { x' with taken := m3 } K (.slice ao4 m3 cap4)) := H2.out.taken (H3.out.grown (Nat.le_refl _) G3.out gr4) t4
          clear t4 gr4 H3 G3 T3 lens e3 H2 sz3
          go_wp2_with fail
          go_roundw
          case rel => exact ⟨i + 1, q + 1, { x' with taken := m3 }, ao4, cap4, by omega, by omega, l3, by go_num, rfl, H4.out⟩
          case measure => simp [intOf]; omega
      · have g3 : ¬ (i : Int) < (n2 : Int) := by omega
        go_wp2_with fail
        go_roundw
        case rel => exact ⟨i + 1, q + 1, x', ao, cap, by omega, by omega, hxt, by go_num, rfl, H2.out⟩
        case measure => simp [intOf]; omega
    · have hex : ¬ (i : Int) < (n1 : Int) ∨ ((i : Int) < (n1 : Int) ∧ ¬ (i : Int) < 120) := by omega
      obtain ⟨T, hT⟩ : ∃ T, T = x.taken := ⟨_, rfl⟩
      have H5 : Hid (OL tx w wr L M q x K (.slice ao T cap) ∧ x.taken = T) := ⟨by rw [hT]; exact HM.out, hT.symm⟩
      rw [← hT]
      clear HI HB hlt HM hT
      rcases hex with hex | hex
      all_goals
        go_wp2_with fail
        go_loopw [11] (fun t wr => ∃ (u : Int) (q' : Nat) (x' : Lo), -1 ≤ u ∧ u < K ∧ (q' : Int) + u ≤ 200 ∧ t = .int .i64 u ∧ x'.taken = T ∧ OL tx w wr L M q' x' K (.slice ao T cap) ∧ ∀ z : Int, u < z → z < K → x'.f z ≠ none) (fun t _ => (intOf t + 1).toNat)
        case atStart => exact ⟨(N : Int), q, x, by omega, by have := HK.out; omega, by omega, rfl, H5.out.2, H5.out.1, fun z h1 h2 => by have := HK.out; omega⟩
        case round =>
          obtain ⟨u, q', x', hu1, hu2, hq', rfl, hT', hm, hall⟩ := hrel
          have HM : Hid (OL tx w wr L M q' x' K (.slice ao T cap)) := hm
          have HT : Hid (x'.taken = T) := hT'
          have HA : Hid (∀ z : Int, u < z → z < K → x'.f z ≠ none) := hall
          clear hm hT' hall H5
          by_cases h0 : 0 ≤ u
          · obtain ⟨s, rfl⟩ : ∃ s : Nat, u = s := ⟨u.toNat, by omega⟩
            have hc := conv_tx htx s
            have hw := wrap32' s (by omega)
            have c := learn_to HM.out.lm.lm (by omega) (s := (s : Int)) ⟨by omega, by omega⟩ (HM.out.learns (s := s) (by omega))
            have HL : Hid (∀ w2 : World, Lm w2 L M (q' + 1) { x' with f := put x'.f (s : Int) (tx s) } → Kept (fun y => y ≠ L ∧ y ≠ M) wr w2 → OL tx w w2 L M (q' + 1) { x' with f := put x'.f (s : Int) (tx s) } K (.slice ao T cap)) := fun w2 h2 k2 => HM.out.learned (by omega) h2 k2
            have HA2 : Hid (∀ z : Int, (s : Int) - 1 < z → z < K → ({ x' with f := put x'.f (s : Int) (tx s) } : Lo).f z ≠ none) := fun z a b => by
              show put x'.f (s : Int) (tx s) z ≠ none
              unfold put
              split
              · simp
              · exact HA.out z (by omega) b
            have HT2 : Hid (({ x' with f := put x'.f (s : Int) (tx s) } : Lo).taken = T) := HT.out
            generalize tx s = v at *
            clear HA HT HM
            go_wp2_with fail
            refine Calls.mono c ?_
            rintro e w2 ⟨rfl, h2, k2⟩
            have H2 : Hid _ := HL.out w2 h2 k2
            clear h2 k2 c HL hc hw
            go_wp2_with fail
            go_roundw
            case rel => exact ⟨(s : Int) - 1, q' + 1, { x' with f := put x'.f (s : Int) v }, by omega, by omega, by omega, by go_num, HT2.out, H2.out, HA2.out⟩
            case measure => simp [intOf]
          · have eu : u = -1 := by omega
            subst eu
            have hx := HT.out
            subst hx
            have hf1 : Hid (∀ m, IsNext x'.f x'.taken m → m = K) := fun m h => next_at h (by
              rcases Nat.lt_or_ge K x'.taken with l | l
              · have b := HM.out.zero
                exact absurd (HM.out.most K (Int.le_refl _)) (HM.out.lm.lm.ok.full K (by omega) (by omega))
              · exact l) (fun z a b => HA.out z (by omega) b) (HM.out.most K (Int.le_refl _))
            go_wp2_with fail
            refine Calls.mono (take_any HM.out.lm.lm) ?_
            rintro e w3 ⟨m3, v3, rfl, n3, t3, h3, k3⟩
            have em := hf1.out m3 n3
            subst em
            have e3 : Hid (txs tx x'.taken ++ vals x'.f x'.taken m3 = txs tx m3) := HM.out.takes n3
            have le3 : x'.taken ≤ m3 := n3.le
            have H3 : Hid (LM w w3 L M q' { x' with taken := m3 }) := HM.out.lm.step h3 k3
            have G3 : Hid (Txs w3 w.heap.size (.slice ao x'.taken cap) (txs tx x'.taken)) := HM.out.got.kept k3 (HM.out.lm.txs HM.out.got)
            have T3 : Hid (Txs w3 wr.heap.size v3 (vals x'.f x'.taken m3)) := t3
            have sz3 : Hid (w.heap.size ≤ w3.heap.size) := H3.out.kept.size
            have lens : Hid ((txs tx x'.taken).length + (vals x'.f x'.taken m3).length = m3) := by show _ = _; rw [txs_length, vals_length]; omega
            clear n3 t3 h3 k3
            go_wp2_with (at_builtin; refine wpList_append_texts rfl _ _ rfl w.heap.size wr.heap.size _ _ (txs tx x'.taken) (vals x'.f x'.taken m3) rfl G3.out rfl T3.out sz3.out (by have := lens.out; omega) ?_; intro ao4 cap4 w4 t4 gr4; rw [lens.out]; rw [lens.out, e3.out] at t4)
            have H4 : Hid (OL tx w w4 L M q' { x' with taken := m3 } m3 (.slice ao4 m3 cap4)) := HM.out.taken (H3.out.grown (Nat.le_refl _) G3.out gr4) t4
            clear t4 gr4 H3 G3 T3 lens e3 sz3 HM HA hf1 le3
            go_wp2_with fail
            go_loopw [12] (fun t wr => ∃ j : Nat, j ≤ m3 ∧ t = .int .i64 (j : Nat) ∧ wr = w4) (fun t _ => m3 - (intOf t).toNat)
            case atStart => exact ⟨0, Nat.zero_le _, rfl, rfl⟩
            case round =>
              obtain ⟨j, hj, rfl, rfl⟩ := hrel
              by_cases hj2 : j < m3
              · obtain ⟨G1, rfl, q1⟩ := H4.out.got.at j (by rw [txs_length]; exact hj2)
                rw [txs_get] at q1
                have hc := conv_tx htx j
                have hw := wrap32' j (by omega)
                have g2 : (j : Int) < (m3 : Int) := by omega
                have g0 : (0 : Int) ≤ (j : Int) := by omega
                generalize tx j = v at *
                go_wp2_with fail
                go_roundw
                case rel => exact ⟨j + 1, by omega, by go_num, trivial⟩
                case measure => simp [intOf]; omega
              · have ej : j = m3 := by omega
                subst ej
                have hf2 : Hid (∀ m, IsNext x'.f j m → m = j) := fun m h => next_at h (Nat.le_refl _) (fun z a b => by omega) (H4.out.most j (Int.le_refl _))
                go_wp2_with fail
                refine Calls.mono (next_any H4.out.lm.lm) ?_
                rintro e w5 ⟨m5, rfl, n5, k5⟩
                have e5 := hf2.out m5 n5
                subst e5
                have H5 : Hid (LM w w5 L M q' { x' with taken := m5 }) := H4.out.lm.ahead k5
                clear n5 k5 H4
                go_wp2_with fail
                refine Calls.mono (take_any H5.out.lm) ?_
                rintro e w6 ⟨m6, v6, rfl, n6, t6, h6, k6⟩
                have e6 := hf2.out m6 n6
                subst e6
                obtain ⟨ao6, c6, rfl, -, -⟩ := t6.shape
                have l6 : (vals x'.f m6 m6).length = 0 := by rw [vals_length]; omega
                rw [show (vals ({ x' with taken := m6 } : Lo).f ({ x' with taken := m6 } : Lo).taken m6).length = 0 from l6]
                have H6 : Hid (LM w w6 L M q' _) := H5.out.step h6 k6
                clear t6 h6 k6 n6 l6 H5 hf2
                go_wp2_with fail
                refine Calls.mono known_any ?_
                rintro e w7 ⟨rfl, k7⟩
                go_wp2
                go_ret
                exact ⟨rfl, H6.out.kept.trans k7⟩

end Go.Proofs.Ytmejeiadfcdogaa
