/-
  others, Writer, busy.
-/
import Derived.Test.YtkinpgkckbocpaaK2
import Derived.Deep.QuietTactic
namespace Go.Proofs.Ytkinpgkckbocpaa
open Go.RowKit Go.Maps

set_option maxHeartbeats 1000000 in
theorem others_any {w : World} {T n : Nat} {B : Lab → Option Nat} {h : Lk} (t : Tb w T n B h) {x c : List UInt8} (hx : x.length ≤ 9223372036854775807) (hc : c.length ≤ 9223372036854775807) (hn : n ≤ 1000000) :
    Calls Try.prog 32 #[.pointer (some ⟨T, 0, none⟩), .string ⟨x.toArray⟩, .string ⟨c.toArray⟩] w fun e w' => ∃ m : Int, e = .returned (.int .i64 m) ∧ (0 < m ↔ ∃ y, y ≠ x ∧ h c y ≠ none) ∧ Kept (fun _ => True) w w' := by
  obtain ⟨H, D, hH, hD, hs⟩ := t.self
  obtain ⟨c0, c1⟩ := tcell hs
  have hl := t.left.look1 hH Try.underlying51 (zeroMapH w) hc
  have hi := t.left.inner c
  have hl2 := hi.look Try.underlying57 (z := false) (zeroHold w) hx
  have ka : ∀ v, Kept (fun _ => True) w (w.alloc (.cells #[.bool v] 59)) := fun v => (Kept.refl _ _).alloc _
  obtain ⟨k, hk, hkn, hlen⟩ := hi.len Try.underlying57
  have hlen2 : ∀ v ty, (Builtin.len_ #[57] ty #[.map (B (false, some c))]).run Try.prog (w.alloc (.cells #[.bool v] 59)) = .ok (.int .i64 (k : Nat)) (w.alloc (.cells #[.bool v] 59)) := by
    intro v ty
    obtain ⟨k', hk', _, hlen'⟩ := (hi.kept (ka v) (fun _ _ => trivial)).len Try.underlying57
    have : k' = k := by
      obtain ⟨ks, d1, l1, m1⟩ := hk
      obtain ⟨ks', d2, l2, m2⟩ := hk'
      have := (List.perm_ext_iff_of_nodup d1 d2).2 (fun z => by rw [m1 z, m2 z])
      rw [← l1, ← l2, this.length_eq]
    rw [← this]
    exact hlen' ty
  have HK : Hid (Count (h c) k) := hk
  change (Instr.lookup _ _ _ true).run _ _ = .ok (.tuple #[.agg #[.bool ((h c x).getD false)], .bool (h c x).isSome]) w at hl2
  clear t hs hlen hi hk
  cases hh : h c x with
  | none =>
    have HN : Hid (h c x = none) := hh
    rw [hh] at hl2
    change (Instr.lookup _ _ _ true).run _ _ = .ok (.tuple #[.agg #[.bool false], .bool false]) w at hl2
    clear hh
    go_enter Try.func32, Try.ntmps32
    go_wp2_with fail
    go_ret
    refine ⟨_, rfl, ?_, ka _⟩
    constructor
    · intro hp
      refine Classical.byContradiction fun hne => ?_
      have h0 := HK.out.zero.2 (fun y => Classical.byContradiction fun hy => hne ⟨y, fun e => hy (by rw [e]; exact HN.out), hy⟩)
      omega
    · rintro ⟨y, _, hy⟩
      have := HK.out.pos hy
      omega
  | some v =>
    have HN : Hid (h c x ≠ none) := by show _ ≠ _; rw [hh]; simp
    rw [hh] at hl2
    change (Instr.lookup _ _ _ true).run _ _ = .ok (.tuple #[.agg #[.bool v], .bool true]) w at hl2
    clear hh
    have hk1 := HK.out.pos HN.out
    go_enter Try.func32, Try.ntmps32
    go_wp2_with fail
    go_ret
    refine ⟨_, rfl, ?_, ka _⟩
    constructor
    · intro hp
      refine Classical.byContradiction fun hne => ?_
      have h0 := HK.out.few (x := x) (fun y hy => Classical.byContradiction fun e => hne ⟨y, e, hy⟩)
      omega
    · rintro ⟨y, hy1, hy⟩
      have := HK.out.two HN.out hy hy1
      omega

theorem textKey_inv {v : Value} {kl : Lit} (h : keyOf Try.prog 9 v = some kl) : ∃ x : List UInt8, v = .string ⟨x.toArray⟩ ∧ kl = .string x ∧ x.length ≤ maxLen := by
  obtain ⟨x, rfl, rfl, hs⟩ := Maps.keyOf_str Try.underlying9 h
  exact ⟨x, rfl, rfl, hs⟩
/-- How a case is held. -/
structure Hw where
  v : Bool
theorem sameText (y x : List UInt8) : (Lit.string y).sameKey (.string x) = decide (y = x) := by
  rw [Bool.eq_iff_iff, WideAt.sameKey_iff (by trivial)]
  simp
theorem ranges_kept {R : Value → Option (DataW Unit × List MemPlace)} {p : Nat → Prop} {w w' : World} {M r n cnt : Nat} {D : DataW Unit} {left : Lit → Bool} (h : w.ranges Try.prog 9 R M r n D left cnt) (k : Kept p w w') (hM : p M) (hr : p r) : w'.ranges Try.prog 9 R M r n D left cnt := by
  have h1 := h.owns.lt
  have h2 := h.lt
  obtain ⟨es, clock, since, seen, c0, hb, F, hs, hD, hr', rest⟩ := h
  exact ⟨es, clock, since, seen, c0, (k.block M h1 hM).trans hb, F, hs, hD, (k.block r h2 hr).trans hr', rest⟩

set_option maxRecDepth 100000 in
set_option maxHeartbeats 1000000 in
theorem writer_any {w : World} {T n : Nat} {B : Lab → Option Nat} {h : Lk} (t : Tb w T n B h) (ha : Alone h) {c : List UInt8} (hc : c.length ≤ 9223372036854775807) (_ : n ≤ 1000000) :
    Calls Try.prog 10 #[.pointer (some ⟨T, 0, none⟩), .string ⟨c.toArray⟩] w fun e w' => ∃ (v : List UInt8) (ok : Bool), e = .returned (.tuple #[.string ⟨v.toArray⟩, .bool ok]) ∧ Writes h c v ok ∧ Kept (fun _ => True) w w' := by
  obtain ⟨H, D, hH, hD, hs⟩ := t.self
  obtain ⟨c0, c1⟩ := tcell hs
  have hl := t.left.look1 hH Try.underlying51 (zeroMapH w) hc
  have hi := t.left.inner c
  obtain ⟨k, hk, hkn, hlen⟩ := hi.len Try.underlying57
  have HK : Hid (Count (h c) k) := hk
  by_cases h1 : k = 1
  · subst h1
    obtain ⟨b, hb, hm⟩ : ∃ b, B (false, some c) = some b ∧ Mp codeH w b n (h c) := by
      rcases hi with ⟨_, h0⟩ | ⟨b, e, m⟩
      · have := hk.zero.2 h0
        omega
      · exact ⟨b, e, m⟩
    rw [hb] at hl hlen
    obtain ⟨D0, ho, hh⟩ := hm
    have HH : Hid (Holds codeH D0 (h c)) := hh
    clear t hs hi hk hh hb
    go_enter Try.func10, Try.ntmps10
    go_wp2_with (first | (at_range; refine wpList_range_own _ rfl _ 57 rfl 9 59 text_keyed Try.underlying57 _ b n D0 rfl ho ?_; intro w0 hrg0 hg0 hs0) | go_in)
    go_frame
    have hr0 : w.heap.size ≤ w.heap.size := Nat.le_refl _
    generalize hr : w.heap.size = r at hrg0 hr0 ⊢
    go_loopw [7, 8] (fun _ _ wr => ∃ left cnt, wr.ranges Try.prog 9 holdR b r n D0 left cnt ∧ (∀ y, h c y = some true → left (.string y) = true) ∧ Kept (fun _ => True) w wr) (fun _ _ wr => wr.rangeLeft b r)
    case atStart => exact ⟨_, _, hrg0, fun y hy => Maps.has_true_of_atKey (HH.out.yes y true hy), (Kept.refl _ _).grown hg0 (fun _ _ e => by cases e)⟩
    case round =>
      obtain ⟨left, cnt, hrg, hL, hkw⟩ := hrel
      have HL : Hid (∀ y, h c y = some true → left (.string y) = true) := hL
      have HW : Hid (Kept (fun _ => True) w wr) := hkw
      clear hL hkw
      go_wp2_with (first | (at_next; refine wpList_next_ranges _ rfl _ rfl 9 text_keyed holdR (fun x : List UInt8 => .string ⟨x.toArray⟩) (fun u : Hw => .agg #[.bool u.v]) (fun key kl hkey => by obtain ⟨x, rfl, _⟩ := textKey_inv hkey; exact ⟨x, rfl⟩) (fun v y hv => by obtain ⟨x, rfl, _⟩ := holdR_inv v y hv; exact ⟨⟨x⟩, rfl⟩) b r n D0 left cnt rfl hrg ?_ ?_) | go_in)
      · intro _ hl0
        go_wp2_with fail
        go_ret2
        refine ⟨[], false, rfl, .inr ⟨rfl, rfl, fun y hy => ?_⟩, HW.out⟩
        have := HL.out y hy
        rw [hl0] at this
        cases this
      · rintro x u kl yd yp w1 cnt1 hkey hlx hv hat hrg1 hlt hg1 hs1 hen
        obtain ⟨v⟩ := u
        obtain ⟨x', ex, rfl, hxl⟩ := textKey_inv hkey
        obtain rfl : x = x' := by simpa using ex
        dsimp only at hen hv ⊢
        obtain ⟨v', ev, ez⟩ := holdR_inv _ _ hv
        cases ez
        obtain rfl : v = v' := by simpa using ev
        have hkw1 : Kept (fun _ => True) w w1 := HW.out.grown hg1 (fun i hi e => by cases e; omega)
        have HX : Hid (h c x = some v) := by
          show _ = _
          cases hf : h c x with
          | none =>
            have := Maps.has_true_of_atKey hat
            rw [HH.out.no x hf] at this
            cases this
          | some u =>
            have := (HH.out.yes x u hf (.agg [])).symm.trans (hat (.agg []))
            rw [codeH.inj u v this]
        have HM : Hid (w1.rangeLeft b r = cnt1 ∧ wr.rangeLeft b r = cnt) := ⟨hrg1.left_eq, hrg.left_eq⟩
        have k2 : Kept (fun _ => True) w1 (w1.alloc (.cells #[.bool v] 59)) := (Kept.refl _ _).alloc _
        clear hv hat ex ev hlx
        cases v with
        | true =>
          go_wp2_with fail
          go_ret2
          exact ⟨x, true, rfl, .inl ⟨rfl, HX.out⟩, hkw1.trans k2⟩
        | false =>
          have hrg2 := ranges_kept hrg1 k2 trivial trivial
          go_wp2_with fail
          go_roundw
          case rel =>
            refine ⟨_, _, hrg2, fun y hy => ?_, hkw1.trans k2⟩
            have hne : y ≠ x := by
              rintro rfl
              have := HX.out
              rw [hy] at this
              cases this
            rw [HL.out y hy, sameText, decide_eq_false hne]
            rfl
          case measure =>
            rw [hrg2.left_eq, HM.out.2]
            exact hlt
  · have h1' : ((k : Int) != 1) = true := by simp; omega
    have HN : Hid (∀ y, h c y ≠ some true) := by
      intro y hy
      have e1 := hk.few (x := y) (fun z hz => ha c y z hy hz)
      have e2 := hk.pos (x := y) (by rw [hy]; simp)
      omega
    clear t hs hi hk
    go_enter Try.func10, Try.ntmps10
    go_wp2_with fail
    go_ret2
    exact ⟨[], false, rfl, .inr ⟨rfl, rfl, HN.out⟩, Kept.refl _ _⟩

set_option maxHeartbeats 1000000 in
theorem busy_any {w : World} {T n : Nat} {B : Lab → Option Nat} {h : Lk} (t : Tb w T n B h) (ha : Alone h) {x c : List UInt8} (hx : x.length ≤ 9223372036854775807) (hc : c.length ≤ 9223372036854775807) (wr : Bool) (hn : n ≤ 1000000) :
    Calls Try.prog 25 #[.pointer (some ⟨T, 0, none⟩), .string ⟨x.toArray⟩, .agg #[.string ⟨c.toArray⟩, .bool wr]] w fun e w' => ∃ q : Bool, e = .returned (.bool q) ∧ (q = true ↔ Ill h x c wr) ∧ Kept (fun _ => True) w w' := by
  have k0 : Kept (fun _ => True) w (w.alloc (.cells #[.string ⟨c.toArray⟩, .bool wr] 27)) := (Kept.refl _ _).alloc _
  have HK : Hid (Kept (fun _ => True) w (w.alloc (.cells #[.string ⟨c.toArray⟩, .bool wr] 27))) := k0
  have t1 := t.all k0
  have HA : Hid (Alone h) := ha
  cases wr with
  | true =>
    have co := others_any t1 hx hc hn
    clear t t1 k0 ha
    go_enter Try.func25, Try.ntmps25
    go_wp2_with fail
    refine Calls.mono co ?_
    rintro e w1 ⟨m, rfl, hm, k1⟩
    clear co
    have HM : Hid (0 < m ↔ ∃ y, y ≠ x ∧ h c y ≠ none) := hm
    have HK1 : Hid (Kept (fun _ => True) w w1) := HK.out.trans k1
    clear hm k1
    go_wp2_with fail
    go_ret
    refine ⟨_, rfl, ?_, HK1.out⟩
    rw [decide_eq_true_iff, HM.out]
    constructor
    · rintro ⟨y, h1, h2⟩
      obtain ⟨v, hv⟩ := Option.ne_none_iff_exists'.1 h2
      exact ⟨y, v, h1, hv, .inr rfl⟩
    · rintro ⟨y, v, h1, h2, _⟩
      exact ⟨y, h1, by rw [h2]; simp⟩
  | false =>
    have co := writer_any t1 ha hc hn
    clear t t1 k0 ha
    go_enter Try.func25, Try.ntmps25
    go_wp2_with fail
    refine Calls.mono co ?_
    rintro e w1 ⟨v, ok, rfl, hw, k1⟩
    clear co
    have HW : Hid (Writes h c v ok) := hw
    have HK1 : Hid (Kept (fun _ => True) w w1) := HK.out.trans k1
    clear hw k1
    cases ok with
    | true =>
      have HV : Hid (h c v = some true) := by
        rcases HW.out with ⟨_, h1⟩ | ⟨h1, _⟩
        · exact h1
        · cases h1
      by_cases hv : v = x
      · subst hv
        go_wp2_with fail
        go_ret
        refine ⟨_, rfl, ?_, HK1.out⟩
        constructor
        · intro e; simp at e
        · rintro ⟨y, u, h1, h2, h3⟩
          rcases h3 with rfl | h3
          · exact absurd (HA.out c v y HV.out (by rw [h2]; simp)) h1
          · cases h3
      · have hv' : (v == x) = false := beq_eq_false_iff_ne.2 hv
        have HVX : Hid (v ≠ x) := hv
        clear hv
        go_wp2_with fail
        go_ret
        exact ⟨_, rfl, ⟨fun _ => ⟨v, true, HVX.out, HV.out, .inl rfl⟩, fun _ => rfl⟩, HK1.out⟩
    | false =>
      have HV : Hid (∀ y, h c y ≠ some true) := by
        rcases HW.out with ⟨h1, _⟩ | ⟨_, _, h1⟩
        · cases h1
        · exact h1
      go_wp2_with fail
      go_ret
      refine ⟨_, rfl, ?_, HK1.out⟩
      constructor
      · intro e; simp at e
      · rintro ⟨y, u, h1, h2, h3⟩
        rcases h3 with rfl | h3
        · exact absurd h2 (HV.out y)
        · cases h3

end Go.Proofs.Ytkinpgkckbocpaa
