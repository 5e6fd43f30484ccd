/-
  Free.
-/
import Derived.Test.YtkinpgkckbocpaaK7
namespace Go.Proofs.Ytkinpgkckbocpaa
open Go.RowKit Go.Maps

/-- Who holds what while x is taken from its cases: those that are left stand. -/
def leftF (h : Lk) (x : List UInt8) (left : Lit → Bool) : Lk := fun c y => if y = x ∧ left (.string c) = false then none else h c y
theorem leftF_cut (h : Lk) (x c : List UInt8) (left : Lit → Bool) : cutF (leftF h x left) c x = leftF h x (fun z => left z && !z.sameKey (.string c)) := by
  funext c' y
  unfold cutF leftF
  simp only [sameText]
  by_cases hy : y = x
  · by_cases hc : c' = c
    · simp [hy, hc]
    · simp [hy, hc]
  · simp [hy]
theorem leftF_none (h : Lk) (x : List UInt8) (left : Lit → Bool) (hl : ∀ kl, left kl = false) : leftF h x left = freed h x := by
  funext c y
  unfold leftF freed
  simp [hl]
theorem leftF_all (h : Lk) (x : List UInt8) (left : Lit → Bool) (hl : ∀ c, h c x ≠ none → left (.string c) = true) : leftF h x left = h := by
  funext c y
  unfold leftF
  split
  · rename_i e
    refine Classical.byContradiction fun hn => ?_
    have := hl c (by rw [← e.1]; exact fun e => hn e.symm)
    rw [e.2] at this
    cases this
  · rfl

set_option maxRecDepth 100000 in
set_option maxHeartbeats 2000000 in
theorem free_any {w : World} {T n : Nat} {B : Lab → Option Nat} {h : Lk} (t : Tb w T n B h) {x : List UInt8} (hx : x.length ≤ 9223372036854775807) (_ : n ≤ 1000000) (hsh : ∀ c y, h c y ≠ none → c.length ≤ 9223372036854775807) :
    Calls Try.prog 15 #[.pointer (some ⟨T, 0, none⟩), .string ⟨x.toArray⟩] w fun e w' => ∃ (q : Bool) (B' : Lab → Option Nat), e = .returned (.bool q) ∧ (q = true ↔ Some1 h x) ∧ Tb w' T n B' (freed h x) ∧ Stp B w w' B' := by
  obtain ⟨H, D, hH, hD, hs⟩ := t.self
  have c1 := (tcell hs).2
  have hl := t.right.look hD Try.underlying52 (zeroMapU w) hx
  have HT : Hid (Tb w T n B h) := t
  have HSH : Hid (∀ c y, h c y ≠ none → c.length ≤ 9223372036854775807) := hsh
  clear hsh
  cases hk : B (true, some x) with
  | none =>
    rw [hk] at hl
    change (Instr.lookup _ _ _ true).run _ _ = .ok (.tuple #[.map none, .bool false]) w at hl
    have HN : Hid (∀ c, h c x = none) := fun c => by
      have := t.right.non x hk c
      exact Classical.byContradiction fun hc => flip_none.2 hc this
    have k1 : Kept (fun _ => True) w (w.alloc (.mapIter none 0 #[] 0)) := (Kept.refl _ _).alloc _
    obtain ⟨w2, hdr, m2, k2, z2⟩ := ((t.right.whole hD).kept k1 trivial).drop Try.underlying52 hx 0
    have c1' := cell_kept k1 c1 trivial
    have HM2 : Hid (Mp codeM w2 D n (cutM (fun y => (B (true, some y)).map some) x)) := m2
    have HK2 : Hid (Kept (· ≠ D) (w.alloc (.mapIter none 0 #[] 0)) w2) := k2
    have HK1 : Hid (Kept (fun _ => True) w (w.alloc (.mapIter none 0 #[] 0))) := k1
    have HB : Hid (B (true, some x) = none) := hk
    have hrg := run_range_nilMap (P := Try.prog) w 63 9 62 Try.underlying63
    have hnx : ∀ ty, (Instr.next (.pointer (some ⟨w.heap.size, 0, none⟩)) false ty).run Try.prog (w.alloc (.mapIter none 0 #[] 0)) = _ := fun ty => run_next_nilMap _ ty 0 0 #[]
    clear t hs m2 k2 k1 hk
    go_enter Try.func15, Try.ntmps15
    go_wp2_with fail
    go_loopw [7] (fun _ wr => wr = w.alloc (.mapIter none 0 #[] 0)) (fun _ _ => 0)
    case atStart => rfl
    case round =>
      subst hrel
      go_wp2_with fail
      go_ret
      have tw := HT.out.all HK1.out
      obtain ⟨r1, r2⟩ := tw.right.strike (f' := flip (freed h x)) (fun a b k e1 e2 => by have := tw.apart _ _ k e1 e2; simpa using this) hD HM2.out (HK2.out.mono (fun i _ h => h.1)) (fun c => by simp [flip, freed]) (fun y hy => by funext c; simp [flip, freed, hy])
      obtain ⟨y1, y2⟩ := tw.oneR r1 r2
      have e : freed h x = h := by
        funext c y
        unfold freed
        split
        · rename_i e
          rw [e, HN.out c]
        · rfl
      have y3 : Tb w2 T n (upB B (true, some x) none) (freed h x) := by
        unfold Tb
        rw [e] at y1 ⊢
        exact y1
      refine ⟨false, _, rfl, ?_, y3, (Stp.of B HK1.out).trans y2⟩
      constructor
      · intro e
        simp at e
      · rintro ⟨c, hc⟩
        exact absurd (HN.out c) hc
  | some k =>
    rw [hk] at hl
    change (Instr.lookup _ _ _ true).run _ _ = .ok (.tuple #[.map (some k), .bool true]) w at hl
    have HS1 : Hid (Some1 h x) := by
      obtain ⟨c, hc⟩ := t.right.any x k hk
      exact ⟨c, flip_none.1 hc⟩
    have HB : Hid (B (true, some x) = some k) := hk
    have HD0 : Hid (B (true, none) = some D) := hD
    obtain ⟨D0, ho, hh⟩ := t.right.inn x k hk
    have HH : Hid (Holds codeU D0 (flip h x)) := hh
    have HC1 : Hid (w.cell? ⟨T, 1, none⟩ = some (.map (some D))) := c1
    clear t hs hh hk
    go_enter Try.func15, Try.ntmps15
    go_wp2_with (first | (at_range; refine wpList_range_own _ rfl _ 63 rfl 9 62 text_keyed Try.underlying63 _ k n D0 rfl ho ?_; intro w0 hrg0 hg0 hs0) | go_in)
    go_frame
    have hr0 : w.heap.size ≤ w.heap.size := Nat.le_refl _
    have k0 : Kept (fun _ => True) w w0 := (Kept.refl _ _).grown hg0 (fun _ _ e => by cases e)
    generalize hr : w.heap.size = r at hrg0 hr0 ⊢
    have HR : Hid (w.heap.size = r) := hr
    go_loopw [7] (fun _ wr => ∃ left cnt B', wr.ranges Try.prog 9 unitElem k r n D0 left cnt ∧ (∀ c, left (.string c) = true → h c x ≠ none) ∧ Tw wr T n B' (leftF h x left) (flip h) ∧ Stp B w wr B' ∧ (∀ y, B' (true, y) = B (true, y))) (fun _ wr => wr.rangeLeft k r)
    case atStart =>
      refine ⟨_, _, B, hrg0, fun c hc => ?_, ?_, Stp.of B k0, fun _ => rfl⟩
      · intro e
        have := HH.out.no c (by unfold flip; rw [e]; rfl)
        rw [hc] at this
        cases this
      · rw [leftF_all h x (Maps.has D0) (fun c hc => Maps.has_true_of_atKey (HH.out.yes c () (by
          obtain ⟨v, hv⟩ := Option.ne_none_iff_exists'.1 hc
          simp [flip, hv])))]
        exact HT.out.all k0
    case round =>
      obtain ⟨left, cnt, B', hrg, hL, htw, hst, hBt⟩ := hrel
      have HL : Hid (∀ c, left (.string c) = true → h c x ≠ none) := hL
      have HTW : Hid (Tw wr T n B' (leftF h x left) (flip h)) := htw
      have HST : Hid (Stp B w wr B') := hst
      have HBT : Hid (∀ y, B' (true, y) = B (true, y)) := hBt
      have cT := cell_kept hst.kept HC1.out HT.out.self_ne
      clear hL htw hst hBt
      go_wp2_with (first | (at_next; refine wpList_next_ranges _ rfl _ rfl 9 text_keyed unitElem (fun x : List UInt8 => .string ⟨x.toArray⟩) (fun _ : Unit => .agg #[]) (fun key kl hkey => by obtain ⟨x, rfl, _⟩ := textKey_inv hkey; exact ⟨x, rfl⟩) (fun v y hv => by obtain ⟨rfl, _⟩ := unitElem_inv hv; exact ⟨(), rfl⟩) k r n D0 left cnt rfl hrg ?_ ?_) | go_in)
      · intro _ hl0
        obtain ⟨w2, hdr, m2, k2, z2⟩ := (HTW.out.right.whole ((HBT.out none).trans HD0.out)).drop Try.underlying52 hx 0
        have HM2 : Hid (Mp codeM w2 D n (cutM (fun y => (B' (true, some y)).map some) x)) := m2
        have HK2 : Hid (Kept (· ≠ D) wr w2) := k2
        have HLE : Hid (leftF h x left = freed h x) := leftF_none h x left hl0
        clear m2 k2
        go_wp2_with fail
        go_ret
        have tw := HTW.out
        obtain ⟨r1, r2⟩ := tw.right.strike (f' := flip (freed h x)) (fun a b k e1 e2 => by have := tw.apart _ _ k e1 e2; simpa using this) ((HBT.out none).trans HD0.out) HM2.out (HK2.out.mono (fun i _ h => h.1)) (fun c => by simp [flip, freed]) (fun y hy => by funext c; simp [flip, freed, hy])
        obtain ⟨y1, y2⟩ := tw.oneR r1 r2
        rw [HLE.out] at y1
        exact ⟨true, _, rfl, ⟨fun _ => HS1.out, fun _ => rfl⟩, y1, HST.out.trans y2⟩
      · rintro c kl yd yp w1 cnt1 hkey hlx hv hat hrg1 hlt hg1 hs1 hen
        obtain ⟨c', ec, rfl, -⟩ := textKey_inv hkey
        obtain rfl : c = c' := by simpa using ec
        have hrm : NoMap wr r := by
          obtain ⟨es, clock, since, seen, c0, hb, F, hs, hD, hr', rest⟩ := hrg
          intro es' clock' e
          rw [hr'] at e
          simp at e
        have hrm1 : NoMap w1 r := by
          obtain ⟨es, clock, since, seen, c0, hb, F, hs, hD, hr', rest⟩ := hrg1
          intro es' clock' e
          rw [hr'] at e
          simp at e
        have kg : Kept (· ≠ r) wr w1 := (Kept.refl _ _).grown hg1 (fun i _ e h => h (by cases e; rfl))
        have hTr : T ≠ r := by
          have := HT.out.tlt
          omega
        have tw1 : Tw w1 T n B' (leftF h x left) (flip h) := HTW.out.kept kg hTr (fun y b e hb => HTW.out.noMap hrm y (hb ▸ e))
        have hcx := HL.out c hlx
        have cl := leave_any tw1 hx (HSH.out c x hcx) (by unfold leftF; simp [hlx]; exact hcx)
        have HM : Hid (wr.rangeLeft k r = cnt ∧ cnt1 < cnt) := ⟨hrg.left_eq, hlt⟩
        have HR1 : Hid (w1.ranges Try.prog 9 unitElem k r n D0 (fun z => left z && !z.sameKey (.string c)) cnt1) := hrg1
        have HS1' : Hid (Stp B w w1 B') := ⟨HST.out.kept.grown hg1 (fun i hi e => by cases e; omega), HST.out.news⟩
        have HNK : Hid (∀ y, B' (false, y) ≠ some k) := fun y e => by
          have := tw1.apart _ _ k e ((HBT.out (some x)).trans HB.out)
          simp at this
        have HNR : Hid (∀ y, B' (false, y) ≠ some r) := fun y => tw1.noMap hrm1 _
        clear hv hat hrg1 hg1 hs1 hrm hrm1 kg tw1 hcx ec hlt hrg
        go_wp2_with fail
        refine Calls.mono cl ?_
        rintro e w2 ⟨rfl, B2, t2, s2, o2, k2⟩
        clear cl
        have HR2 : Hid (w2.ranges Try.prog 9 unitElem k r n D0 (fun z => left z && !z.sameKey (.string c)) cnt1) := ranges_kept HR1.out k2 HNK.out HNR.out
        have HT2 : Hid (Tw w2 T n B2 (leftF h x (fun z => left z && !z.sameKey (.string c))) (flip h)) := by
          show Tw _ _ _ _ _ _
          rw [← leftF_cut]
          exact t2
        have HS2 : Hid (Stp B w w2 B2) := HS1'.out.trans s2
        have HO2 : Hid (∀ y, B2 (true, y) = B (true, y)) := fun y => (o2 y).trans (HBT.out y)
        clear t2 s2 o2 k2
        go_wp2_with fail
        go_roundw
        case rel =>
          refine ⟨_, _, B2, HR2.out, fun c' hc' => ?_, HT2.out, HS2.out, HO2.out⟩
          simp only [Bool.and_eq_true] at hc'
          exact HL.out c' hc'.1
        case measure =>
          rw [HR2.out.left_eq, HM.out.1]
          exact HM.out.2

end Go.Proofs.Ytkinpgkckbocpaa
