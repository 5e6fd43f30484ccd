/-
  Wants that are looked at; Take.
-/
import Derived.Test.YtkinpgkckbocpaaK5
namespace Go.Proofs.Ytkinpgkckbocpaa
open Go.RowKit Go.Maps

/-- Block k is no map. -/
def NoMap (w : World) (k : Nat) : Prop := ∀ es clock, w.heap[k]? ≠ some (.map es clock)
theorem noMap_cell {w : World} {b o : Nat} {v : Value} (h : w.cell? ⟨b, o, none⟩ = some v) : NoMap w b := by
  intro es clock e
  simp [World.cell?, e] at h
theorem noMap_cells {w : World} {b : Nat} {cs : Array Value} {ty : TypeId} {fr : Nat × Nat} (h : w.heap[b]? = some (.cells cs ty fr)) : NoMap w b := by
  intro es clock e
  rw [h] at e
  simp at e
theorem Tw.noMap {w : World} {T n : Nat} {B : Lab → Option Nat} {f : Lk} {g : List UInt8 → List UInt8 → Option Unit} (t : Tw w T n B f g) {k : Nat} (hk : NoMap w k) (x : Lab) : B x ≠ some k := by
  intro e
  obtain ⟨es, clock, he⟩ := t.isMap e
  exact hk es clock he
theorem cell_kept {p : Nat → Prop} {w w' : World} {a : Addr} {v : Value} (k : Kept p w w') (h : w.cell? a = some v) (hp : p a.block) : w'.cell? a = some v :=
  (World.cell?_of_block (w := w) (k.block a.block (World.block_lt_of_cell? w _ h) hp)).trans h
/-- Wants that are looked at. -/
def Wn (w : World) (v : Value) (l : List (List UInt8 × Bool)) : Prop :=
  ∃ ao cap, v = .slice ao l.length cap ∧ (0 < l.length → ∃ b off, ao = some ⟨b, off, none⟩ ∧ ∀ i (h : i < l.length), w.cell? ⟨b, off + i * 2, none⟩ = some (.string ⟨(l[i].1).toArray⟩) ∧ w.cell? ⟨b, off + i * 2 + 1, none⟩ = some (.bool l[i].2))
theorem Wn.kept {p : Nat → Prop} {w w' : World} {v : Value} {l : List (List UInt8 × Bool)} (h : Wn w v l) (k : Kept p w w') (hp : ∀ b, NoMap w b → p b) : Wn w' v l := by
  obtain ⟨ao, cap, e, h⟩ := h
  refine ⟨ao, cap, e, fun h0 => ?_⟩
  obtain ⟨b, off, e, hc⟩ := h h0
  refine ⟨b, off, e, fun i hi => ?_⟩
  obtain ⟨h1, h2⟩ := hc i hi
  exact ⟨cell_kept k h1 (hp b (noMap_cell h1)), cell_kept k h2 (hp b (noMap_cell h2))⟩
theorem Wn.all {w w' : World} {v : Value} {l : List (List UInt8 × Bool)} (h : Wn w v l) (k : Kept (fun _ => True) w w') : Wn w' v l := h.kept k (fun _ _ => trivial)
theorem Wn.nil (w : World) : Wn w (.slice none 0 0) [] := ⟨none, 0, rfl, fun h => by simp at h⟩
theorem gives_snoc (h : Lk) (x : List UInt8) (l : List (List UInt8 × Bool)) (w : List UInt8 × Bool) : gives h x (l ++ [w]) = give (gives h x l) x w.1 w.2 := by
  induction l generalizing h with
  | nil => rfl
  | cons v l ih => exact ih _
theorem gives_take (h : Lk) (x : List UInt8) (l : List (List UInt8 × Bool)) (i : Nat) (hi : i < l.length) : gives h x (l.take (i + 1)) = give (gives h x (l.take i)) x l[i].1 l[i].2 := by
  rw [List.take_succ_eq_append_getElem hi, gives_snoc]

set_option maxRecDepth 100000 in
set_option maxHeartbeats 2000000 in
theorem take_any {w : World} {T n : Nat} {B : Lab → Option Nat} {h : Lk} (t : Tb w T n B h) (ha : Alone h) {x : List UInt8} (hx : x.length ≤ 9223372036854775807) {v : Value} {l : List (List UInt8 × Bool)} (hw : Wn w v l) (hl : ∀ z ∈ l, z.1.length ≤ 9223372036854775807) (hn : n + l.length ≤ 1000000) :
    Calls Try.prog 9 #[.pointer (some ⟨T, 0, none⟩), .string ⟨x.toArray⟩, v] w fun e w' => ∃ (r : Int) (h' : Lk) (B' : Lab → Option Nat), e = .returned (.int .i64 r) ∧ Takes h x l r h' ∧ Tb w' T (n + l.length) B' h' ∧ Stp B w w' B' := by
  obtain ⟨ao, cap, rfl, hc⟩ := hw
  have HT : Hid (Tb w T n B h) := t
  have HA : Hid (Alone h) := ha
  have HL : Hid (∀ z ∈ l, z.1.length ≤ 9223372036854775807) := hl
  have HC : Hid (0 < l.length → ∃ b off, ao = some ⟨b, off, none⟩ ∧ ∀ i (h : i < l.length), w.cell? ⟨b, off + i * 2, none⟩ = some (.string ⟨(l[i].1).toArray⟩) ∧ w.cell? ⟨b, off + i * 2 + 1, none⟩ = some (.bool l[i].2)) := hc
  clear t ha hl hc
  by_cases hx0 : x = []
  · subst hx0
    go_enter Try.func9, Try.ntmps9
    go_wp2_with fail
    go_ret
    exact ⟨1, h, B, rfl, .inl ⟨rfl, rfl, rfl⟩, HT.out.mono (by omega), Stp.refl _ _⟩
  · have hxe : (x == []) = false := beq_eq_false_iff_ne.2 hx0
    have HX : Hid (x ≠ []) := hx0
    clear hx0
    go_enter Try.func9, Try.ntmps9
    go_wp2_with fail
    go_loopw [8, 15] (fun _ t15 wr => ∃ i : Nat, i ≤ l.length ∧ t15 = .int .i64 (i : Nat) ∧ (∀ z ∈ l.take i, ¬ Ill h x z.1 z.2) ∧ Kept (fun _ => True) w wr) (fun _ t15 _ => l.length - (intOf t15).toNat)
    case atStart => exact ⟨0, Nat.zero_le _, rfl, by simp, Kept.refl _ _⟩
    case round =>
      obtain ⟨i, hi, rfl, hni, hk⟩ := hrel
      have HNI : Hid (∀ z ∈ l.take i, ¬ Ill h x z.1 z.2) := hni
      have HK : Hid (Kept (fun _ => True) w wr) := hk
      clear hni hk
      by_cases hlt : i < l.length
      · obtain ⟨b, off, rfl, hcs⟩ := HC.out (by omega)
        obtain ⟨c0, c1⟩ := hcs i hlt
        have q0 := cell_kept HK.out c0 trivial
        have q1 := cell_kept HK.out c1 trivial
        have hzl := HL.out l[i] (List.getElem_mem hlt)
        have HTK : Hid (l.take (i + 1) = l.take i ++ [l[i]]) := List.take_succ_eq_append_getElem hlt
        have HIN : Hid (l[i] ∈ l) := List.getElem_mem hlt
        have i1 : (i : Int) < (l.length : Int) := by omega
        have i0 : (0 : Int) ≤ (i : Int) := by omega
        clear hcs c0 c1
        generalize l[i] = z at *
        obtain ⟨c, wt⟩ := z
        simp only at q0 q1 hzl
        have HK2 : Hid (Kept (fun _ => True) w (wr.alloc (.cells #[.string ⟨c.toArray⟩, .bool wt] 27))) := HK.out.alloc _
        have cb := busy_any (HT.out.all HK2.out) HA.out hx hzl wt (by omega)
        go_wp2_with fail
        refine Calls.mono cb ?_
        rintro e w2 ⟨q, rfl, hq, k2⟩
        clear cb
        have HQ : Hid (q = true ↔ Ill h x c wt) := hq
        have HK3 : Hid (Kept (fun _ => True) w w2) := HK2.out.trans k2
        clear hq k2
        cases q with
        | true =>
          go_wp2_with fail
          go_ret
          exact ⟨35, h, B, rfl, .inr (.inl ⟨HX.out, ⟨(c, wt), HIN.out, HQ.out.1 (by simp)⟩, rfl, rfl⟩), (HT.out.all HK3.out).mono (by omega), Stp.of B HK3.out⟩
        | false =>
          go_wp2_with fail
          go_roundw
          case rel =>
            refine ⟨i + 1, by omega, by go_num, ?_, HK3.out⟩
            intro z hz
            rw [HTK.out, List.mem_append, List.mem_singleton] at hz
            rcases hz with hz | rfl
            · exact HNI.out z hz
            · intro hi
              have := HQ.out.2 hi
              cases this
          case measure => simp [intOf]; omega
      · have i1 : ¬ (i : Int) < (l.length : Int) := by omega
        have HAll : Hid (∀ z ∈ l, ¬ Ill h x z.1 z.2) := by
          have := HNI.out
          rwa [List.take_of_length_le (by omega)] at this
        clear HNI
        go_wp2_with fail
        have HW0 : Hid (Kept (fun _ => True) w wr) := HK.out
        generalize wr = w4 at *
        go_loopw [10, 26] (fun _ t26 wr => ∃ (i : Nat) (B' : Lab → Option Nat), i ≤ l.length ∧ t26 = .int .i64 (i : Nat) ∧ Tb wr T (n + i) B' (gives h x (l.take i)) ∧ Stp B w wr B') (fun _ t26 _ => l.length - (intOf t26).toNat)
        case atStart => exact ⟨0, B, Nat.zero_le _, rfl, HT.out.all HW0.out, Stp.of B HW0.out⟩
        case round =>
          obtain ⟨j, B', hj, rfl, hT, hS⟩ := hrel
          have HTj : Hid (Tb wr T (n + j) B' (gives h x (l.take j))) := hT
          have HSj : Hid (Stp B w wr B') := hS
          clear hT hS
          by_cases hlt : j < l.length
          · obtain ⟨b, off, rfl, hcs⟩ := HC.out (by omega)
            obtain ⟨c0, c1⟩ := hcs j hlt
            have q0 := cell_kept HSj.out.kept c0 (fun y => HT.out.noMap (noMap_cell c0) y)
            have q1 := cell_kept HSj.out.kept c1 (fun y => HT.out.noMap (noMap_cell c0) y)
            have hzl := HL.out l[j] (List.getElem_mem hlt)
            have HTK : Hid (gives h x (l.take (j + 1)) = give (gives h x (l.take j)) x l[j].1 l[j].2) := gives_take h x l j hlt
            have j1 : (j : Int) < (l.length : Int) := by omega
            have j0 : (0 : Int) ≤ (j : Int) := by omega
            clear hcs c0 c1
            generalize l[j] = z at *
            obtain ⟨c, wt⟩ := z
            simp only at q0 q1 hzl
            have HK2 : Hid (Kept (fun _ => True) wr (wr.alloc (.cells #[.string ⟨c.toArray⟩, .bool wt] 27))) := (Kept.refl _ _).alloc _
            have cg := give_any (HTj.out.all HK2.out) hx hzl wt (by omega)
            go_wp2_with fail
            refine Calls.mono cg ?_
            rintro e w2 ⟨rfl, B2, t2, s2⟩
            clear cg
            have HT2 : Hid (Tb w2 T (n + (j + 1)) B2 (gives h x (l.take (j + 1)))) := by
              show Tb _ _ _ _ _
              rw [HTK.out]
              exact t2
            have HS2 : Hid (Stp B w w2 B2) := (HSj.out.then HK2.out).trans s2
            clear t2 s2
            go_wp2_with fail
            go_roundw
            case rel => exact ⟨j + 1, B2, by omega, by go_num, HT2.out, HS2.out⟩
            case measure => simp [intOf]; omega
          · have j1 : ¬ (j : Int) < (l.length : Int) := by omega
            obtain rfl : j = l.length := by omega
            have HG : Hid (gives h x (l.take l.length) = gives h x l) := by
              show _ = _
              rw [List.take_length]
            go_wp2_with fail
            go_ret
            have := HTj.out
            rw [HG.out] at this
            exact ⟨0, rfl, gives h x l, .inr (.inr ⟨HX.out, HAll.out, rfl, rfl⟩), B', this, HSj.out⟩

end Go.Proofs.Ytkinpgkckbocpaa
