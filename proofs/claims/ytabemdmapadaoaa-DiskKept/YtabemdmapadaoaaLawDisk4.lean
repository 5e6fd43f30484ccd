/-
  DiskKept: whatever the bytes: true, and nothing old is written.
-/
import Derived.Test.YtabemdmapadaoaaDCut
namespace Go.Proofs.Ytabemdmapadaoaa
open Go.RowKit

/-- A disk stays while blocks that are not its own, and not old, are written. -/
theorem Mine.other {p : Nat → Prop} {t : TypeId} {w0 w w' : World} {B : Nat} {v : Value} {bs : List UInt8} {s : Nat} (h : Mine t w0 w B v bs s) (k : Kept p w w') (hB : p B) (hG : ∀ x, v.ownBlock = some x → p x) (ho : ∀ i, i < w0.heap.size → p i) : Mine t w0 w' B v bs s :=
  ⟨h.now.kept k hB hG, h.kept.then k (fun i hi _ => ho i hi), h.b, h.row⟩

/-- One byte of a row is raised. -/
theorem raised (z : UInt8) (d : Nat) : ∃ y : UInt8, ((z.toNat : Int) + d) % 256 = (y.toNat : Int) := by
  refine ⟨UInt8.ofNat (z.toNat + d), ?_⟩
  simp [UInt8.toNat_ofNat']
theorem row_at {w : World} {base n : Nat} {ao : Option Addr} {cap : Nat} {zs : List UInt8} (h : w.ownsRow base 5 1 (.slice ao n cap) n (cells zs)) (hn : 0 < n) : ∃ G, ao = some ⟨G, 0, none⟩ ∧ base ≤ G := by
  rcases h.2 with ⟨_, h0⟩ | ⟨g, cap', cur, hv, hg, _⟩
  · omega
  · injection hv with e1 e2 e3
    exact ⟨g, e1, hg⟩

theorem own_nil {w : World} {base n cap : Nat} {xs : List Value} (h : w.ownsRow base 5 1 (.slice none n cap) n xs) : cap = 0 := by
  rcases h.2 with ⟨e, _⟩ | ⟨_, _, _, e, _⟩
  · injection e
  · injection e with e1
    cases e1

set_option maxRecDepth 100000 in
set_option maxHeartbeats 1000000 in
theorem diskKept_any {w : World} {b : Option Addr} {cb : Nat} {ys : List UInt8} (hb : Has w b ys) (nb : b = none → cb = 0) (lb : ys.length ≤ cb) :
    Calls Try.prog 6 #[.slice b ys.length cb] w fun e w' => e = .returned (.bool true) ∧ Kept (fun _ => True) w w' := by
  obtain ⟨B, hB, -, hHB, hcB, hsB⟩ := cut_to 500 hb nb lb
  replace hsB : ((500 : Int) < (ys.length : Int) ∧ ∀ w0, (Instr.slice 27 (.slice b ys.length cb) none (some (.int .i64 500)) none).run Try.prog w0 = .ok (.slice b B.length cb) w0) ∨ (¬ (500 : Int) < (ys.length : Int) ∧ B = ys) := hsB
  have NB : Hid (b = none → cb = 0) := nb
  have HB : Hid (Has w b B) := hHB
  clear hHB hb nb
  go_enter Try.func6, Try.ntmps6
  go_wp2_with fail
  refine Calls.mono new_any ?_
  rintro e w1 ⟨rfl, d1, k1⟩
  have m1 : Hid (Mine 50 w w1 w.heap.size (.slice none 0 0) [] 0) := Mine.new d1 k1
  have hD : Hid (w.heap.size < w1.heap.size) := d1.lt
  clear d1 k1
  obtain ⟨D, eD⟩ : ∃ D, D = w.heap.size := ⟨_, rfl⟩
  rw [← eD] at m1 hD ⊢
  have ED : Hid (D = w.heap.size) := eD
  clear eD
  go_upto_if 13 with fail
  go_cut [0] from 11 to 15 (fun s wx => s = .slice b B.length cb ∧ w1 = wx)
  case first =>
    rcases hsB with ⟨gB, hsB⟩ | ⟨gB, rfl⟩
    all_goals (go_wp2_with fail; go_meet; exact ⟨rfl, rfl⟩)
  case rest =>
  obtain ⟨rfl, rfl⟩ := hcut
  clear hsB
  go_wp2_with (at_builtin; refine wpList_append_has rfl (.tmp 16) (.tmp 17) rfl w1.heap.size (.slice (some ⟨w1.heap.size, 0, none⟩) 0 0) 0 [] rfl (own_new w1 _ (Nat.le_refl _)) (by simp) b B.length cb rfl B rfl NB.out (HB.out.kept (m1.out.kept.alloc _) (fun _ _ => trivial)) (by omega) ?_; intro a1 c1 w2 ho1 hg1 hl1; simp only [Nat.zero_add, List.nil_append] at ho1)
  have k12 : Kept (fun _ => True) w1 w2 := fresh_one hg1
  have m2 : Hid (Mine 50 w w2 D (.slice none 0 0) [] 0) := m1.out.ahead k12
  have c := append_any (cap := c1) m2.out.now (own_has ho1) (fun e => own_nil (e ▸ ho1)) (by simp; omega)
  refine Calls.mono c ?_
  rintro e w3 ⟨rfl, v3, s3⟩
  clear c
  have m3 : Hid (Mine 50 w w3 D v3 B 0) := m2.out.step s3
  have ho3 : w3.ownsRow w1.heap.size 5 1 (.slice a1 B.length c1) B.length (cells B) := own_kept ho1 s3.kept (fun k hk => ⟨by have := (ho1.lt k hk).1; have := hD.out; omega, by simp [Value.ownBlock]⟩)
  have HR : Hid (∀ x, v3.ownBlock = some x → w2.heap.size ≤ x) := fun x hx => (s3.new x hx).resolve_left (by simp [Value.ownBlock])
  have HG : Hid (∀ k, (Value.slice a1 B.length c1).ownBlock = some k → k < w2.heap.size) := fun k hk => (ho1.lt k hk).2
  have H12 : Hid (w.heap.size < w1.heap.size ∧ w1.heap.size ≤ w2.heap.size) := ⟨by rw [← ED.out]; exact hD.out, k12.size⟩
  clear s3 m2 ho1 hg1 hl1 k12 m1
  go_wp2
  go_loopw [5] (fun t wr => ∃ (k : Nat) (zs : List UInt8), k ≤ B.length ∧ t = .int .i64 k ∧ zs.length = B.length ∧ wr.ownsRow w1.heap.size 5 1 (.slice a1 B.length c1) B.length (cells zs) ∧ Mine 50 w wr D v3 B 0) (fun t _ => B.length - (intOf t).toNat)
  case atStart => exact ⟨0, B, Nat.zero_le _, rfl, rfl, ho3, m3.out⟩
  case round =>
    clear ho3 m3
    obtain ⟨k, zs, hk, rfl, hz, hx, hm⟩ := hrel
    by_cases hlt : k < B.length
    · obtain ⟨G, rfl, hG⟩ := row_at hx (by omega)
      have HGK : Hid (G < w2.heap.size) := HG.out G rfl
      have q1 : wr.cell? ⟨G, k, none⟩ = some (.int .u8 (zs[k]'(by omega)).toNat) := by rw [hx.cellAt k (by omega), cells_getElem zs k (by omega)]
      have q2 : wr.frozen? ⟨G, k, none⟩ = false := hx.frozenAt k
      obtain ⟨y, hy⟩ := raised (zs[k]'(by omega)) 1
      replace hy : ((zs[k]'(by omega)).toNat + (1 : Int)) % 256 = y.toNat := hy
      have HX : Hid ((wr.setCell ⟨G, k, none⟩ (.int .u8 y.toNat)).ownsRow w1.heap.size 5 1 (.slice (some ⟨G, 0, none⟩) B.length c1) B.length (cells (zs.set k y)) ∧ Mine 50 w (wr.setCell ⟨G, k, none⟩ (.int .u8 y.toNat)) D v3 B 0 ∧ (zs.set k y).length = B.length) := by
        refine ⟨?_, ?_, by simp [hz]⟩
        · rw [show cells (zs.set k y) = (cells zs).set k (.int .u8 y.toNat) by simp [cells, List.map_set]]
          exact (hx.stored k (.int .u8 y.toNat)).1
        · refine hm.other (p := (· ≠ G)) ((Kept.refl _ _).setCell (by simp) _) ?_ ?_ ?_
          · have := hD.out; omega
          · intro x hx; have := HR.out x hx; have := HGK.out; omega
          · intro i hi; have := H12.out.1; omega
      have hkl : (k : Int) < (B.length : Int) := by omega
      have hk0 : (0 : Int) ≤ (k : Int) := by omega
      generalize (zs[k]'(by omega)).toNat = z at *
      clear hx hm hz
      go_wp2
      go_roundw
      case rel => exact ⟨k + 1, _, by omega, by go_num, HX.out.2.2, HX.out.1, HX.out.2.1⟩
      case measure => simp [intOf]; omega
    · have hkl : ¬ ((k : Int) < (B.length : Int)) := by omega
      obtain rfl : k = B.length := by omega
      have m4 : Hid (Mine 50 w wr D v3 B 0) := hm
      clear hx hz hm HG
      have c := bytes_any m4.out.now
      go_wp2_with fail
      refine Calls.mono c ?_
      rintro e w5 ⟨rfl, r5, k5⟩
      clear c
      have m5 : Hid (Mine 50 w w5 D v3 B 0) := m4.out.ahead k5
      have ho5 : w5.ownsRow wr.heap.size 5 1 (.slice (some ⟨wr.heap.size, 0, none⟩) B.length B.length) B.length (cells B) := ⟨by simp [cells_length], .inr ⟨wr.heap.size, B.length, (cells B).toArray, rfl, Nat.le_refl _, r5, Nat.le_refl _, by unfold maxLen; omega, by simp [cells_length], by simp [cells_length, List.take_of_length_le]⟩⟩
      have HE : Hid (D < wr.heap.size ∧ (∀ x, v3.ownBlock = some x → x < wr.heap.size) ∧ w.heap.size ≤ wr.heap.size) := ⟨m4.out.now.lt, m4.out.now.rowlt, m4.out.kept.size⟩
      clear m4 r5 k5
      generalize wr.heap.size = G at *
      go_wp2
      go_loopw [7] (fun t wr => ∃ (k : Nat) (zs : List UInt8), k ≤ B.length ∧ t = .int .i64 k ∧ zs.length = B.length ∧ wr.ownsRow G 5 1 (.slice (some ⟨G, 0, none⟩) B.length B.length) B.length (cells zs) ∧ Mine 50 w wr D v3 B 0) (fun t _ => B.length - (intOf t).toNat)
      case atStart => exact ⟨0, B, Nat.zero_le _, rfl, rfl, ho5, m5.out⟩
      case round =>
        clear ho5 m5
        obtain ⟨k, zs, hk, rfl, hz, hx, hm⟩ := hrel
        by_cases hlt : k < B.length
        · have q1 : wr.cell? ⟨G, k, none⟩ = some (.int .u8 (zs[k]'(by omega)).toNat) := by rw [hx.cellAt k (by omega), cells_getElem zs k (by omega)]
          have q2 : wr.frozen? ⟨G, k, none⟩ = false := hx.frozenAt k
          obtain ⟨y, hy⟩ := raised (zs[k]'(by omega)) 2
          replace hy : ((zs[k]'(by omega)).toNat + (2 : Int)) % 256 = y.toNat := hy
          have HX : Hid ((wr.setCell ⟨G, k, none⟩ (.int .u8 y.toNat)).ownsRow G 5 1 (.slice (some ⟨G, 0, none⟩) B.length B.length) B.length (cells (zs.set k y)) ∧ Mine 50 w (wr.setCell ⟨G, k, none⟩ (.int .u8 y.toNat)) D v3 B 0 ∧ (zs.set k y).length = B.length) := by
            refine ⟨?_, ?_, by simp [hz]⟩
            · rw [show cells (zs.set k y) = (cells zs).set k (.int .u8 y.toNat) by simp [cells, List.map_set]]
              exact (hx.stored k (.int .u8 y.toNat)).1
            · refine hm.other (p := (· ≠ G)) ((Kept.refl _ _).setCell (by simp) _) ?_ ?_ ?_
              · have := HE.out.1; omega
              · intro x hx; have := HE.out.2.1 x hx; omega
              · intro i hi; have := HE.out.2.2; omega
          have hkl' : (k : Int) < (B.length : Int) := by omega
          have hk0 : (0 : Int) ≤ (k : Int) := by omega
          generalize (zs[k]'(by omega)).toNat = z at *
          clear hx hm hz
          go_wp2
          go_roundw
          case rel => exact ⟨k + 1, _, by omega, by go_num, HX.out.2.2, HX.out.1, HX.out.2.1⟩
          case measure => simp [intOf]; omega
        · have hkl' : ¬ ((k : Int) < (B.length : Int)) := by omega
          obtain rfl : k = B.length := by omega
          have m6 : Hid (Mine 50 w wr D v3 B 0) := hm
          clear hx hz hm
          have hcb : ∀ W, Kept (fun _ => True) wr W → (convert 27 9 (.slice b B.length cb)).run Try.prog W = .ok (.string ⟨B.toArray⟩) W := fun W k => conv_sl ⟨b, cb, rfl, NB.out, HB.out.kept (m6.out.kept.trans k) (fun _ _ => trivial)⟩
          have kd1 : Kept (fun _ => True) wr wr.drew := (Kept.refl _ _).drew
          clear HR HE hD ED H12
          go_wp2
          go_region_held (fun W => Kept (fun _ => True) wr W) (assumption) (first
            | (go_at_call 14; refine Calls.mono (bytes_any (m6.out.ahead kd1).now) ?_; rintro e w8 ⟨rfl, r8, k8⟩; have k8' : Kept (fun _ => True) wr w8 := kd1.trans k8; have cv : (convert 27 9 (.slice (some ⟨wr.heap.size, 0, none⟩) B.length B.length)).run Try.prog w8 = .ok (.string ⟨B.toArray⟩) w8 := conv_row (cap := B.length) r8; have k8'' : Hid (Kept (fun _ => True) w w8) := m6.out.kept.trans k8'; clear r8 k8)
            | (go_at_call 15; refine Calls.mono (known_any _) ?_; rintro e w9 ⟨rfl, k9⟩; have k9' : Kept (fun _ => True) wr w9 := k8'.trans k9))
          go_wp2
          go_ret
          exact ⟨rfl, k8''.out.trans k9⟩

end Go.Proofs.Ytabemdmapadaoaa
