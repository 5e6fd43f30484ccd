/-
  The walk of WireBack: for Parts of some weight it answers true, and turns nothing that was there.
-/
import Derived.Test.YtlkkmggopoknaaaBack2
import Derived.Test.YtlkkmggopoknaaaLawSizes
namespace Go.Proofs.Ytlkkmggopoknaaa
open Go.RowKit

attribute [local go_sem ↓] Go.wp_at_zero Go.wp_at_succ

theorem Rs.drewK {w : World} {B R : Nat} {bs : List UInt8} {cap : Nat} {s : RS} (h : Rs w B R bs cap s) : Rs w.drew B R bs cap s := h.kept (Kept.refl (fun _ => True) w).drew trivial trivial

set_option maxRecDepth 100000 in
set_option maxHeartbeats 8000000 in
theorem back_any {w : World} {pa : Option Addr} {plen pcap : Nat} {ps : List PartV} (hp : IsParts w pa plen ps) (hpl : plen ≤ maxLen) (hwt : weigh ps ≤ 10000000) :
    Calls Try.prog 6 #[.slice pa plen pcap] w fun e w' => e = .returned (.bool true) ∧ Kept (fun _ => True) w w' := by
  unfold maxLen at hpl
  have hpl' : (plen : Int) ≤ 9223372036854775807 := by omega
  have HP : Hid (IsParts w pa plen ps) := hp
  clear hp hpl
  go_enter Try.func6, Try.ntmps6
  go_wp2_with fail
  refine Calls.mono newWriter_any ?_
  rintro e w1 ⟨rfl, hw, k1, s1⟩
  go_wp2
  go_loopw [4] (fun t wr => ∃ (k : Nat) (G : Option Nat) (v : Value), k ≤ plen ∧ k ≤ 60 ∧ t = .int .i64 k ∧ Wr wr w.heap.size G v (allTo ps k) ∧ (∀ x, G = some x → w.heap.size ≤ x) ∧ Kept (fun _ => True) w wr) (fun t _ => plen - (intOf t).toNat)
  case atStart => exact ⟨0, none, _, Nat.zero_le _, by omega, rfl, hw, by simp, k1⟩
  case round =>
    clear hw k1 s1
    obtain ⟨k, G, v, hk, hk60, rfl, hw, hG, kr⟩ := hrel
    by_cases hlt : k < plen ∧ k < 60
    · obtain ⟨h1, h2⟩ := hlt
      obtain ⟨b, off, rfl, hbl, p, hfit, ⟨_, c1, c2, c3⟩, hget⟩ := parts_cell HP.out k h1
      have hk1 : (k : Int) < (plen : Int) := by omega
      have hk2 : (k : Int) < 60 := by omega
      have hroom := part_room ps k p hget
      have HS : Hid (allTo ps k ++ enc (u64 p.n) 1 ++ enc (u64 p.n) 4 ++ enc (u64 p.wide) 8 ++ enc (u64 p.s.size) 4 ++ p.s.data.toList = allTo ps (k + 1)) := by
        show _ = _
        rw [allTo_succ ps k p hget]
        simp [PartV.all, List.append_assoc]
      have d1 := (kr.cell (o := off + k * 4 + 1) hbl trivial).trans c1
      generalize allTo ps k = cur at *
      go_wp2_with fail
      refine Calls.mono (wbyte_any p.n hw (by omega)) ?_
      rintro e u1 ⟨rfl, G1, v1, hw1, m1, n1⟩
      have q1 : Kept (fun _ => True) w u1 := kr.then m1 (fun i hi _ => ⟨by omega, fun h => by have := hG i h; omega⟩)
      have g1 : ∀ x, G1 = some x → w.heap.size ≤ x := fun x hx => by rcases n1 x hx with h | h; exact hG x h; have := kr.size; omega
      have d2 := (q1.cell (o := off + k * 4 + 1) hbl trivial).trans c1
      clear hw kr m1 n1 hG d1
      go_wp2_with fail
      refine Calls.mono (wfour_any p.n hw1 (by simp only [List.length_append, enc_length]; omega)) ?_
      rintro e u2 ⟨rfl, G2, v2, hw2, m2, n2⟩
      have q2 : Kept (fun _ => True) w u2 := q1.then m2 (fun i hi _ => ⟨by omega, fun h => by have := g1 i h; omega⟩)
      have g2 : ∀ x, G2 = some x → w.heap.size ≤ x := fun x hx => by rcases n2 x hx with h | h; exact g1 x h; have := q1.size; omega
      have d3 := (q2.cell (o := off + k * 4 + 2) hbl trivial).trans c2
      clear hw1 q1 m2 n2 g1 d2
      go_wp2_with fail
      refine Calls.mono (weight_any p.wide hw2 (by simp only [List.length_append, enc_length]; omega)) ?_
      rintro e u3 ⟨rfl, G3, v3, hw3, m3, n3⟩
      have q3 : Kept (fun _ => True) w u3 := q2.then m3 (fun i hi _ => ⟨by omega, fun h => by have := g2 i h; omega⟩)
      have g3 : ∀ x, G3 = some x → w.heap.size ≤ x := fun x hx => by rcases n3 x hx with h | h; exact g2 x h; have := q2.size; omega
      have d4 := (q3.cell (o := off + k * 4 + 3) hbl trivial).trans c3
      clear hw2 q2 m3 n3 g2 d3
      go_wp2_with fail
      refine Calls.mono (wtext_any p.s hw3 (by simp only [List.length_append, enc_length]; omega)) ?_
      rw [HS.out]
      rintro e u4 ⟨rfl, G4, v4, hw4, m4, n4⟩
      have q4 : Kept (fun _ => True) w u4 := q3.then m4 (fun i hi _ => ⟨by omega, fun h => by have := g3 i h; omega⟩)
      have g4 : ∀ x, G4 = some x → w.heap.size ≤ x := fun x hx => by rcases n4 x hx with h | h; exact g3 x h; have := q3.size; omega
      clear hw3 q3 m4 n4 g3 d4
      go_wp2
      go_roundw
      case rel => exact ⟨k + 1, G4, v4, by omega, by omega, by go_num, hw4, g4, q4⟩
      case measure => simp [intOf]; omega
    · have hK : allTo ps k = allTo ps 60 := by
        unfold allTo
        by_cases h60 : k = 60
        · rw [h60]
        · have hkl : ps.length ≤ k := by rw [HP.out.1]; omega
          rw [List.take_of_length_le hkl, List.take_of_length_le (by omega)]
      rw [hK] at hw
      have hlen := allTo_len ps 60
      have HT : Hid (∃ T, allTo ps 60 = T) := ⟨_, rfl⟩
      obtain ⟨T, hT⟩ := HT.out
      have HTT : Hid (allTo ps 60 = T) := hT
      rw [hT] at hw hlen
      have HK : Hid (k < plen → k = 60) := fun h => by omega
      have hwait : (k < plen ∧ k = 60) ∨ (plen ≤ k) := by omega
      clear hT HT hK hlt
      rcases hwait with ⟨h1, h2⟩ | h1
      · have hk1 : (k : Int) < (plen : Int) := by omega
        have hk2 : ¬ ((k : Int) < 60) := by omega
        clear h1 h2 HK
        go_wp2_with fail
        refine Calls.mono (done_any hw (by omega)) ?_
        rintro e w2 ⟨D, rfl, hD, k2, _⟩
        have k02 := kr.trans k2
        have hh : Has w2 (some ⟨D, 0, none⟩) T := has_row hD
        go_wp2_with fail
        refine Calls.mono (newReader_any (by omega) hh) ?_
        rintro e w3 ⟨B, R, rfl, hr, k3, hB, hR⟩
        have k03 := k02.trans k3
        have hBw : w.heap.size ≤ B := by have := k02.size; omega
        clear hw kr k2 k02 hD hh k3 hB hR
        go_wp2
        go_loopw [6] (fun t wr => ∃ k : Nat, k ≤ plen ∧ k ≤ 60 ∧ t = .int .i64 k ∧ Rs wr B R T T.length (RS.on (allTo ps k).length) ∧ Kept (fun _ => True) w wr) (fun t _ => plen - (intOf t).toNat)
        case atStart => exact ⟨0, Nat.zero_le _, by omega, rfl, by simpa [RS.on, allTo] using hr, k03⟩
        case round =>
          clear hr k03
          obtain ⟨j, hj, hj60, rfl, hr, kr⟩ := hrel
          by_cases hlt : j < plen ∧ j < 60
          · obtain ⟨g1, g2⟩ := hlt
            obtain ⟨b, off, rfl, hbl, p, hfit, ⟨_, c1, c2, c3⟩, hget⟩ := parts_cell HP.out j g1
            obtain ⟨rest, hsplit⟩ := allTo_split ps j 60 p hget g2
            rw [HTT.out] at hsplit
            have hps := part_size ps j p hget
            obtain ⟨b1, b2, b3, r1, e1, r2, e2, r3, e3, r4⟩ := read_part (allTo ps j) rest p (by omega)
            rw [← hsplit] at r1 r2 r3 r4
            rw [← allTo_succ ps j p hget] at r4
            have f1 : bits BinOp.and .i64 p.n 255 = (b1 : Int) := by rw [e1]; exact and_byte p.n
            have f2 : IntKind.u32.wrap p.n = (b2 : Int) := by rw [e2]; exact u32_back p.n
            have hb2 : (b2 : Int) < 4294967296 := by omega
            have f2' : IntKind.i64.wrap (b2 : Int) = (b2 : Int) := by simp [IntKind.wrap, IntKind.bits, IntKind.signed]; omega
            have f3 : i64 (b3 : Int) = p.wide := by rw [e3]; exact i64_back p.wide hfit.2.2.1
            generalize (allTo ps j).length = L at *
            have HR1 : Hid ((RS.on L).num T 1 = (b1, RS.on (L + 1))) := r1
            have HR2 : Hid ((RS.on (L + 1)).num T 4 = (b2, RS.on (L + 5))) := r2
            have HR3 : Hid ((RS.on (L + 5)).num T 8 = (b3, RS.on (L + 13))) := r3
            have HR4 : Hid ((RS.on (L + 13)).text T p.s.size = (p.s.data.toList, RS.on (allTo ps (j + 1)).length)) := r4
            have HF3 : Hid (i64 (b3 : Int) = p.wide) := f3
            have hcn : ∀ W, Kept (fun _ => True) w W → W.cell? ⟨b, off + j * 4 + 1, none⟩ = some (.int .i64 p.n) := fun W hW => (hW.cell hbl trivial).trans c1
            have hcw : ∀ W, Kept (fun _ => True) w W → W.cell? ⟨b, off + j * 4 + 2, none⟩ = some (.int .i64 p.wide) := fun W hW => (hW.cell hbl trivial).trans c2
            have hcs : ∀ W, Kept (fun _ => True) w W → W.cell? ⟨b, off + j * 4 + 3, none⟩ = some (.string p.s) := fun W hW => (hW.cell hbl trivial).trans c3
            have hj1 : (j : Int) < (plen : Int) := by omega
            have hj2 : (j : Int) < 60 := by omega
            have hj0 : (0 : Int) ≤ (j : Int) := by omega
            clear r1 r2 r3 r4 e1 e2 e3 f3 hsplit c1 c2 c3 hget
            have hrd := hr.drewK
            have krd := kr.drew
            clear hr kr
            go_wp2
            go_region_held3 (fun w' => Kept (fun _ => True) w w') (assumption)
              (first
                | (go_at_call 15; refine Calls.mono (byte_any hrd) ?_; rw [HR1.out]; rintro e u1 ⟨rfl, hr1, m1⟩; have q1 : Kept (fun _ => True) w u1 := krd.then m1 (fun i hi _ => by omega))
                | (go_at_call 13; refine Calls.mono (four_any hr1) ?_; rw [HR2.out]; rintro e u2 ⟨rfl, hr2, m2⟩; have q2 : Kept (fun _ => True) w u2 := q1.then m2 (fun i hi _ => by omega))
                | (go_at_call 25; refine Calls.mono (eight_any hr2) ?_; rw [HR3.out, HF3.out]; rintro e u3 ⟨rfl, hr3, m3⟩; have q3 : Kept (fun _ => True) w u3 := q2.then m3 (fun i hi _ => by omega))
                | (go_at_call 16; refine Calls.mono (text_any p.s.size hr3) ?_; rw [HR4.out]; rintro e u4 ⟨rfl, hr4, m4⟩; have q4 : Kept (fun _ => True) w u4 := q3.then m4 (fun i hi _ => by omega)))
            go_wp2
            go_roundw
            case rel => exact ⟨j + 1, by omega, by omega, by go_num, hr4, q4⟩
            case measure => simp [intOf]; omega
          · have hJ : allTo ps j = T := by
              rw [← HTT.out]
              unfold allTo
              by_cases h60 : j = 60
              · rw [h60]
              · have hkl : ps.length ≤ j := by rw [HP.out.1]; omega
                rw [List.take_of_length_le hkl, List.take_of_length_le (by omega)]
            rw [hJ] at hr
            have hE : Hid ((RS.on T.length).end_ T = (0, 0)) := by show _ = _; simp [RS.end_, RS.on]
            have hLf : Hid ((RS.on T.length).left T = 0) := by show _ = _; simp [RS.left, leftOf, RS.on]
            have hw2 : (j < plen ∧ j = 60) ∨ (plen ≤ j) := by omega
            clear hJ hlt
            rcases hw2 with ⟨h1, h2⟩ | h1
            · have hk1 : (j : Int) < (plen : Int) := by omega
              have hk2 : ¬ ((j : Int) < 60) := by omega
              go_wp2_with fail
              refine Calls.mono (end_any hr) ?_
              rw [hE.out]
              rintro e _ ⟨rfl, n5, rfl⟩
              have hr5 := hr.kept ((Kept.refl (fun _ => True) wr).drewN n5) trivial trivial
              go_wp2_with fail
              refine Calls.mono (left_is hr5) ?_
              rw [hLf.out]
              rintro e _ ⟨rfl, n6, rfl⟩
              go_wp2_with fail
              refine Calls.mono (known_any _) ?_
              rintro e u7 ⟨rfl, k7⟩
              go_wp2
              go_ret
              exact ⟨rfl, (kr.drewN _).trans k7⟩
            · have hk1 : ¬ ((j : Int) < (plen : Int)) := by omega
              go_wp2_with fail
              refine Calls.mono (end_any hr) ?_
              rw [hE.out]
              rintro e _ ⟨rfl, n5, rfl⟩
              have hr5 := hr.kept ((Kept.refl (fun _ => True) wr).drewN n5) trivial trivial
              go_wp2_with fail
              refine Calls.mono (left_is hr5) ?_
              rw [hLf.out]
              rintro e _ ⟨rfl, n6, rfl⟩
              go_wp2_with fail
              refine Calls.mono (known_any _) ?_
              rintro e u7 ⟨rfl, k7⟩
              go_wp2
              go_ret
              exact ⟨rfl, (kr.drewN _).trans k7⟩
      · have hk1 : ¬ ((k : Int) < (plen : Int)) := by omega
        clear h1 HK
        go_wp2_with fail
        refine Calls.mono (done_any hw (by omega)) ?_
        rintro e w2 ⟨D, rfl, hD, k2, _⟩
        have k02 := kr.trans k2
        have hh : Has w2 (some ⟨D, 0, none⟩) T := has_row hD
        go_wp2_with fail
        refine Calls.mono (newReader_any (by omega) hh) ?_
        rintro e w3 ⟨B, R, rfl, hr, k3, hB, hR⟩
        have k03 := k02.trans k3
        have hBw : w.heap.size ≤ B := by have := k02.size; omega
        clear hw kr k2 k02 hD hh k3 hB hR
        go_wp2
        go_loopw [6] (fun t wr => ∃ k : Nat, k ≤ plen ∧ k ≤ 60 ∧ t = .int .i64 k ∧ Rs wr B R T T.length (RS.on (allTo ps k).length) ∧ Kept (fun _ => True) w wr) (fun t _ => plen - (intOf t).toNat)
        case atStart => exact ⟨0, Nat.zero_le _, by omega, rfl, by simpa [RS.on, allTo] using hr, k03⟩
        case round =>
          clear hr k03
          obtain ⟨j, hj, hj60, rfl, hr, kr⟩ := hrel
          by_cases hlt : j < plen ∧ j < 60
          · obtain ⟨g1, g2⟩ := hlt
            obtain ⟨b, off, rfl, hbl, p, hfit, ⟨_, c1, c2, c3⟩, hget⟩ := parts_cell HP.out j g1
            obtain ⟨rest, hsplit⟩ := allTo_split ps j 60 p hget g2
            rw [HTT.out] at hsplit
            have hps := part_size ps j p hget
            obtain ⟨b1, b2, b3, r1, e1, r2, e2, r3, e3, r4⟩ := read_part (allTo ps j) rest p (by omega)
            rw [← hsplit] at r1 r2 r3 r4
            rw [← allTo_succ ps j p hget] at r4
            have f1 : bits BinOp.and .i64 p.n 255 = (b1 : Int) := by rw [e1]; exact and_byte p.n
            have f2 : IntKind.u32.wrap p.n = (b2 : Int) := by rw [e2]; exact u32_back p.n
            have hb2 : (b2 : Int) < 4294967296 := by omega
            have f2' : IntKind.i64.wrap (b2 : Int) = (b2 : Int) := by simp [IntKind.wrap, IntKind.bits, IntKind.signed]; omega
            have f3 : i64 (b3 : Int) = p.wide := by rw [e3]; exact i64_back p.wide hfit.2.2.1
            generalize (allTo ps j).length = L at *
            have HR1 : Hid ((RS.on L).num T 1 = (b1, RS.on (L + 1))) := r1
            have HR2 : Hid ((RS.on (L + 1)).num T 4 = (b2, RS.on (L + 5))) := r2
            have HR3 : Hid ((RS.on (L + 5)).num T 8 = (b3, RS.on (L + 13))) := r3
            have HR4 : Hid ((RS.on (L + 13)).text T p.s.size = (p.s.data.toList, RS.on (allTo ps (j + 1)).length)) := r4
            have HF3 : Hid (i64 (b3 : Int) = p.wide) := f3
            have hcn : ∀ W, Kept (fun _ => True) w W → W.cell? ⟨b, off + j * 4 + 1, none⟩ = some (.int .i64 p.n) := fun W hW => (hW.cell hbl trivial).trans c1
            have hcw : ∀ W, Kept (fun _ => True) w W → W.cell? ⟨b, off + j * 4 + 2, none⟩ = some (.int .i64 p.wide) := fun W hW => (hW.cell hbl trivial).trans c2
            have hcs : ∀ W, Kept (fun _ => True) w W → W.cell? ⟨b, off + j * 4 + 3, none⟩ = some (.string p.s) := fun W hW => (hW.cell hbl trivial).trans c3
            have hj1 : (j : Int) < (plen : Int) := by omega
            have hj2 : (j : Int) < 60 := by omega
            have hj0 : (0 : Int) ≤ (j : Int) := by omega
            clear r1 r2 r3 r4 e1 e2 e3 f3 hsplit c1 c2 c3 hget
            have hrd := hr.drewK
            have krd := kr.drew
            clear hr kr
            go_wp2
            go_region_held3 (fun w' => Kept (fun _ => True) w w') (assumption)
              (first
                | (go_at_call 15; refine Calls.mono (byte_any hrd) ?_; rw [HR1.out]; rintro e u1 ⟨rfl, hr1, m1⟩; have q1 : Kept (fun _ => True) w u1 := krd.then m1 (fun i hi _ => by omega))
                | (go_at_call 13; refine Calls.mono (four_any hr1) ?_; rw [HR2.out]; rintro e u2 ⟨rfl, hr2, m2⟩; have q2 : Kept (fun _ => True) w u2 := q1.then m2 (fun i hi _ => by omega))
                | (go_at_call 25; refine Calls.mono (eight_any hr2) ?_; rw [HR3.out, HF3.out]; rintro e u3 ⟨rfl, hr3, m3⟩; have q3 : Kept (fun _ => True) w u3 := q2.then m3 (fun i hi _ => by omega))
                | (go_at_call 16; refine Calls.mono (text_any p.s.size hr3) ?_; rw [HR4.out]; rintro e u4 ⟨rfl, hr4, m4⟩; have q4 : Kept (fun _ => True) w u4 := q3.then m4 (fun i hi _ => by omega)))
            go_wp2
            go_roundw
            case rel => exact ⟨j + 1, by omega, by omega, by go_num, hr4, q4⟩
            case measure => simp [intOf]; omega
          · have hJ : allTo ps j = T := by
              rw [← HTT.out]
              unfold allTo
              by_cases h60 : j = 60
              · rw [h60]
              · have hkl : ps.length ≤ j := by rw [HP.out.1]; omega
                rw [List.take_of_length_le hkl, List.take_of_length_le (by omega)]
            rw [hJ] at hr
            have hE : Hid ((RS.on T.length).end_ T = (0, 0)) := by show _ = _; simp [RS.end_, RS.on]
            have hLf : Hid ((RS.on T.length).left T = 0) := by show _ = _; simp [RS.left, leftOf, RS.on]
            have hw2 : (j < plen ∧ j = 60) ∨ (plen ≤ j) := by omega
            clear hJ hlt
            rcases hw2 with ⟨h1, h2⟩ | h1
            · exact absurd h1 (by omega)
            · have hk1 : ¬ ((j : Int) < (plen : Int)) := by omega
              go_wp2_with fail
              refine Calls.mono (end_any hr) ?_
              rw [hE.out]
              rintro e _ ⟨rfl, n5, rfl⟩
              have hr5 := hr.kept ((Kept.refl (fun _ => True) wr).drewN n5) trivial trivial
              go_wp2_with fail
              refine Calls.mono (left_is hr5) ?_
              rw [hLf.out]
              rintro e _ ⟨rfl, n6, rfl⟩
              go_wp2_with fail
              refine Calls.mono (known_any _) ?_
              rintro e u7 ⟨rfl, k7⟩
              go_wp2
              go_ret
              exact ⟨rfl, (kr.drewN _).trans k7⟩

end Go.Proofs.Ytlkkmggopoknaaa
