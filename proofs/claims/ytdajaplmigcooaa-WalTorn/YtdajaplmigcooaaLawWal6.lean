/-
  WalTorn: whatever the texts, wherever it is cut: true, and nothing old is written.
-/
import Derived.Test.YtdajaplmigcooaaWInt
import Derived.Test.YtdajaplmigcooaaSWithin
namespace Go.Proofs.Ytdajaplmigcooaa
open Go.RowKit

/-- What the law has gathered: the bytes, and where the frames end. -/
structure Torn (w wr : World) (ba : Option Addr) (bn bc : Nat) (ta : Option Addr) (tn tc : Nat) (ss : List (List UInt8)) (i : Nat) : Prop where
  bytes : wr.ownsRow w.heap.size 5 1 (.slice ba bn bc) bn (cells (wbytes (frs ss i)))
  bl : (wbytes (frs ss i)).length = bn
  ints : Its wr w.heap.size (.slice ta tn tc) (ends ss i)
  tl : tn = i
  kept : Kept (fun _ => True) w wr

set_option maxRecDepth 100000 in
set_option maxHeartbeats 4000000 in
theorem walTorn_any {w : World} {a : Option Addr} {cap : Nat} {ss : List (List UInt8)} (h : IsStrs w a ss) (cut : Int) :
    Calls Try.prog 8 #[.slice a ss.length cap, .int .i64 cut] w fun e w' => e = .returned (.bool true) ∧ Kept (fun _ => True) w w' := by
  have HS : Hid (IsStrs w a ss) := h
  clear h
  go_enter Try.func8, Try.ntmps8
  go_wp2
  go_loopw [5, 6, 7] (fun tb tt ti wr => ∃ (i bn bc tn tc : Nat) (ba ta : Option Addr), i ≤ ss.length ∧ i ≤ 12 ∧ tb = .slice ba bn bc ∧ tt = .slice ta tn tc ∧ ti = .int .i64 i ∧ Torn w wr ba bn bc ta tn tc ss i) (fun _ _ ti _ => 12 - (intOf ti).toNat)
  case atStart => exact ⟨0, 0, 0, 0, 0, none, none, Nat.zero_le _, Nat.zero_le _, rfl, rfl, rfl, World.ownsRow_nil _ _ _ _, rfl, Its.nil _ _, rfl, Kept.refl _ _⟩
  case round =>
    obtain ⟨i, bn, bc, tn, tc, ba, ta, hi, hi20, rfl, rfl, rfl, hG⟩ := hrel
    have HG : Hid (Torn w wr ba bn bc ta tn tc ss i) := hG
    have hbb := frs_bound ss i
    rw [hG.bl] at hbb
    clear hG
    by_cases hlt : i < ss.length ∧ i < 12
    · obtain ⟨hl1, hl2⟩ := hlt
      have hl1' : (i : Int) < (ss.length : Int) := by omega
      have hl2' : (i : Int) < 12 := by omega
      have hi0 : (0 : Int) ≤ (i : Int) := by omega
      obtain ⟨b, off, rfl, hb, hcell⟩ := HS.out.1 (by omega)
      have c1 : wr.cell? ⟨b, off + i, none⟩ = some (.string ⟨(ss[i]).toArray⟩) := (kept_cell HG.out.kept hb trivial).trans (hcell i hl1)
      have HF := frs_succ ss i hl1
      clear hcell hb
      have hr100 : ((ss[i]).take 100).length ≤ 100 := by rw [List.length_take]; omega
      have cf := fun W : World => few_any (w := W) (ss[i])
      generalize hr : (ss[i]).take 100 = r at *
      generalize hx : ss[i] = x at *
      clear hr hx
      have HF' : Hid (frs ss (i + 1) = frs ss i ++ [(false, r)]) := HF
      clear HF
      go_wp2_with fail
      refine Calls.mono (cf wr) ?_
      rintro e wr ⟨rfl, rfl⟩
      go_wp2_with fail
      refine Calls.mono (frame_at false r (by omega)) ?_
      rintro e w3 ⟨a3, c3, rfl, b3⟩
      have HB3 : Hid (Body wr w3 a3 (9 + r.length) c3 (frameOf false r)) := b3
      have HO3 : Hid (w3.ownsRow w.heap.size 5 1 (.slice ba bn bc) bn (cells (wbytes (frs ss i)))) := own_kept HG.out.bytes b3.kept (fun _ _ => trivial)
      have HI3 : Hid (Its w3 w.heap.size (.slice ta tn tc) (ends ss i)) := HG.out.ints.kept b3.kept (fun _ _ => trivial)
      have K3 : Hid (Kept (fun _ => True) w w3) := HG.out.kept.trans b3.kept
      clear b3
      have hel := ends_length ss i
      go_wp2_with (first
        | (at_builtin; refine wpList_append_has rfl (.tmp 24) (.tmp 30) rfl w.heap.size (.slice ba bn bc) bn _ rfl HO3.out K3.out.size a3 (9 + r.length) c3 rfl _ HB3.out.len HB3.out.nil HB3.out.has (by omega) ?_; intro a4 c4 w4 ho4 hg4 hl4; have k4 : Kept (fun _ => True) w w4 := K3.out.grown hg4 (fun k hk e => by have := (HO3.out.lt k e).1; omega); have HI4 : Hid (Its w4 w.heap.size (.slice ta tn tc) (ends ss i)) := HI3.out.kept ((Kept.refl (fun x => (Value.slice ba bn bc).ownBlock ≠ some x) w3).grown hg4 (fun k _ e hp => hp e)) (fun k hk e => ints_apart HO3.out HI3.out k e hk))
        | (at_builtin; refine wpList_append_int rfl (.tmp 32) (.tmp 35) rfl w.heap.size (.slice ta tn tc) (ends ss i) rfl (HI4.out.fresh _) (Nat.le_trans k4.size (by simp)) w4.heap.size rfl (bn + (9 + r.length)) _ (heap_alloc_new w4 _) (by omega) ?_; intro a5 c5 w5 ht5 hg5))
      go_roundw
      case rel =>
        have k5 : Kept (fun _ => True) w w5 := HI4.out.grown k4 hg5
        have hkk : Kept (fun x => (Value.slice ta tn tc).ownBlock ≠ some x) w4 w5 := ((Kept.refl _ _).alloc _).grown hg5 (fun k _ e hp => hp e)
        have hap : ∀ k, (Value.slice a4 (bn + (9 + r.length)) c4).ownBlock = some k → (Value.slice ta tn tc).ownBlock ≠ some k := fun k hk => ints_apart ho4 HI4.out k hk
        have hlen : (wbytes (frs ss (i + 1))).length = bn + (9 + r.length) := by rw [HF'.out, wbytes_snoc, List.length_append, HG.out.bl, frameOf_length]
        refine ⟨i + 1, _, _, _, _, _, _, by omega, by omega, rfl, rfl, by go_num, ?_, hlen, ?_, rfl, k5⟩
        · rw [HF'.out, wbytes_snoc, cells_append]
          exact own_kept ho4 hkk hap
        · rw [ends_succ, hlen]
          rw [hel] at ht5
          exact ht5
      case measure => simp [intOf]; omega
    · have hex : ¬ (i : Int) < (ss.length : Int) ∨ ((i : Int) < (ss.length : Int) ∧ ¬ (i : Int) < 12) := by omega
      clear hlt
      rcases hex with hex | ⟨hex, hex2⟩
      all_goals
        go_wp2_with fail
        refine Calls.mono (within_any cut bn (by omega)) ?_
        rintro e wr ⟨⟨k, hk, rfl⟩, rfl⟩
        obtain ⟨s1, v1⟩ := (View.own HG.out.bytes HG.out.bl).front k hk
        obtain ⟨W, hWd⟩ : ∃ W, W = wholeOf (frs ss i) k := ⟨_, rfl⟩
        have hWi : W ≤ i := by have := wholeOf_le (frs ss i) k; rw [frs_length ss i hi] at this; omega
        have HWD : Hid (W = wholeOf (frs ss i) k) := hWd
        have hsc : scanOf ((wbytes (frs ss i)).take k) = ((frs ss W).map Prod.snd, (wbytes (frs ss W)).length) := by
          rw [scan_torn _ _ (frs_fits ss i), ← hWd, frs_take ss i W hWi, frs_state]
        clear hWd
        go_wp2_with fail
        refine Calls.mono (scan_any v1 (by omega)) ?_
        rintro e w5 ⟨v5, rfl, h5, k5⟩
        rw [hsc] at h5 ⊢
        obtain ⟨a5, c5, rfl, -, -⟩ := h5.shape
        have hml : ((frs ss W).map Prod.snd).length = W := by rw [List.length_map, frs_length ss W (by omega)]
        rw [hml] at h5 ⊢
        clear hml v1 s1 hsc
        have H5 : Hid (Txs w5 _ (.slice a5 W c5) ((frs ss W).map Prod.snd)) := h5
        have HI : Hid (Its w5 w.heap.size (.slice ta tn tc) (ends ss i)) := HG.out.ints.kept k5 (fun _ _ => trivial)
        have K5 : Hid (Kept (fun _ => True) w w5) := HG.out.kept.trans k5
        have htn := HG.out.tl
        subst htn
        have HQ : Hid ((wbytes (frs ss W)).length = (wbytes (frs ss W)).length) := rfl
        generalize hq : (wbytes (frs ss W)).length = q at HQ ⊢
        have HQ' : Hid ((wbytes (frs ss W)).length = q) := hq
        clear h5 k5 hq HQ
        go_wp2_with fail
        go_loopw [11, 12] (fun t11 t12 wx => ∃ j : Nat, j ≤ tn ∧ t11 = .int .i64 ((min j W : Nat) : Int) ∧ t12 = .int .i64 j ∧ wx = w5) (fun _ t12 _ => tn - (intOf t12).toNat)
        case atStart => exact ⟨0, Nat.zero_le _, by simp, rfl, rfl⟩
        case round =>
          obtain ⟨j, hj, rfl, rfl, hwx⟩ := hrel
          subst hwx
          by_cases hjt : j < tn
          · have hjt' : (j : Int) < (tn : Int) := by omega
            have hj0 : (0 : Int) ≤ (j : Int) := by omega
            obtain ⟨g, rfl, hcell⟩ := HI.out.at j (by rw [ends_length]; exact hjt)
            rw [ends_get] at hcell
            have hwhole := ends_whole ss tn k j hi hjt
            rw [← HWD.out] at hwhole
            generalize (wbytes (frs ss (j + 1))).length = E at *
            by_cases hle : E ≤ k
            · have hle' : (E : Int) ≤ (k : Int) := by omega
              have HM : Hid (min (j + 1) W = j + 1) := by have := hwhole.1 hle; show _ = _; omega
              generalize min j W = z at *
              clear hwhole hle
              go_wp2_with fail
              go_roundw
              case rel => exact ⟨j + 1, by omega, by rw [HM.out]; go_num, by go_num, trivial⟩
              case measure => simp [intOf]; omega
            · have hle' : ¬ (E : Int) ≤ (k : Int) := by omega
              have HM : Hid (min (j + 1) W = min j W) := by have := mt hwhole.2 hle; show _ = _; omega
              generalize hz : min j W = z at *
              clear hwhole hle
              go_wp2_with fail
              go_roundw
              case rel => exact ⟨j + 1, by omega, by rw [HM.out], by go_num, trivial⟩
              case measure => simp [intOf]; omega
          · have hjt' : ¬ (j : Int) < (tn : Int) := by omega
            rw [show min j W = W by omega]
            by_cases hW0 : W = 0
            · have hq0 : q = 0 := by rw [← HQ'.out, hW0]; rfl
              subst hq0 hW0
              have KR : Hid (Kept (fun _ => True) w wr) := K5.out
              go_wp2_with fail
              go_loopw [13] (fun t wx => t = .int .i64 0 ∧ Kept (fun _ => True) w wx) (fun _ _ => 0)
              case atStart => exact ⟨rfl, KR.out⟩
              case round =>
                obtain ⟨rfl, hkx⟩ := hrel
                have HKX : Hid (Kept (fun _ => True) w wr) := hkx
                clear hkx
                go_wp2_with fail
                refine Calls.mono known_any ?_
                rintro e w7 ⟨rfl, k7⟩
                go_wp2
                go_ret
                exact ⟨rfl, HKX.out.trans k7⟩
            · obtain ⟨V, rfl⟩ : ∃ V, W = V + 1 := ⟨W - 1, by omega⟩
              obtain ⟨g, rfl, hcell⟩ := HI.out.at V (by rw [ends_length]; omega)
              rw [ends_get, HQ'.out] at hcell
              have hV0 : (0 : Int) ≤ (V : Int) := by omega
              have hVt : (V : Int) < (tn : Int) := by omega
              have hVp : (0 : Int) < (V : Int) + 1 := by omega
              have hVe : ((V : Int) + 1 == 0) = false := by simp; omega
              have HT : Hid (Txs wr 0 (.slice a5 (V + 1) c5) ((frs ss (V + 1)).map Prod.snd)) := H5.out.lower (Nat.zero_le _)
              have KR : Hid (Kept (fun _ => True) w wr) := K5.out
              go_wp2_with fail
              go_loopw [13] (fun t wx => ∃ j : Nat, j ≤ V + 1 ∧ t = .int .i64 j ∧ Kept (fun _ => True) w wx ∧ Txs wx 0 (.slice a5 (V + 1) c5) ((frs ss (V + 1)).map Prod.snd)) (fun t _ => V + 1 - (intOf t).toNat)
              case atStart => exact ⟨0, Nat.zero_le _, rfl, KR.out, HT.out⟩
              case round =>
                obtain ⟨x, hx, rfl, hkx, htx⟩ := hrel
                have HKX : Hid (Kept (fun _ => True) w wr) := hkx
                have HTX : Hid (Txs wr 0 (.slice a5 (V + 1) c5) ((frs ss (V + 1)).map Prod.snd)) := htx
                clear hkx htx
                by_cases hxV : x < V + 1
                · have hxV' : (x : Int) < (V : Int) + 1 := by omega
                  have hx0 : (0 : Int) ≤ (x : Int) := by omega
                  have hxs : (x : Int) < (ss.length : Int) := by omega
                  obtain ⟨_, _, e1, _, g1⟩ := HTX.out.shape
                  have hml : ((frs ss (V + 1)).map Prod.snd).length = V + 1 := by rw [List.length_map, frs_length ss (V + 1) (by omega)]
                  obtain ⟨G1, g1⟩ := g1 (by omega)
                  injection e1 with e1 e2 e3
                  clear e2 e3
                  subst e1 g1
                  have q1 := HTX.out.cell x (by omega)
                  have q1e : ((frs ss (V + 1)).map Prod.snd)[x]'(by omega) = (ss[x]'(by omega)).take 100 := by simp [frs]
                  rw [q1e] at q1
                  obtain ⟨b, off, rfl, hb, hc⟩ := HS.out.1 (by omega)
                  have q2 : wr.cell? ⟨b, off + x, none⟩ = some (.string ⟨(ss[x]'(by omega)).toArray⟩) := (kept_cell HKX.out hb trivial).trans (hc x (by omega))
                  have cf := fun W : World => few_any (w := W) (ss[x]'(by omega))
                  clear hc hb q1e hml
                  generalize (ss[x]'(by omega)).take 100 = r at *
                  generalize ss[x]'(by omega) = y at *
                  go_wp2_with fail
                  go_quiet ((go_at_call 29; exact Calls.quiet_of_same (cf _)))
                  go_wp2
                  go_roundw
                  case rel => exact ⟨x + 1, by omega, by go_num, HKX.out.drewN _, HTX.out.drewN _⟩
                  case measure => simp [intOf]; omega
                · have hxV' : ¬ (x : Int) < (V : Int) + 1 := by omega
                  go_wp2_with fail
                  refine Calls.mono known_any ?_
                  rintro e w7 ⟨rfl, k7⟩
                  go_wp2
                  go_ret
                  exact ⟨rfl, HKX.out.trans k7⟩

end Go.Proofs.Ytdajaplmigcooaa
