/-
  WalBack: whatever the texts: true, and nothing old is written.
-/
import Derived.Test.YtdajaplmigcooaaWStrs
namespace Go.Proofs.Ytdajaplmigcooaa
open Go.RowKit

/-- What the law has gathered: the bytes, and the records. -/
structure Gath (w wr : World) (ba : Option Addr) (bn bc : Nat) (ta : Option Addr) (tn tc : Nat) (ss : List (List UInt8)) (i : Nat) : Prop where
  bytes : wr.ownsRow w.heap.size 5 1 (.slice ba bn bc) bn (cells (wbytes (frs ss i)))
  bl : (wbytes (frs ss i)).length = bn
  texts : Txs wr w.heap.size (.slice ta tn tc) ((frs ss i).map Prod.snd)
  tl : tn = i
  kept : Kept (fun _ => True) w wr

set_option maxRecDepth 100000 in
set_option maxHeartbeats 2000000 in
theorem walBack_any {w : World} {a : Option Addr} {cap : Nat} {ss : List (List UInt8)} (h : IsStrs w a ss) :
    Calls Try.prog 7 #[.slice a ss.length cap] w fun e w' => e = .returned (.bool true) ∧ Kept (fun _ => True) w w' := by
  have HS : Hid (IsStrs w a ss) := h
  clear h
  go_enter Try.func7, Try.ntmps7
  go_wp2
  go_loopw [3, 4, 5] (fun tb tt ti wr => ∃ (i bn bc tn tc : Nat) (ba ta : Option Addr), i ≤ ss.length ∧ i ≤ 20 ∧ tb = .slice ba bn bc ∧ tt = .slice ta tn tc ∧ ti = .int .i64 i ∧ Gath w wr ba bn bc ta tn tc ss i) (fun _ _ ti _ => 20 - (intOf ti).toNat)
  case atStart => exact ⟨0, 0, 0, 0, 0, none, none, Nat.zero_le _, Nat.zero_le _, rfl, rfl, rfl, World.ownsRow_nil _ _ _ _, rfl, Txs.nil _ _, rfl, Kept.refl _ _⟩
  case round =>
    obtain ⟨i, bn, bc, tn, tc, ba, ta, hi, hi20, rfl, rfl, rfl, hG⟩ := hrel
    have HG : Hid (Gath w wr ba bn bc ta tn tc ss i) := hG
    have hbb := frs_bound ss i
    rw [hG.bl] at hbb
    clear hG
    by_cases hlt : i < ss.length ∧ i < 20
    · obtain ⟨hl1, hl2⟩ := hlt
      have hl1' : (i : Int) < (ss.length : Int) := by omega
      have hl2' : (i : Int) < 20 := by omega
      have hi0 : (0 : Int) ≤ (i : Int) := by omega
      obtain ⟨b, off, rfl, hb, hcell⟩ := HS.out.1 (by omega)
      have c1 : wr.cell? ⟨b, off + i, none⟩ = some (.string ⟨(ss[i]).toArray⟩) := (kept_cell HG.out.kept hb trivial).trans (hcell i hl1)
      have HF := frs_succ ss i hl1
      have HC : Hid (w.cell? ⟨b, off + i, none⟩ = some (.string ⟨(ss[i]).toArray⟩)) := hcell i hl1
      have hb' : Hid (b < w.heap.size) := hb
      clear hcell hb
      have hr100 : ((ss[i]).take 100).length ≤ 100 := by rw [List.length_take]; omega
      have cf := fun W : World => few_any (w := W) (ss[i])
      generalize hr : (ss[i]).take 100 = r at *
      generalize hx : ss[i] = x at *
      clear hr hx
      have HF' : Hid (frs ss (i + 1) = frs ss i ++ [(false, r)]) := HF
      clear HF
      go_wp2_with fail
      refine Calls.mono (cf wr) ?_
      rintro e wr ⟨rfl, rfl⟩
      go_wp2_with (at_builtin; refine wpList_append_text rfl (.tmp 19) (.tmp 25) rfl w.heap.size (.slice ta tn tc) ((frs ss i).map Prod.snd) (by have := HG.out.tl; rfl) (HG.out.texts.fresh _) (Nat.le_trans HG.out.kept.size (by simp)) wr.heap.size rfl r _ (heap_alloc_new wr _) (by simp [frs_length ss i hi]; omega) ?_; intro a2 c2 w2 ht2 hg2 hl2; have k2 : Kept (fun _ => True) w w2 := HG.out.texts.grown HG.out.kept hg2; have cc2 : w2.cell? ⟨b, off + i, none⟩ = some (.string ⟨x.toArray⟩) := (kept_cell k2 hb'.out trivial).trans HC.out)
      have hB2 : w2.ownsRow w.heap.size 5 1 (.slice ba bn bc) bn (cells (wbytes (frs ss i))) := own_kept HG.out.bytes (((Kept.refl (fun x => (Value.slice ta tn tc).ownBlock ≠ some x) wr).alloc (.cells #[.string ⟨r.toArray⟩] 9)).grown hg2 (fun k _ e hp => hp e)) (fun k hk => rows_apart HG.out.bytes HG.out.texts k hk)
      refine Calls.mono (cf w2) ?_
      rintro e w2 ⟨rfl, rfl⟩
      go_wp2_with fail
      refine Calls.mono (frame_at false r (by omega)) ?_
      rintro e w3 ⟨a3, c3, rfl, b3⟩
      have HB3 : Hid (Body w2 w3 a3 (9 + r.length) c3 (frameOf false r)) := b3
      have K2 : Hid (Kept (fun _ => True) w w2) := k2
      have HO3 : Hid (w3.ownsRow w.heap.size 5 1 (.slice ba bn bc) bn (cells (wbytes (frs ss i)))) := own_kept hB2 b3.kept (fun _ _ => trivial)
      have HT3 : Hid (Txs w3 w.heap.size (.slice a2 (((frs ss i).map Prod.snd).length + 1) c2) ((frs ss i).map Prod.snd ++ [r])) := ht2.kept b3.kept (fun _ _ => trivial)
      clear b3 k2 hB2 ht2 hg2 hl2
      go_wp2_with (at_builtin; refine wpList_append_has rfl (.tmp 27) (.tmp 33) rfl w.heap.size (.slice ba bn bc) bn _ rfl HO3.out (Nat.le_trans K2.out.size HB3.out.kept.size) a3 (9 + r.length) c3 rfl _ HB3.out.len HB3.out.nil HB3.out.has (by omega) ?_; intro a4 c4 w4 ho4 hg4 hl4)
      go_roundw
      case rel =>
        have k4 : Kept (fun _ => True) w w4 := (K2.out.trans HB3.out.kept).grown hg4 (fun k hk e => by have := (HO3.out.lt k e).1; omega)
        refine ⟨i + 1, _, _, _, _, _, _, by omega, by omega, rfl, rfl, by go_num, ?_, ?_, ?_, ?_, k4⟩
        · rw [HF'.out, wbytes_snoc, cells_append]
          exact ho4
        · rw [HF'.out, wbytes_snoc, List.length_append, HG.out.bl, frameOf_length]
        · rw [HF'.out, List.map_append]
          have hk4 : Kept (fun x => (Value.slice ba bn bc).ownBlock ≠ some x) w3 w4 := (Kept.refl _ _).grown hg4 (fun k _ e hp => hp e)
          have := HT3.out.kept hk4 (fun k hk e => rows_apart HO3.out HT3.out k e hk)
          simpa using this
        · rw [frs_length ss i hi]
      case measure => simp [intOf]; omega
    · have hex : ¬ (i : Int) < (ss.length : Int) ∨ ((i : Int) < (ss.length : Int) ∧ ¬ (i : Int) < 20) := by omega
      clear hlt
      rcases hex with hex | ⟨hex, hex2⟩
      all_goals
        go_wp2_with (at_builtin; refine wpList_append_has rfl (.tmp 38) (.tmp 39) rfl w.heap.size (.slice ba bn bc) bn _ rfl (HG.out.bytes.alloc _) (Nat.le_trans HG.out.kept.size (by simp)) (some ⟨wr.heap.size, 0, none⟩) 3 3 rfl [0, 0, 0] rfl (by simp) (has_row (heap_alloc_new wr _)) (by omega) ?_; intro a4 c4 w4 ho4 hg4 hl4)
        have k4 : Kept (fun _ => True) w w4 := (HG.out.kept.alloc _).grown hg4 (fun k hk e => by have := (HG.out.bytes.lt k e).1; omega)
        have hk4 : Kept (fun x => (Value.slice ba bn bc).ownBlock ≠ some x) wr w4 := ((Kept.refl _ _).alloc _).grown hg4 (fun k _ e hp => hp e)
        have ht4 := HG.out.texts.kept hk4 (fun k hk e => rows_apart HG.out.bytes HG.out.texts k e hk)
        rw [← cells_append] at ho4
        have vw : View w4 a4 (bn + 3) c4 (wbytes (frs ss i) ++ [0, 0, 0]) := View.own ho4 (by rw [List.length_append, HG.out.bl]; rfl)
        have hsc : scanOf (wbytes (frs ss i) ++ [0, 0, 0]) = ((frs ss i).map Prod.snd, bn) := by
          rw [scan_written _ _ (frs_fits ss i) (headOf_short (by simp)), frs_state, HG.out.bl]
        clear ho4 hg4 hl4 hk4
        refine Calls.mono (scan_any vw (by omega)) ?_
        rintro e w5 ⟨v5, rfl, h5, k5⟩
        rw [hsc] at h5 ⊢
        obtain ⟨a5, c5, rfl, -, -⟩ := h5.shape
        have hml : ((frs ss i).map Prod.snd).length = i := by rw [List.length_map, frs_length ss i hi]
        rw [hml] at h5 ⊢
        clear hml
        have H5 : Hid (Txs w5 _ _ ((frs ss i).map Prod.snd)) := h5
        have H4 : Hid (Txs w5 _ _ ((frs ss i).map Prod.snd)) := ht4.kept k5 (fun _ _ => trivial)
        have K5 : Hid (Kept (fun _ => True) w w5) := k4.trans k5
        clear vw h5 ht4 k5 k4
        go_wp2_with fail
        refine Calls.mono (texts_any H5.out H4.out (by omega)) ?_
        rintro e w6 ⟨rfl, n6, rfl⟩
        rw [decide_eq_true rfl]
        go_wp2_with fail
        refine Calls.mono known_any ?_
        rintro e w7 ⟨rfl, k7⟩
        go_wp2
        go_ret
        exact ⟨rfl, (K5.out.drewN _).trans k7⟩

end Go.Proofs.Ytdajaplmigcooaa
