/-
  DedupMost: a table remembers the clients that were Done last.
-/
import Derived.Test.YtihfcmcpapgokaaEView
import Derived.Test.YtihfcmcpapgokaaEAsks
import Derived.Deep.CutRange
namespace Go.Proofs.Ytihfcmcpapgokaa
open Go.RowKit

/-- All but c. -/
def others (c : List UInt8) (ss : List (List UInt8)) : List (List UInt8) := ss.filter (fun s => decide (s ≠ c))
theorem others_snoc (c : List UInt8) (ss : List (List UInt8)) (s : List UInt8) : others c (ss ++ [s]) = if s = c then others c ss else others c ss ++ [s] := by
  unfold others
  rw [List.filter_append]
  by_cases h : s = c
  · rw [if_pos h]; simp [h]
  · rw [if_neg h]; simp [h]
theorem erase_texts {xs : List La} (h : Once xs) (c : List UInt8) : (xs.eraseP (isC c)).map La.c = others c (xs.map La.c) := by
  induction xs with
  | nil => rfl
  | cons x xs ih =>
    have h' : x.c ∉ xs.map La.c ∧ Once xs := by
      unfold Once at h
      rw [List.map_cons, List.nodup_cons] at h
      exact h
    by_cases hx : x.c = c
    · rw [List.eraseP_cons_of_pos (by simp [isC, hx])]
      unfold others
      rw [List.map_cons, List.filter_cons_of_neg (by simp [hx])]
      symm
      rw [List.filter_eq_self]
      intro s hs
      have : s ≠ c := fun e => h'.1 (by rw [hx, ← e]; exact hs)
      simpa using this
    · rw [List.eraseP_cons_of_neg (by simp [isC, hx])]
      unfold others
      rw [List.map_cons, List.map_cons, List.filter_cons_of_pos (by simpa using hx), ih h'.2]
      rfl

/-- What is kept of the clients: the table, and their names. -/
structure Mo (w0 w : World) (B : Nat) (v : Value) (m : Nat) (xs : List La) (u : Value) (i : Nat) : Prop where
  tm : TM w0 w B v m xs
  vw : Vw w u (xs.map La.c)
  once : Once xs
  most : xs.length ≤ m
  low : ∀ x ∈ xs, x.i < i

theorem Mo.fresh {w0 w : World} {B : Nat} {v : Value} {m : Nat} {xs : List La} {u : Value} {i : Nat} (h : Mo w0 w B v m xs u i) (c : List UInt8) : (ask xs c i).1 = 1 := by
  unfold ask
  cases hf : xs.find? (isC c) with
  | none => rfl
  | some x => simp only; rw [if_pos (h.low x (List.mem_of_find?_eq_some hf))]
theorem Mo.done {w0 w : World} {B : Nat} {v : Value} {m : Nat} {xs : List La} {u : Value} {i : Nat} (h : Mo w0 w B v m xs u i) (c r : List UInt8) : done m xs ⟨c, i, r⟩ = (0, fewer m (moved xs ⟨c, i, r⟩)) := by
  unfold Go.Proofs.Ytihfcmcpapgokaa.done
  rw [if_pos (h.fresh c)]
theorem fewer_names {m : Nat} {xs : List La} (c : List UInt8) (i : Nat) (r : List UInt8) (ho : Once xs) : (fewer m (moved xs ⟨c, i, r⟩)).map La.c = if m < (others c (xs.map La.c) ++ [c]).length then (others c (xs.map La.c) ++ [c]).drop 1 else others c (xs.map La.c) ++ [c] := by
  have e : (moved xs ⟨c, i, r⟩).map La.c = others c (xs.map La.c) ++ [c] := by
    unfold moved
    rw [List.map_append, erase_texts ho]
    rfl
  have hl : (moved xs ⟨c, i, r⟩).length = (others c (xs.map La.c) ++ [c]).length := by rw [← e, List.length_map]
  unfold fewer
  by_cases h : m < (others c (xs.map La.c) ++ [c]).length
  · rw [if_pos (by omega), if_pos h, ← e, List.map_drop]
  · rw [if_neg (by omega), if_neg h, e]
theorem Mo.next {w0 w w' : World} {B : Nat} {v v' : Value} {m : Nat} {xs : List La} {u u' : Value} {i : Nat} {c r : List UInt8} (h : Mo w0 w B v m xs u i) (hm : 1 ≤ m) (t : TM w0 w' B v' m (fewer m (moved xs ⟨c, i, r⟩))) (hv : Vw w' u' ((fewer m (moved xs ⟨c, i, r⟩)).map La.c)) : Mo w0 w' B v' m (fewer m (moved xs ⟨c, i, r⟩)) u' (i + 1) := by
  have e := h.done c r
  have ho := h.once.done (m := m) ⟨c, i, r⟩
  have hl := done_length (m := m) (xs := xs) ⟨c, i, r⟩ (by have := h.most; omega) (by omega)
  rw [e] at ho hl
  simp only at ho hl
  refine ⟨t, hv, ho, by omega, fun x hx => ?_⟩
  have hx' : x ∈ (Go.Proofs.Ytihfcmcpapgokaa.done m xs ⟨c, i, r⟩).2 := by rw [e]; exact hx
  rcases mem_done hx' with q | q
  · have := h.low x q; omega
  · rw [q]; show (i : Int) < ((i + 1 : Nat) : Int); omega

/-- An append onto a row of texts that was made behind w0. -/
theorem TM.grown {w0 w w' : World} {B b : Nat} {v u : Value} {m : Int} {xs : List La} {ss : List (List UInt8)} (h : TM w0 w B v m xs) (hb : w0.heap.size ≤ b) (hv : Txs w b u ss) (g : w.grownBy w' u.ownBlock) : TM w0 w' B v m xs := by
  have k : Kept (fun y => u.ownBlock ≠ some y) w w' := (Kept.refl _ _).grown g (fun _ _ e q => q e)
  exact h.side k (fun e => (h.txs hv B e).1 rfl) (fun k hk e => (h.txs hv k e).2 hk) (fun i hi e => by have := (hv.lt i e).1; omega)

set_option maxRecDepth 100000 in
set_option maxHeartbeats 4000000 in
theorem dedupMost_any {w : World} (z : Int) (hz : Fit64 z) {a : Option Addr} {cs : List (List UInt8)} {cap : Nat} (h : IsStrs w a cs) :
    Calls Try.prog 6 #[.int .i64 z, .slice a cs.length cap] w fun e w' => e = .returned (.bool true) ∧ Kept (fun _ => True) w w' := by
  have HI : Hid (IsStrs w a cs) := h
  clear h
  obtain ⟨Z, q, hZ, hq, hq8⟩ : ∃ (Z : Int) (q : Nat), Hid (Z = if z < 0 then -(z + 1) else z) ∧ Z.tmod 8 = (q : Int) ∧ q < 8 := by
    unfold Fit64 at hz
    obtain ⟨m, hm⟩ : ∃ m : Nat, (if z < 0 then -(z + 1) else z) = (m : Int) := by
      refine ⟨(if z < 0 then -(z + 1) else z).toNat, ?_⟩
      split <;> omega
    exact ⟨_, m % 8, rfl, by rw [hm]; exact Int.ofNat_tmod m 8, Nat.mod_lt _ (by decide)⟩
  unfold Fit64 at hz
  go_enter Try.func6, Try.ntmps6
  go_upto_if 12 with fail
  go_cut [0] from 12 to 15 (fun s wx => s = .int .i64 Z ∧ w = wx)
  case first =>
    by_cases hneg : z < 0
    · have w1 : IntKind.i64.wrap (z + 1) = z + 1 := by simp [IntKind.wrap, IntKind.bits, IntKind.signed]; omega
      have w2 : IntKind.i64.wrap (-(z + 1)) = -(z + 1) := by simp [IntKind.wrap, IntKind.bits, IntKind.signed]; omega
      go_wp2_with fail
      go_meet
      exact ⟨by rw [hZ.out, if_pos hneg], rfl⟩
    · go_wp2_with fail
      go_meet
      exact ⟨by rw [hZ.out, if_neg (by omega)], rfl⟩
  case rest =>
  obtain ⟨rfl, rfl⟩ := hcut
  clear hZ hz
  have wq : IntKind.i64.wrap (q : Int) = (q : Int) := by simp [IntKind.wrap, IntKind.bits, IntKind.signed]; omega
  have wq1 : IntKind.i64.wrap (1 + (q : Int)) = ((q + 1 : Nat) : Int) := by simp [IntKind.wrap, IntKind.bits, IntKind.signed]; omega
  have co := new_ok (w := w) ((q + 1 : Nat) : Int) (by omega) (by omega)
  obtain ⟨m, hm⟩ : ∃ m, m = q + 1 := ⟨_, rfl⟩
  rw [← hm] at wq1 co
  have hm1 : 1 ≤ m := by omega
  have hm8 : m ≤ 8 := by omega
  clear hm
  go_wp2_with fail
  refine Calls.mono co ?_
  rintro e w1 ⟨rfl, h1, k1⟩
  have H1 : Hid (Mo w w1 w.heap.size (.slice none 0 0) m [] (.slice none 0 0) 0) := ⟨⟨h1, k1, Nat.le_refl _, fun k hk => by simp [Value.ownBlock] at hk⟩, Vw.nil _, List.nodup_nil, Nat.zero_le _, fun x hx => by simp at hx⟩
  clear h1 k1 co hq wq wq1 hq8
  generalize w.heap.size = B at *
  go_wp2_with fail
  go_loopw [7, 8] (fun t u wr => ∃ (i : Nat) (v : Value) (xs : List La), i ≤ cs.length ∧ i ≤ 40 ∧ u = .int .i64 i ∧ Mo w wr B v m xs t i) (fun _ u _ => 40 - (intOf u).toNat)
  case atStart => exact ⟨0, _, [], Nat.zero_le _, Nat.zero_le _, rfl, H1.out⟩
  case round =>
    obtain ⟨i, v, xs, hi, hi4, rfl, hM⟩ := hrel
    have HM : Hid (Mo w wr B v m xs u7 i) := hM
    have hlx := hM.most
    clear hM H1
    by_cases hc : i < cs.length ∧ i < 40
    · obtain ⟨hin, hi40⟩ := hc
      obtain ⟨b, off, rfl, hcell⟩ := str_at HI.out hin
      have c0 := hcell wr HM.out.tm.kept
      have HC : Hid (∀ w', Kept (fun _ => True) w w' → w'.cell? ⟨b, off + i, none⟩ = some (.string ⟨(cs[i]).toArray⟩)) := hcell
      have g1 : (i : Int) < (cs.length : Int) := by omega
      have g2 : (i : Int) < 40 := by omega
      have g0 : (0 : Int) ≤ (i : Int) := by omega
      clear hcell
      generalize cs[i] = c at *
      have cd := done_to HM.out.tm.tb (by omega) (by omega) c i [114] (HM.out.done c [114])
      have HF : Hid (_ = _) := fewer_names (m := m) c i [114] HM.out.once
      have HN : Hid (∀ w' v' u', TM w w' B v' m (fewer m (moved xs ⟨c, i, [114]⟩)) → Vw w' u' ((fewer m (moved xs ⟨c, i, [114]⟩)).map La.c) → Mo w w' B v' m (fewer m (moved xs ⟨c, i, [114]⟩)) u' (i + 1)) := fun w' v' u' => HM.out.next hm1
      generalize fewer m (moved xs ⟨c, i, [114]⟩) = ys at cd HF HN
      have hlss : (xs.map La.c).length ≤ 8 := by rw [List.length_map]; omega
      go_wp2_with fail
      refine Calls.mono cd ?_
      rintro e w2 ⟨rfl, v2, s2⟩
      have T2 : Hid (TM w w2 B v2 m ys) := HM.out.tm.step s2
      have V2 : Hid (Vw w2 u7 (xs.map La.c)) := HM.out.vw.step HM.out.tm.tb s2
      clear cd s2 c0 HM
      obtain ⟨ss, hss⟩ : ∃ ss, ss = xs.map La.c := ⟨_, rfl⟩
      rw [← hss] at V2 HF hlss
      clear hss hlx
      obtain ⟨ao, capo, hu7, hview⟩ := V2.out
      subst hu7
      have HV : Hid (0 < ss.length → ∃ b off cur fr, ao = some ⟨b, off, none⟩ ∧ w2.heap[b]? = some (.cells cur 9 fr) ∧ ∀ i (h : i < ss.length), w2.cell? ⟨b, off + i, none⟩ = some (.string ⟨(ss[i]).toArray⟩)) := hview
      clear hview V2
      go_wp2_with fail
      go_loopw [9, 10] (fun t u wx => ∃ (k : Nat), k ≤ ss.length ∧ u = .int .i64 k ∧ Txs wx w2.heap.size t (others c (ss.take k)) ∧ Kept (fun _ => True) w2 wx) (fun _ u _ => ss.length - (intOf u).toNat)
      case atStart => exact ⟨0, Nat.zero_le _, rfl, Txs.nil _ _, Kept.refl _ _⟩
      case round =>
        obtain ⟨k, hk, rfl, hT, kk⟩ := hrel
        obtain ⟨ao9, cap9, hu9, hc9, hg9⟩ := hT.shape
        subst hu9
        have HT : Hid (Txs wr (w2.heap.size) (.slice ao9 (others c (ss.take k)).length cap9) (others c (ss.take k))) := hT
        have KK : Hid (Kept (fun _ => True) w2 wr) := kk
        have hl9 : (others c (ss.take k)).length ≤ 8 := by
          have h1 : (others c (ss.take k)).length ≤ (ss.take k).length := List.length_filter_le _ _
          rw [List.length_take] at h1
          omega
        clear hT kk hg9
        by_cases hlt : k < ss.length
        · obtain ⟨b2, off2, cur2, fr2, rfl, -, hcell2⟩ := HV.out (by omega)
          have y0 := cell_kept KK.out (hcell2 k hlt) trivial
          have y1 := HC.out wr (T2.out.kept.trans KK.out)
          have HS : Hid (others c (ss.take (k + 1)) = if ss[k] = c then others c (ss.take k) else others c (ss.take k) ++ [ss[k]]) := by
            show _ = _
            rw [List.take_succ_eq_append_getElem hlt, others_snoc]
          have i1 : (k : Int) < (ss.length : Int) := by omega
          have i0 : (0 : Int) ≤ (k : Int) := by omega
          clear hcell2
          generalize ss[k] = s at *
          generalize others c (ss.take k) = os at *
          by_cases he : s = c
          · subst he
            have HS' : Hid (others s (ss.take (k + 1)) = os) := HS.out.trans (if_pos rfl)
            clear HS
            go_wp2_with fail
            go_quiet (fail)
            go_wp2_with fail
            go_roundw
            case rel => exact ⟨k + 1, by omega, by go_num, by rw [HS'.out]; exact HT.out.kept ((Kept.refl (fun _ => True) _).drewN _) (fun _ _ => trivial), KK.out.drewN _⟩
            case measure => simp [intOf]; omega
          · have hne : (s == c) = false := beq_eq_false_iff_ne.2 he
            have HS' : Hid (others c (ss.take (k + 1)) = os ++ [s]) := HS.out.trans (if_neg he)
            clear HS he
            go_wp2_with fail
            go_quiet (fail)
            go_wp2_with (at_builtin; refine wpList_append_text rfl _ _ rfl _ _ os rfl (HT.out.kept (((Kept.refl (fun _ => True) _).drewN _).alloc _) (fun _ _ => trivial)) (by have := KK.out.size; simp; omega) _ rfl s (0, 0) (heap_alloc_new _ _) (by omega) ?_; intro ao' cap' w3 hown hgrow hat)
            go_roundw
            case rel =>
              refine ⟨k + 1, by omega, by go_num, by rw [HS'.out]; exact hown, (((KK.out.drewN _).alloc _).grown hgrow (fun b hb e _ => ?_))⟩
              have := (HT.out.lt b e).1
              omega
            case measure => simp [intOf]; omega
        · have i1 : ¬ ((k : Int) < (ss.length : Int)) := by omega
          have he : ss.take k = ss := List.take_of_length_le (by omega)
          rw [he] at HT hl9 ⊢
          clear he
          have y1 := HC.out wr (T2.out.kept.trans KK.out)
          have HF2 : Hid (ys.map La.c = if m < (others c ss ++ [c]).length then (others c ss ++ [c]).drop 1 else others c ss ++ [c]) := HF.out
          clear HF
          generalize others c ss = os at *
          have T3 : Hid (TM w wr B v2 m ys) := T2.out.ahead KK.out
          have hbase : Hid (w.heap.size ≤ w2.heap.size) := T2.out.kept.size
          clear T2
          by_cases hbig : m < os.length + 1
          · have b1 : (m : Int) < ((os.length + 1 : Nat) : Int) := by omega
            have b2 : (m : Int) < (os.length : Int) + 1 := by omega
            have HF3 : Hid (ys.map La.c = (os ++ [c]).drop 1) := HF2.out.trans (if_pos (by simpa using hbig))
            clear HF2
            go_wp2_with (at_builtin; refine wpList_append_text rfl _ _ rfl _ _ os rfl (HT.out.kept ((Kept.refl (fun _ => True) _).alloc _) (fun _ _ => trivial)) (by have := KK.out.size; simp; omega) _ rfl c (0, 0) (heap_alloc_new _ _) (by omega) ?_; intro ao' cap' w3 hown hgrow hat; have T4 : Hid (TM w w3 B v2 m ys) := (T3.out.ahead ((Kept.refl _ _).alloc _)).grown hbase.out (HT.out.kept ((Kept.refl (fun _ => True) _).alloc _) (fun _ _ => trivial)) hgrow; obtain ⟨g4, rfl, hc4⟩ := hown.spot (by simp); have O4 : Hid (Txs w3 w2.heap.size (.slice (some ⟨g4, 0, none⟩) (os.length + 1) cap') (os ++ [c])) := hown; clear hown hgrow hat; have hr4 := run_rest (g := g4) (n := os.length + 1) (cap := cap') (by omega) hc4 (by omega))
            go_roundw
            case rel => exact ⟨i + 1, v2, ys, by omega, by omega, by go_num, HN.out _ _ _ T4.out (by have := O4.out.rest; rw [← HF3.out] at this; simpa [HF3.out] using this)⟩
            case measure => simp [intOf]; omega
          · have b1 : ¬ ((m : Int) < ((os.length + 1 : Nat) : Int)) := by omega
            have b2 : ¬ ((m : Int) < (os.length : Int) + 1) := by omega
            have HF3 : Hid (ys.map La.c = os ++ [c]) := HF2.out.trans (if_neg (by simpa using hbig))
            clear HF2
            go_wp2_with (at_builtin; refine wpList_append_text rfl _ _ rfl _ _ os rfl (HT.out.kept ((Kept.refl (fun _ => True) _).alloc _) (fun _ _ => trivial)) (by have := KK.out.size; simp; omega) _ rfl c (0, 0) (heap_alloc_new _ _) (by omega) ?_; intro ao' cap' w3 hown hgrow hat; have T4 : Hid (TM w w3 B v2 m ys) := (T3.out.ahead ((Kept.refl _ _).alloc _)).grown hbase.out (HT.out.kept ((Kept.refl (fun _ => True) _).alloc _) (fun _ _ => trivial)) hgrow; obtain ⟨g4, rfl, hc4⟩ := hown.spot (by simp); have O4 : Hid (Txs w3 w2.heap.size (.slice (some ⟨g4, 0, none⟩) (os.length + 1) cap') (os ++ [c])) := hown; clear hown hgrow hat)
            go_roundw
            case rel => exact ⟨i + 1, v2, ys, by omega, by omega, by go_num, HN.out _ _ _ T4.out (by rw [HF3.out]; exact O4.out.view)⟩
            case measure => simp [intOf]; omega
    · by_cases hin : i < cs.length
      · obtain rfl : i = 40 := by omega
        have g1 : (40 : Int) < (cs.length : Int) := by omega
        clear hc
        have cc := clients_any HM.out.tm.tb
        have hl : (xs.map La.c).length ≤ 8 := by rw [List.length_map]; omega
        go_wp2_with fail
        refine Calls.mono cc ?_
        rintro e w2 ⟨t2, rfl, h2, k2⟩
        have ct := texts_view h2 (HM.out.vw.all k2) (by omega)
        rw [decide_eq_true rfl] at ct
        have K2 : Hid (Kept (fun _ => True) w w2) := HM.out.tm.kept.trans k2
        clear cc h2 k2
        go_wp2_with fail
        refine Calls.mono ct ?_
        rintro e w3 ⟨rfl, m3, rfl⟩
        clear ct
        go_wp2_with fail
        refine Calls.mono known_any ?_
        rintro e w4 ⟨rfl, k4⟩
        go_wp2_with fail
        go_ret
        exact ⟨rfl, (K2.out.drewN m3).trans k4⟩
      · have g1 : ¬ ((i : Int) < (cs.length : Int)) := by omega
        clear hc
        have cc := clients_any HM.out.tm.tb
        have hl : (xs.map La.c).length ≤ 8 := by rw [List.length_map]; omega
        go_wp2_with fail
        refine Calls.mono cc ?_
        rintro e w2 ⟨t2, rfl, h2, k2⟩
        have ct := texts_view h2 (HM.out.vw.all k2) (by omega)
        rw [decide_eq_true rfl] at ct
        have K2 : Hid (Kept (fun _ => True) w w2) := HM.out.tm.kept.trans k2
        clear cc h2 k2
        go_wp2_with fail
        refine Calls.mono ct ?_
        rintro e w3 ⟨rfl, m3, rfl⟩
        clear ct
        go_wp2_with fail
        refine Calls.mono known_any ?_
        rintro e w4 ⟨rfl, k4⟩
        go_wp2_with fail
        go_ret
        exact ⟨rfl, (K2.out.drewN m3).trans k4⟩

end Go.Proofs.Ytihfcmcpapgokaa
