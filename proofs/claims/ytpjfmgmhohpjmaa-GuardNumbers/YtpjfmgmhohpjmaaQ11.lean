/-
  Uses.
-/
import Derived.Test.YtpjfmgmhohpjmaaQ10
namespace Go.Proofs.Ytpjfmgmhohpjmaa
open Go.RowKit Go.Maps Go.Sort Go.Shelf

/-- How far it is to the last word. -/
def muU (L : Nat) (v : Value) (w : World) : Nat := match v with
  | .pointer (some a) => (match w.cell? ⟨a.block, 0, none⟩, w.cell? ⟨a.block, 2, none⟩ with
    | some (.int _ k), some (.int _ t) => 2 * (L - t.toNat) + (if k = 0 then 0 else 1)
    | _, _ => 0)
  | _ => 0
theorem muU_at {L G k q t : Nat} {n : Int} {w : World} {ty : TypeId} {fr : Nat × Nat} (h : w.heap[G]? = some (.cells #[.int .i64 (k : Nat), .int .i64 (q : Nat), .int .i64 (t : Nat), .int .i64 n] ty fr)) : muU L (.pointer (some ⟨G, 0, none⟩)) w = 2 * (L - t) + (if k = 0 then 0 else 1) := by
  obtain ⟨z0, _, z2, _⟩ := word_cells h
  simp only [muU, z0, z2]
  have : ((k : Int) = 0) ↔ k = 0 := by omega
  simp 
theorem muU_less {s : List UInt8} {p k q t k' q' t' : Nat} {n n' : Int} (_ : Rd s p k q t n) (hk : k ≠ 0) (h' : Rd s t k' q' t' n') : 2 * (s.length - t') + (if k' = 0 then 0 else 1) < 2 * (s.length - t) + (if k = 0 then 0 else 1) := by
  rw [if_neg hk]
  rcases h' with ⟨rfl, _, rfl, _⟩ | ⟨h1, rfl, _⟩
  · simp
  · have := h1.ahead
    have := h1.some
    have := h1.within
    split <;> omega

theorem wdp_few (s : List UInt8) (p : Nat) : (wdp p s).1.length + (wdp p s).2.length ≤ s.length := by
  induction s generalizing p with
  | nil => simp [wdp]
  | cons c r ih =>
    have := ih (p + 1)
    unfold wdp
    split
    · simp only [flush]
      split
      · simp; omega
      · rename_i h
        have : 0 < (wdp (p + 1) r).1.length := List.length_pos_iff.2 h
        simp; omega
    · simp; omega
/-- No more words than bytes. -/
theorem words_few (s : List UInt8) : (Wo s 0).length ≤ s.length := by
  have := wdp_few s 0
  unfold Wo
  rw [List.drop_zero]
  simp only [flush]
  split
  · omega
  · rename_i h
    have : 0 < (wdp 0 s).1.length := List.length_pos_iff.2 h
    simp; omega
theorem ownsRow_base {w : World} {b b' e sz n : Nat} {v : Value} {xs : List Value} (h : w.ownsRow b e sz v n xs) (hb : b' ≤ b) : w.ownsRow b' e sz v n xs := by
  refine ⟨h.1, ?_⟩
  rcases h.2 with h0 | ⟨g, cap, cur, rfl, hg, rest⟩
  · exact .inl h0
  · exact .inr ⟨g, cap, cur, rfl, by omega, rest⟩
theorem enc_row (us : List (List UInt8)) : us.map encStr = srow us := rfl
/-- What was there stays when a text is stored anew in its own place. -/
theorem Txs.again {w : World} {base g cap : Nat} {us : List (List UInt8)} (h : Txs w base (.slice (some ⟨g, 0, none⟩) us.length cap) us) (k : Nat) (hk : k < us.length) : Txs (w.setCell ⟨g, k, none⟩ (.string ⟨(us[k]).toArray⟩)) base (.slice (some ⟨g, 0, none⟩) us.length cap) us := by
  have hr := (World.ownsRow.stored h k (.string ⟨(us[k]).toArray⟩)).1
  have e : (srow us).set k (.string ⟨(us[k]).toArray⟩) = srow us := by
    apply List.ext_getElem (by simp)
    intro i h1 h2
    rw [List.getElem_set]
    split
    · rename_i he
      subst he
      simp [srow]
    · rfl
  rw [e] at hr
  exact hr

set_option maxRecDepth 100000 in
set_option maxHeartbeats 2000000 in
theorem uses_any {w : World} {s : List UInt8} (hs : s.length ≤ 10000) :
    Calls Try.prog 16 #[.string ⟨s.toArray⟩] w fun e w' => (∃ v us, e = .returned v ∧ Us s us ∧ Txs w' w.heap.size v us) ∧ Kept (fun _ => True) w w' := by
  have HS : Hid (s.length ≤ 10000) := hs
  have hm := Su.made w
  have km : Kept (fun _ => True) w (w.alloc (.map #[] 0)) := (Kept.refl _ _).alloc _
  have HM : Hid (Su (w.alloc (.map #[] 0)) w.heap.size 0 []) := hm
  have HKM : Hid _ := km
  have cr := read_any (w := w.alloc (.map #[] 0)) (by omega) 0 (Nat.zero_le s.length)
  clear hm km
  have hmm := @run_makeMap Try.prog
  go_enter Try.func16, Try.ntmps16
  go_wp2_with fail
  refine Calls.mono cr ?_
  rintro e w1 ⟨⟨k0, q0, t0, n0, rfl, hR0⟩, k1⟩
  clear cr
  have HR0 : Hid (Rd s 0 k0 q0 t0 n0) := hR0
  have HS1 : Hid (Su w1 w.heap.size 0 []) := HM.out.kept k1 trivial
  have HK1 : Hid (Kept (fun _ => True) w w1) := HKM.out.trans k1
  clear hR0 k1 HM HKM
  have HB1 : Hid ((w1.alloc (.cells #[.int .i64 (k0 : Nat), .int .i64 (q0 : Nat), .int .i64 (t0 : Nat), .int .i64 n0] 46)).heap[w1.heap.size]? = some (.cells #[.int .i64 (k0 : Nat), .int .i64 (q0 : Nat), .int .i64 (t0 : Nat), .int .i64 n0] 46 (0, 0))) := heap_alloc_new w1 _
  have HG1 : Hid (Kept (fun _ => True) w1 (w1.alloc (.cells #[.int .i64 (k0 : Nat), .int .i64 (q0 : Nat), .int .i64 (t0 : Nat), .int .i64 n0] 46))) := (Kept.refl _ _).alloc _
  clear hmm
  go_wp2_with fail
  obtain ⟨B, hB⟩ : ∃ B, B = w.heap.size := ⟨_, rfl⟩
  have HB : Hid (B = w.heap.size) := hB
  rw [← hB] at HS1 ⊢
  clear hB
  go_loopw [4] (fun t4 wr => ∃ (p m k q t G : Nat) (n : Int) (ks : List (List UInt8)), t4 = .pointer (some ⟨G, 0, none⟩) ∧ Rd s p k q t n ∧ m + (Wo s p).length ≤ 10000 ∧ p ≤ s.length ∧ (∀ x, (x ∈ ks ∨ (x ∈ (Wo s p).map Prod.snd ∧ isName x = true)) ↔ (x ∈ tx s ∧ isName x = true)) ∧ Su wr B m ks ∧ wr.heap[G]? = some (.cells #[.int .i64 (k : Nat), .int .i64 (q : Nat), .int .i64 (t : Nat), .int .i64 n] 46 (0, 0)) ∧ Kept (fun _ => True) w wr) (fun t4 wr => muU s.length t4 wr)
  case atStart =>
    refine ⟨0, 0, k0, q0, t0, _, n0, [], rfl, HR0.out, ?_, Nat.zero_le _, ?_, HS1.out.kept HG1.out trivial, HB1.out, HK1.out.trans HG1.out⟩
    · have := words_few s
      have := HS.out
      omega
    · intro x
      rw [Wo_tx]
      simp
  case round =>
    obtain ⟨p, m, k, q, t, G, n, ks, rfl, hR, hm, hp, hks, hsu, hbg, hkw⟩ := hrel
    obtain ⟨b1, b2, b3⟩ := hR.bounds
    have HR : Hid (Rd s p k q t n) := hR
    have HMM : Hid (m + (Wo s p).length ≤ 10000) := hm
    have HKS : Hid (∀ x, (x ∈ ks ∨ (x ∈ (Wo s p).map Prod.snd ∧ isName x = true)) ↔ (x ∈ tx s ∧ isName x = true)) := hks
    have HSU : Hid (Su wr B m ks) := hsu
    have HBG : Hid (wr.heap[G]? = some (.cells #[.int .i64 (k : Nat), .int .i64 (q : Nat), .int .i64 (t : Nat), .int .i64 n] 46 (0, 0))) := hbg
    have HKW : Hid (Kept (fun _ => True) w wr) := hkw
    have HGB : Hid (G ≠ B) := by
      show G ≠ B
      rintro rfl
      obtain ⟨D, ⟨es, clock, hb, _⟩, _⟩ := hsu
      rw [hb] at hbg
      cases hbg
    obtain ⟨z0, z1, z2, z3⟩ := word_cells hbg
    clear hR hm hks hsu hbg hkw
    by_cases h0 : k = 0
    · subst h0
      obtain ⟨D, ho, hh⟩ := HSU.out
      have hsz := ho.size_le
      have hm10 : m ≤ 10000 := by have := HMM.out; omega
      have ck := keys_any (some B) wr
      have cS := sorted_any B m D unitElem wr ho (by unfold maxLen; omega) (by omega)
      have HKD : Hid ((strKeys D).Nodup ∧ ∀ x, x ∈ strKeys D ↔ (x ∈ tx s ∧ isName x = true)) := by
        refine ⟨(Su.keys ho).1, fun x => ?_⟩
        rw [(Su.keys ho).2 x, hh x, ← HKS.out x, (HR.out.none rfl).2]
        simp
      have HKA : Hid (Kept (fun _ => True) w (wr.alloc (.cells #[.map (some B)] 59))) := HKW.out.alloc _
      have HLN : Hid (Maps.size D ≤ 10000 ∧ (strKeys D).length = Maps.size D) := ⟨by omega, by
        obtain ⟨es, hD, _, _⟩ := ho.entries text_key
        rw [hD]
        simp [strKeys, Maps.size]⟩
      clear hsz hm10 ho hh
      go_wp2_with fail
      refine Calls.mono ck ?_
      rintro e _ ⟨rfl, rfl⟩
      clear ck
      go_wp2_with fail
      refine Calls.mono cS ?_
      rintro e w5 ⟨v, ss, rfl, hperm, hrow, -, hb⟩
      clear cS
      obtain ⟨us, hus⟩ : ∃ us, us = ss.mergeSort (fun x y => decide (x ≤ y)) := ⟨_, rfl⟩
      have hul : us.length = ss.length := by rw [hus, List.length_mergeSort]
      have HU : Hid (Us s us) := by
        obtain ⟨r1, r2⟩ := rises_sort ss (hperm.nodup_iff.2 HKD.out.1)
        refine ⟨by rw [hus]; exact r1, fun x => ?_⟩
        rw [hus, r2 x, hperm.mem_iff, HKD.out.2 x]
      have hk5 : Kept (fun _ => True) w w5 := HKA.out.trans (Kept.ofBelow _ hb)
      rw [← hus, enc_row, ← hul] at hrow
      have HT : Hid (Txs w5 w.heap.size v us) := ownsRow_base hrow HKA.out.size
      have HK5 : Hid (Kept (fun _ => True) w w5) := hk5
      have hlen : us.length ≤ 10000 := by rw [hul, hperm.length_eq, HLN.out.2]; exact HLN.out.1
      clear hus hul hrow hk5 hb hperm
      obtain ⟨ao, cap, rfl, -, hg⟩ := HT.out.shape
      have HGG : Hid _ := hg
      have HTL : Hid (∀ u ∈ us, u.length ≤ 10000) := by
        intro u hu
        have h1 := (isName_all ((HU.out.2 u).1 hu).2).2.2.1
        omega
      clear hg
      go_wp2_with fail
      go_loopw [6, 7, 35] (fun _ _ t35 wq => ∃ i : Nat, i ≤ us.length ∧ t35 = .int .i64 (i : Nat) ∧ Txs wq w.heap.size (.slice ao us.length cap) us ∧ Kept (fun _ => True) w wq) (fun _ _ t35 _ => us.length - (intOf t35).toNat)
      case atStart => exact ⟨0, Nat.zero_le _, rfl, HT.out, HK5.out⟩
      case round =>
        obtain ⟨i, hi, rfl, hT, hk⟩ := hrel
        have HTi : Hid (Txs wr w.heap.size (.slice ao us.length cap) us) := hT
        have HKi : Hid _ := hk
        by_cases hlt : i < us.length
        · obtain ⟨g, rfl⟩ := HGG.out (by omega)
          have q1 := hT.cell i hlt
          have cc := clone_any (w := wr) us[i] (by have := HTL.out us[i] (List.getElem_mem hlt); omega)
          have i1 : (i : Int) < (us.length : Int) := by omega
          have i0 : (0 : Int) ≤ (i : Int) := by omega
          clear hT hk
          have HA : Hid (∀ W, Txs W w.heap.size (.slice (some ⟨g, 0, none⟩) us.length cap) us → Txs (W.setCell ⟨g, i, none⟩ (.string ⟨us[i].toArray⟩)) w.heap.size (.slice (some ⟨g, 0, none⟩) us.length cap) us) := fun W h => h.again i hlt
          have HC : Hid (∀ W, Txs W w.heap.size (.slice (some ⟨g, 0, none⟩) us.length cap) us → W.cell? ⟨g, i, none⟩ = some (.string ⟨us[i].toArray⟩) ∧ W.frozen? ⟨g, i, none⟩ = false ∧ w.heap.size ≤ g) := fun W h => ⟨h.cell i hlt, World.ownsRow.frozenAt h i, (World.ownsRow.lt h g rfl).1⟩
          generalize us[i] = y at *
          go_wp2_with fail
          refine Calls.mono cc ?_
          rintro e w6 ⟨rfl, k6⟩
          clear cc
          have hT6 := HTi.out.kept k6 (fun _ _ => trivial)
          obtain ⟨x1, x2, x3⟩ := HC.out w6 hT6
          have HT6 : Hid _ := HA.out w6 hT6
          have HK6 : Hid (Kept (fun _ => True) w w6) := HKi.out.trans k6
          clear hT6 k6
          go_wp2_with fail
          go_roundw
          case rel => exact ⟨i + 1, by omega, by go_num, HT6.out, HK6.out.fresh ((Kept.refl (· ≠ g) _).setCell (by simp) _) x3⟩
          case measure => simp [intOf]; omega
        · have i1 : ¬ (i : Int) < (us.length : Int) := by omega
          go_wp2_with fail
          go_ret
          exact ⟨⟨_, rfl, us, HU.out, HTi.out⟩, HKi.out⟩
    · have h0' : ((k : Int) == 0) = false := by simp; omega
      have HW : Hid (k = kd (tex s q t) ∧ Wo s p = (q, tex s q t) :: Wo s t) := HR.out.some h0
      have HML : Hid (∀ {k' q' t' : Nat} {n' : Int}, Rd s t k' q' t' n' → 2 * (s.length - t') + (if k' = 0 then 0 else 1) < 2 * (s.length - t) + (if k = 0 then 0 else 1)) := fun h => muU_less HR.out h0 h
      have HM1 : Hid (m + 1 + (Wo s t).length ≤ 10000) := by
        have := HMM.out
        rw [HW.out.2, List.length_cons] at this
        show _ ≤ _
        omega
      have hxl : (tex s q t).length ≤ 1000000 := by rw [tex_length b2]; have := HS.out; omega
      by_cases h3 : k = 3
      · have hcut := cut_text s q t b1 b2
        have hn : isName (tex s q t) = true := (kd_name _).1 (HW.out.1 ▸ h3)
        have HKS2 : Hid (∀ x, (x ∈ tex s q t :: ks ∨ (x ∈ (Wo s t).map Prod.snd ∧ isName x = true)) ↔ (x ∈ tx s ∧ isName x = true)) := by
          intro x
          rw [← HKS.out x, HW.out.2]
          simp only [List.mem_cons, List.map_cons]
          constructor
          · rintro ((rfl | h) | ⟨h1, h2⟩)
            · exact .inr ⟨.inl rfl, hn⟩
            · exact .inl h
            · exact .inr ⟨.inr h1, h2⟩
          · rintro (h | ⟨rfl | h1, h2⟩)
            · exact .inl (.inr h)
            · exact .inl (.inl rfl)
            · exact .inr ⟨h1, h2⟩
        obtain ⟨w2, hst, hsu2, hk2, hsz2⟩ := HSU.out.store hxl (by have := HM1.out; omega)
        have HSU2 : Hid (Su w2 B (m + 1) (tex s q t :: ks)) := hsu2
        have HK2 : Hid (Kept (· ≠ B) wr w2) := hk2
        have HKW2 : Hid (Kept (fun _ => True) w w2) := HKW.out.fresh hk2 (by rw [HB.out]; exact Nat.le_refl _)
        clear hsu2 hk2 hsz2 hn
        subst h3
        generalize tex s q t = x at *
        have hB2 := (HK2.out.block G (lt_of_block HBG.out) HGB.out).trans HBG.out
        have hz := word_cells hB2
        obtain ⟨z0, z1, z2, z3⟩ := hz
        have HB3 : Hid _ := heap_alloc_new w2 (.cells #[.int .i64 3, .int .i64 (q : Nat), .int .i64 (t : Nat), .int .i64 n] 46)
        have HG3 : Hid (Kept (fun _ => True) w2 (w2.alloc (.cells #[.int .i64 3, .int .i64 (q : Nat), .int .i64 (t : Nat), .int .i64 n] 46))) := (Kept.refl _ _).alloc _
        have cr := fun W => read_any (w := W) (s := s) (by have := HS.out; omega) t b2
        clear hB2
        go_wp2_with fail
        refine Calls.mono (cr _) ?_
        rintro e w3 ⟨⟨k', q', t', n', rfl, hR'⟩, k3⟩
        clear cr
        have hB3 := (k3.block w2.heap.size (by simp) trivial).trans HB3.out
        obtain ⟨y0, y1, y2, y3⟩ := word_cells hB3
        have yf : ∀ j, w3.frozen? ⟨w2.heap.size, j, none⟩ = false := fun j => by simp [World.frozen?, hB3]
        have yf0 := yf 0
        have yf1 := yf 1
        have yf2 := yf 2
        have yf3 := yf 3
        have HR' : Hid (Rd s t k' q' t' n') := hR'
        have HS3 : Hid (Su w3 B (m + 1) (x :: ks)) := (HSU2.out.kept HG3.out trivial).kept k3 trivial
        have HK3 : Hid (Kept (fun _ => True) w w3) := (HKW2.out.trans HG3.out).trans k3
        have HBB : Hid _ := hB3
        have HNB : Hid (w2.heap.size ≠ B ∧ w.heap.size ≤ w2.heap.size) := ⟨fun e => by have := HSU2.out.lt; omega, HKW2.out.size⟩
        clear hR' k3 hB3 yf HG3 HB3
        generalize w2.heap.size = G' at *
        go_wp2_with fail
        go_roundw
        case rel =>
          refine ⟨t, m + 1, k', q', t', G', n', x :: ks, rfl, HR'.out, by have := HM1.out; omega, b2, HKS2.out, ?_, set_word (set_word (set_word (set_word HBB.out 0 _) 1 _) 2 _) 3 _, ?_⟩
          · exact HS3.out.kept (p := (· ≠ G')) ((((Kept.refl _ _).setCell (by simp) _).setCell (by simp) _).setCell (by simp) _ |>.setCell (by simp) _) (Ne.symm HNB.out.1)
          · exact HK3.out.fresh ((((Kept.refl (· ≠ G') _).setCell (by simp) _).setCell (by simp) _).setCell (by simp) _ |>.setCell (by simp) _) HNB.out.2
        case measure =>
          have e1 := muU_at (L := s.length) HBG.out
          have e2 := muU_at (L := s.length) (set_word (set_word (set_word (set_word HBB.out 0 (.int .i64 (k' : Nat))) 1 (.int .i64 (q' : Nat))) 2 (.int .i64 (t' : Nat))) 3 (.int .i64 n'))
          have e3 := HML.out HR'.out
          rw [← e1, ← e2] at e3
          exact e3
      · have h3' : ((k : Int) == 3) = false := by simp; omega
        have hn : isName (tex s q t) = false := by
          cases hx : isName (tex s q t) with
          | false => rfl
          | true => exact absurd (HW.out.1.trans ((kd_name _).2 hx)) h3
        have HKS2 : Hid (∀ x, (x ∈ ks ∨ (x ∈ (Wo s t).map Prod.snd ∧ isName x = true)) ↔ (x ∈ tx s ∧ isName x = true)) := by
          intro x
          rw [← HKS.out x, HW.out.2]
          simp only [List.mem_cons, List.map_cons]
          constructor
          · rintro (h | ⟨h1, h2⟩)
            · exact .inl h
            · exact .inr ⟨.inr h1, h2⟩
          · rintro (h | ⟨rfl | h1, h2⟩)
            · exact .inl h
            · rw [hn] at h2; cases h2
            · exact .inr ⟨h1, h2⟩
        clear hn h3
        have HK2 : Hid (Kept (· ≠ B) wr wr) := Kept.refl _ _
        have hB2 := (HK2.out.block G (lt_of_block HBG.out) HGB.out).trans HBG.out
        have hz := word_cells hB2
        clear z0 z1 z2 z3
        obtain ⟨z0, z1, z2, z3⟩ := hz
        have HB3 : Hid _ := heap_alloc_new wr (.cells #[.int .i64 (k : Nat), .int .i64 (q : Nat), .int .i64 (t : Nat), .int .i64 n] 46)
        have HG3 : Hid (Kept (fun _ => True) wr (wr.alloc (.cells #[.int .i64 (k : Nat), .int .i64 (q : Nat), .int .i64 (t : Nat), .int .i64 n] 46))) := (Kept.refl _ _).alloc _
        have cr := fun W => read_any (w := W) (s := s) (by have := HS.out; omega) t b2
        clear hB2
        go_wp2_with fail
        refine Calls.mono (cr _) ?_
        rintro e w3 ⟨⟨k', q', t', n', rfl, hR'⟩, k3⟩
        clear cr
        have hB3 := (k3.block wr.heap.size (by simp) trivial).trans HB3.out
        obtain ⟨y0, y1, y2, y3⟩ := word_cells hB3
        have yf : ∀ j, w3.frozen? ⟨wr.heap.size, j, none⟩ = false := fun j => by simp [World.frozen?, hB3]
        have yf0 := yf 0
        have yf1 := yf 1
        have yf2 := yf 2
        have yf3 := yf 3
        have HR' : Hid (Rd s t k' q' t' n') := hR'
        have HS3 : Hid (Su w3 B m ks) := (HSU.out.kept HG3.out trivial).kept k3 trivial
        have HK3 : Hid (Kept (fun _ => True) w w3) := (HKW.out.trans HG3.out).trans k3
        have HBB : Hid _ := hB3
        have HNB : Hid (wr.heap.size ≠ B ∧ w.heap.size ≤ wr.heap.size) := ⟨fun e => by have := HSU.out.lt; omega, HKW.out.size⟩
        clear hR' k3 hB3 yf HG3 HB3
        generalize wr.heap.size = G' at *
        go_wp2_with fail
        go_roundw
        case rel =>
          refine ⟨t, m, k', q', t', G', n', ks, rfl, HR'.out, by have := HM1.out; omega, b2, HKS2.out, ?_, set_word (set_word (set_word (set_word HBB.out 0 _) 1 _) 2 _) 3 _, ?_⟩
          · exact HS3.out.kept (p := (· ≠ G')) ((((Kept.refl _ _).setCell (by simp) _).setCell (by simp) _).setCell (by simp) _ |>.setCell (by simp) _) (Ne.symm HNB.out.1)
          · exact HK3.out.fresh ((((Kept.refl (· ≠ G') _).setCell (by simp) _).setCell (by simp) _).setCell (by simp) _ |>.setCell (by simp) _) HNB.out.2
        case measure =>
          have e1 := muU_at (L := s.length) HBG.out
          have e2 := muU_at (L := s.length) (set_word (set_word (set_word (set_word HBB.out 0 (.int .i64 (k' : Nat))) 1 (.int .i64 (q' : Nat))) 2 (.int .i64 (t' : Nat))) 3 (.int .i64 n'))
          have e3 := HML.out HR'.out
          rw [← e1, ← e2] at e3
          exact e3

end Go.Proofs.Ytpjfmgmhohpjmaa
