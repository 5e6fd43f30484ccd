/-
  part, whole; the document's Read.
-/
import Derived.Test.YtahbfffhkpojmaaDoorTR7
import Derived.Test.YtahbfffhkpojmaaDoorTR8
namespace Go.Proofs.YtahbfffhkpojmaaDoor
open Go.RowKit

set_option maxRecDepth 100000 in
set_option maxHeartbeats 4000000 in
theorem part_bad {w : World} {T : Nat} {t : Ty} {va vs vm : Value} (h : Pt w T t va vs vm) (p : List UInt8) (hp : p.length ≤ 10000) (hw : Wo p 0 = [] ∨ ∃ a r, Wo p 0 = a :: r ∧ a.2 ≠ [97, 116, 116, 114] ∧ a.2 ≠ [115, 116, 97, 103, 101] ∧ a.2 ≠ [109, 97, 114, 107]) :
    Calls Tryd.prog 21 #[.pointer (some ⟨T, 0, none⟩), .bool false, .string ⟨p.toArray⟩] w (Pans w T t (par t p)) := by
  have hO : par t p = none := by
    obtain ⟨E, hE⟩ := end_some p
    rcases hw with hw | ⟨a, r, hw, h1, h2, h3⟩
    · exact par_none hE t hw
    · exact par_other hE t hw h1 h2 h3
  rw [hO]
  have cw := words_any (w := w) p hp
  have HP : Hid (Pt w T t va vs vm) := h
  clear h hO
  rcases hw with hw | ⟨a, r, hw, h1, h2, h3⟩
  · rw [hw] at cw
    go_enter Tryd.func21, Tryd.ntmps21
    go_wp2_with fail
    refine Calls.mono cw ?_
    rintro e w1 ⟨⟨v, rfl, hW⟩, k1⟩
    obtain ⟨wo, wc, rfl, hwc, hwg⟩ := hW.shape
    have HP1 : Hid (Pt w1 T t va vs vm) := HP.out.all k1
    have HK1 : Hid (Kept (· < T) w w1) := k1.mono (fun _ _ _ => trivial)
    clear cw hW k1 HP hwg
    go_wp2_with fail
    go_ret
    exact ⟨false, _, _, _, _, rfl, HP1.out, HK1.out, .inl ⟨rfl, rfl⟩⟩
  · rw [hw] at cw
    replace h1 := beq_eq_false_iff_ne.2 h1
    replace h2 := beq_eq_false_iff_ne.2 h2
    replace h3 := beq_eq_false_iff_ne.2 h3
    clear hw
    go_enter Tryd.func21, Tryd.ntmps21
    go_wp2_with fail
    refine Calls.mono cw ?_
    rintro e w1 ⟨⟨v, rfl, hW⟩, k1⟩
    obtain ⟨wo, wc, rfl, hwc, hwg⟩ := hW.shape
    obtain ⟨g, rfl⟩ := hwg (by simp)
    have HP1 : Hid (Pt w1 T t va vs vm) := HP.out.all k1
    have HK1 : Hid (Kept (· < T) w w1) := k1.mono (fun _ _ _ => trivial)
    have d1 := (hW.cells 0 (by simp)).2
    simp only [Nat.zero_mul, Nat.zero_add, List.getElem_cons_zero] at d1
    obtain ⟨n, hn⟩ : ∃ n, n = (a :: r).length := ⟨_, rfl⟩
    have hn1 : n = r.length + 1 := by rw [hn]; simp
    have n0 : ((n : Int) == 0) = false := by simp; omega
    have n0' : (0 : Int) < (n : Int) := by omega
    clear hn1
    rw [← hn] at hwc ⊢
    clear cw hW k1 HP hwg hn
    generalize a.2 = x at *
    go_wp2_with fail
    go_ret
    exact ⟨false, _, _, _, _, rfl, HP1.out, HK1.out, .inl ⟨rfl, rfl⟩⟩
theorem part_any {w : World} {T : Nat} {t : Ty} {va vs vm : Value} (h : Pt w T t va vs vm) (hm : t.attrs.length ≤ 10000 ∧ t.stages.length ≤ 10000 ∧ t.marks.length ≤ 10000) (p : List UInt8) (hp : p.length ≤ 10000) :
    Calls Tryd.prog 21 #[.pointer (some ⟨T, 0, none⟩), .bool false, .string ⟨p.toArray⟩] w (Pans w T t (par t p)) := by
  cases hw : Wo p 0 with
  | nil => exact part_bad h p hp (.inl hw)
  | cons a r =>
    by_cases h1 : a.2 = [97, 116, 116, 114]
    · exact part_attr h hm.1 p hp hw h1
    by_cases h2 : a.2 = [115, 116, 97, 103, 101]
    · exact part_stage h hm.2.1 p hp hw h2
    by_cases h3 : a.2 = [109, 97, 114, 107]
    · exact part_mark h hm.2.2 p hp hw h3
    · exact part_bad h p hp (.inr ⟨a, r, hw, h1, h2, h3⟩)
theorem par_grow {t u : Ty} {p : List UInt8} (h : par t p = some u) : u.attrs.length ≤ t.attrs.length + 1 ∧ u.stages.length ≤ t.stages.length + 1 ∧ u.marks.length ≤ t.marks.length + 1 := by
  unfold par par0 at h
  split at h
  · obtain ⟨a, _, rfl⟩ := Option.map_eq_some_iff.1 h
    simp
  · split at h
    · obtain ⟨a, _, rfl⟩ := Option.map_eq_some_iff.1 h
      simp
    · split at h
      · obtain ⟨a, _, rfl⟩ := Option.map_eq_some_iff.1 h
        simp
      · cases h
theorem spl_cons {c : UInt8} (h : c ≠ 59) (r : List UInt8) : spl (c :: r) = (c :: (spl r).1, (spl r).2) := by rw [spl, if_neg h]
/-- A text from k on: the part up to i, where there is no semicolon between. -/
theorem spl_at {s : List UInt8} : ∀ (n k i : Nat), i - k = n → k ≤ i → i ≤ s.length → (∀ j (h : j < s.length), k ≤ j → j < i → s[j] ≠ 59) → spl (s.drop k) = (tex s k i ++ (spl (s.drop i)).1, (spl (s.drop i)).2) := by
  intro n
  induction n with
  | zero =>
    intro k i h1 h2 h3 _
    obtain rfl : k = i := by omega
    rw [tex_self]
    rfl
  | succ n ih =>
    intro k i h1 h2 h3 h4
    have hk : k < s.length := by omega
    have := ih (k + 1) i (by omega) (by omega) h3 (fun j h h5 h6 => h4 j h (by omega) h6)
    rw [List.drop_eq_getElem_cons hk, tex_cons (by omega) h3, spl_cons (h4 k hk (Nat.le_refl _) (by omega)), this]
    rfl
theorem spl_end {s : List UInt8} {k : Nat} (hk : k ≤ s.length) (h : ∀ j (h : j < s.length), k ≤ j → j < s.length → s[j] ≠ 59) : spl (s.drop k) = (tex s k s.length, []) := by
  rw [spl_at _ k s.length rfl hk (Nat.le_refl _) h, List.drop_eq_nil_of_le (Nat.le_refl _)]
  simp [spl]
theorem spl_semi {s : List UInt8} {k i : Nat} (hk : k ≤ i) (hi : i < s.length) (h : ∀ j (h : j < s.length), k ≤ j → j < i → s[j] ≠ 59) (hc : s[i] = 59) : spl (s.drop k) = (tex s k i, (spl (s.drop (i + 1))).1 :: (spl (s.drop (i + 1))).2) := by
  rw [spl_at _ k i rfl hk (by omega) h, List.drop_eq_getElem_cons hi, hc]
  simp [spl]
/-- What is still to read from k on. -/
def rdK (t : Ty) (k : Nat) (s : List UInt8) : Nat ⊕ Ty :=
  if k = 0 then rd s else rdp t k ((spl (s.drop k)).1 :: (spl (s.drop k)).2)
/-- One part of it. -/
theorem rdK_part (t : Ty) (k : Nat) (s q : List UInt8) (r : List (List UInt8)) (ht : k = 0 → t = Ty.none) (h : spl (s.drop k) = (q, r)) :
    rdK t k s = match (if k = 0 then (fst1 q).map (fun n => { t with name := n }) else par t q) with
      | none => .inl k
      | some u => rdp u (k + q.length + 1) r := by
  unfold rdK
  by_cases h0 : k = 0
  · subst h0
    rw [List.drop_zero] at h
    rw [if_pos rfl, if_pos rfl, ht rfl]
    unfold rd
    rw [h]
    cases fst1 q with
    | none => rfl
    | some n => simp [Ty.none]
  · rw [if_neg h0, if_neg h0, h]
    rfl

/-- While Read goes. -/
structure Rg (w wr : World) (s : List UInt8) (k : Nat) (t : Ty) (va vs vm : Value) : Prop where
  pt : Pt wr (w.heap.size + 1) t va vs vm
  res : wr.heap[w.heap.size]? = some (.cells #[.string ⟨#[]⟩, .slice none 0 0, .slice none 0 0, .slice none 0 0] 26 (0, 0))
  kept : Kept (fun _ => True) w wr
  few : t.attrs.length ≤ k ∧ t.stages.length ≤ k ∧ t.marks.length ≤ k
  first : k = 0 → t = Ty.none
  far : k ≤ s.length + 1
theorem Rg.part {w wr w' : World} {s : List UInt8} {k : Nat} {t t' : Ty} {va vs vm va' vs' vm' : Value} (h : Rg w wr s k t va vs vm) (hp : Pt w' (w.heap.size + 1) t' va' vs' vm') (hk : Kept (· < w.heap.size + 1) wr w') (k' : Nat) (hf : t'.attrs.length ≤ k' ∧ t'.stages.length ≤ k' ∧ t'.marks.length ≤ k') (h0 : k' ≠ 0) (hfar : k' ≤ s.length + 1) : Rg w w' s k' t' va' vs' vm' :=
  ⟨hp, (hk.block _ (lt_of_block h.res) (by omega)).trans h.res, h.kept.then hk (fun i hi _ => by show i < _; omega), hf, fun e => absurd e h0, hfar⟩

set_option maxRecDepth 100000 in
set_option maxHeartbeats 8000000 in
theorem rreads_any {w : World} (s : List UInt8) (hs : s.length ≤ 10000) :
    Calls Tryd.prog 8 #[.string ⟨s.toArray⟩] w fun e w' => ∃ v, e = .returned (.tuple #[v, .int .i64 ((read s).2.1 : Nat), .int .i64 ((read s).2.2 : Nat)]) ∧ TyV w' v (read s).1 ∧ Kept (fun _ => True) w w' := by
  obtain ⟨C, hC⟩ : ∃ C, C = read s := ⟨_, rfl⟩
  rw [← hC]
  unfold read at hC
  have HC : Hid _ := hC
  have HSz : Hid (∀ t, rd s = .inr t → Tsz t) := fun t ht => rd_sz ht (by omega)
  have hR0 : Rg w ((w.alloc (.cells #[.string ⟨#[]⟩, .slice none 0 0, .slice none 0 0, .slice none 0 0] 26)).alloc (.cells #[.string ⟨#[]⟩, .slice none 0 0, .slice none 0 0, .slice none 0 0] 26)) s 0 Ty.none (.slice none 0 0) (.slice none 0 0) (.slice none 0 0) := by
    obtain ⟨x1, x2⟩ := alloc_two w (.cells #[.string ⟨#[]⟩, .slice none 0 0, .slice none 0 0, .slice none 0 0] 26) (.cells #[.string ⟨#[]⟩, .slice none 0 0, .slice none 0 0, .slice none 0 0] 26)
    exact ⟨⟨x2, Ao.nil _ _, Ro.nil _ _, Ro.nil _ _, fun k h => by simp [Value.ownBlock] at h⟩, x1, ((Kept.refl _ _).alloc _).alloc _, ⟨Nat.le_refl _, Nat.le_refl _, Nat.le_refl _⟩, fun _ => rfl, Nat.zero_le _⟩
  have HR0 : Hid (Rg w ((w.alloc (.cells #[.string ⟨#[]⟩, .slice none 0 0, .slice none 0 0, .slice none 0 0] 26)).alloc (.cells #[.string ⟨#[]⟩, .slice none 0 0, .slice none 0 0, .slice none 0 0] 26)) s 0 Ty.none (.slice none 0 0) (.slice none 0 0) (.slice none 0 0)) := hR0
  clear hC hR0
  go_enter Tryd.func8, Tryd.ntmps8
  go_wp2_with fail
  go_loopw [6, 7] (fun t6 t7 wr => ∃ (k i : Nat) (t : Ty) (va vs vm : Value), t6 = .int .i64 (k : Nat) ∧ t7 = .int .i64 (i : Nat) ∧ i ≤ s.length + 1 ∧ Rg w wr s k t va vs vm ∧ ((i ≤ s.length ∧ k ≤ i ∧ rd s = rdK t k s ∧ ∀ j (h : j < s.length), k ≤ j → j < i → s[j] ≠ 59) ∨ (i = s.length + 1 ∧ rd s = .inr t))) (fun _ t7 _ => s.length + 1 - (intOf t7).toNat)
  case atStart => exact ⟨0, 0, Ty.none, _, _, _, rfl, rfl, Nat.zero_le _, HR0.out, .inl ⟨Nat.zero_le _, Nat.le_refl _, rfl, fun j _ _ h => by omega⟩⟩
  case round =>
  obtain ⟨k, i, t, va, vs, vm, rfl, rfl, hi, hG, hS⟩ := hrel
  have HG : Hid (Rg w wr s k t va vs vm) := hG
  clear hG HR0
  rcases hS with ⟨hil, hki, hrd, hno⟩ | ⟨rfl, hrd⟩
  · have HRD : Hid (rd s = rdK t k s) := hrd
    have HNO : Hid (∀ j (h : j < s.length), k ≤ j → j < i → s[j] ≠ 59) := hno
    have i1 : (i : Int) ≤ (s.length : Int) := by omega
    have i0 : (0 : Int) ≤ (i : Int) := by omega
    clear hrd hno
    by_cases hgo : ∃ h : i < s.length, s[i] ≠ 59
    · obtain ⟨hlt, hc⟩ := hgo
      have hx := at_text s i hlt (by simpa [ByteArray.size] using hlt)
      have hc' : ((((s[i]).toNat : Nat) : Int) != 59) = true := by
        simp only [bne_iff_ne, ne_eq]
        intro q
        exact hc (UInt8.toNat_inj.1 (by simpa using (by omega : (s[i]).toNat = 59)))
      have HNO2 : Hid (∀ j (h : j < s.length), k ≤ j → j < i + 1 → s[j] ≠ 59) := fun j h h1 h2 => by
        rcases Nat.eq_or_lt_of_le (Nat.le_of_lt_succ h2) with e | e
        · subst e; exact hc
        · exact HNO.out j h h1 e
      have i2 : (i : Int) < (s.length : Int) := by omega
      clear hc
      generalize s[i] = c at *
      go_wp2_with fail
      go_roundw
      case rel => exact ⟨k, i + 1, t, va, vs, vm, rfl, by go_num, by omega, HG.out, .inl ⟨by omega, by omega, HRD.out, HNO2.out⟩⟩
      case measure => simp [intOf]; omega
    · have hcutx := cut_text s k i hki hil
      obtain ⟨r, hspl⟩ : ∃ r, spl (s.drop k) = (tex s k i, r) ∧ ((i < s.length ∧ r = (spl (s.drop (i + 1))).1 :: (spl (s.drop (i + 1))).2) ∨ (i = s.length ∧ r = [])) := by
        by_cases hlt : i < s.length
        · have hc : s[i] = 59 := Classical.byContradiction fun hc => hgo ⟨hlt, hc⟩
          exact ⟨_, spl_semi hki hlt HNO.out hc, .inl ⟨hlt, rfl⟩⟩
        · obtain rfl : i = s.length := by omega
          exact ⟨_, spl_end hki HNO.out, .inr ⟨rfl, rfl⟩⟩
      have hrp := rdK_part t k s _ r HG.out.first hspl.1
      rw [tex_length hil] at hrp
      have htl : (tex s k i).length ≤ 10000 := by rw [tex_length hil]; omega
      have HRP : Hid (rd s = _) := HRD.out.trans hrp
      have HSP : Hid _ := hspl.2
      have HTL : Hid ((tex s k i).length ≤ 10000) := htl
      have HGO : Hid (i < s.length → ∃ h : i < s.length, s[i] = 59) := fun hlt => ⟨hlt, Classical.byContradiction fun hc => hgo ⟨hlt, hc⟩⟩
      obtain ⟨O, hO⟩ : ∃ O, O = (if k = 0 then (fst1 (tex s k i)).map (fun n => { t with name := n }) else par t (tex s k i)) := ⟨_, rfl⟩
      rw [← hO] at HRP
      obtain ⟨bk, hbk⟩ : ∃ bk, bk = ((k : Int) == 0) := ⟨_, rfl⟩
      have HGrow : Hid (∀ u, O = some u → u.attrs.length ≤ t.attrs.length + 1 ∧ u.stages.length ≤ t.stages.length + 1 ∧ u.marks.length ≤ t.marks.length + 1) := by
        intro u hu
        rw [hO] at hu
        split at hu
        · obtain ⟨n, _, rfl⟩ := Option.map_eq_some_iff.1 hu
          simp
        · exact par_grow hu
      have cp : Calls Tryd.prog 21 #[.pointer (some ⟨w.heap.size + 1, 0, none⟩), .bool bk, .string ⟨(tex s k i).toArray⟩] wr (Pans wr (w.heap.size + 1) t O) := by
        by_cases h0 : k = 0
        · have e : bk = true := by rw [hbk, h0]; rfl
          rw [e, hO, if_pos h0]
          exact part_first HG.out.pt _ HTL.out
        · have e : bk = false := by rw [hbk]; simp; omega
          rw [e, hO, if_neg h0]
          obtain ⟨b1, b2, b3⟩ := HG.out.few
          exact part_any HG.out.pt ⟨by omega, by omega, by omega⟩ _ HTL.out
      have hbk' := hbk.symm
      have HRDx : Hid True := trivial
      clear hO hbk hspl hrp htl HRD HNO hgo
      generalize tex s k i = q at *
      by_cases hlt : i < s.length
      · obtain ⟨_, hc⟩ := HGO.out hlt
        have hx := at_text s i hlt (by simpa [ByteArray.size] using hlt)
        rw [hc] at hx
        have i2 : (i : Int) < (s.length : Int) := by omega
        have HSPr : Hid (r = (spl (s.drop (i + 1))).1 :: (spl (s.drop (i + 1))).2) := by
          rcases HSP.out with ⟨_, h⟩ | ⟨h, _⟩
          · exact h
          · omega
        clear hc HGO HSP
        go_wp2_with fail
        refine Calls.mono cp ?_
        rintro e w2 ⟨ok, t', va', vs', vm', rfl, hP2, hK2, hOk⟩
        rcases hOk with ⟨ho, rfl⟩ | ⟨ho, rfl⟩
        · have HCe : Hid (C = (Ty.none, 12, k)) := by
            show _ = _
            have e1 := HRP.out
            rw [ho] at e1
            rw [HC.out, e1]
          have hres := (hK2.block _ (lt_of_block HG.out.res) (by omega)).trans HG.out.res
          obtain ⟨⟨z0, z1, z2, z3⟩, f0, f1, f2, f3⟩ := four_cell hres
          have HX3 : Hid _ := hres
          have HK3 : Hid (Kept (fun _ => True) w w2) := HG.out.kept.then hK2 (fun i hi _ => by show i < _; omega)
          clear hP2 hK2 hres cp HRP HG
          go_wp2_with fail
          refine bodyPost_ret (results_tri rfl _ _ rfl (load_type (set_cell (set_cell (set_cell (set_cell HX3.out 0 _) 1 _) 2 _) 3 _) rfl)) rfl ⟨_, by rw [HCe.out]; rfl, by rw [HCe.out]; exact TyV.none _, ?_⟩
          exact (((HK3.out.setNew (Nat.le_refl _) _).setNew (Nat.le_refl _) _).setNew (Nat.le_refl _) _).setNew (Nat.le_refl _) _
        · have HRn : Hid (rd s = rdK t' (i + 1) s) := by
            show _ = _
            rw [HRP.out, ho, HSPr.out]
            unfold rdK
            rw [if_neg (by omega), show k + (i - k) + 1 = i + 1 by omega]
          have hgrow : t'.attrs.length ≤ i + 1 ∧ t'.stages.length ≤ i + 1 ∧ t'.marks.length ≤ i + 1 := by
            obtain ⟨a1, a2, a3⟩ := HGrow.out t' ho
            obtain ⟨b1, b2, b3⟩ := HG.out.few
            omega
          have HG2 : Hid (Rg w w2 s (i + 1) t' va' vs' vm') := HG.out.part hP2 hK2 (i + 1) hgrow (by omega) (by omega)
          clear hP2 hK2 cp HRP HG hgrow
          go_wp2_with fail
          go_roundw
          case rel => exact ⟨i + 1, i + 1, t', va', vs', vm', by go_num, by go_num, by omega, HG2.out, .inl ⟨by omega, Nat.le_refl _, HRn.out, fun j _ h1 h2 => by omega⟩⟩
          case measure => simp [intOf]; omega
      · have i2 : ¬ (i : Int) < (s.length : Int) := by omega
        have HSPr : Hid (r = []) := by
          rcases HSP.out with ⟨h, _⟩ | ⟨_, h⟩
          · omega
          · exact h
        clear HGO HSP
        go_wp2_with fail
        refine Calls.mono cp ?_
        rintro e w2 ⟨ok, t', va', vs', vm', rfl, hP2, hK2, hOk⟩
        rcases hOk with ⟨ho, rfl⟩ | ⟨ho, rfl⟩
        · have HCe : Hid (C = (Ty.none, 12, k)) := by
            show _ = _
            have e1 := HRP.out
            rw [ho] at e1
            rw [HC.out, e1]
          have hres := (hK2.block _ (lt_of_block HG.out.res) (by omega)).trans HG.out.res
          obtain ⟨⟨z0, z1, z2, z3⟩, f0, f1, f2, f3⟩ := four_cell hres
          have HX3 : Hid _ := hres
          have HK3 : Hid (Kept (fun _ => True) w w2) := HG.out.kept.then hK2 (fun i hi _ => by show i < _; omega)
          clear hP2 hK2 hres cp HRP HG
          go_wp2_with fail
          refine bodyPost_ret (results_tri rfl _ _ rfl (load_type (set_cell (set_cell (set_cell (set_cell HX3.out 0 _) 1 _) 2 _) 3 _) rfl)) rfl ⟨_, by rw [HCe.out]; rfl, by rw [HCe.out]; exact TyV.none _, ?_⟩
          exact (((HK3.out.setNew (Nat.le_refl _) _).setNew (Nat.le_refl _) _).setNew (Nat.le_refl _) _).setNew (Nat.le_refl _) _
        · have HRn : Hid (rd s = .inr t') := by
            show _ = _
            rw [HRP.out, ho, HSPr.out]
            rfl
          have hgrow : t'.attrs.length ≤ i + 1 ∧ t'.stages.length ≤ i + 1 ∧ t'.marks.length ≤ i + 1 := by
            obtain ⟨a1, a2, a3⟩ := HGrow.out t' ho
            obtain ⟨b1, b2, b3⟩ := HG.out.few
            omega
          have HG2 : Hid (Rg w w2 s (i + 1) t' va' vs' vm') := HG.out.part hP2 hK2 (i + 1) hgrow (by omega) (by omega)
          clear hP2 hK2 cp HRP HG hgrow
          go_wp2_with fail
          go_roundw
          case rel => exact ⟨i + 1, i + 1, t', va', vs', vm', by go_num, by go_num, by omega, HG2.out, .inr ⟨by omega, HRn.out⟩⟩
          case measure => simp [intOf]; omega
  · have i1 : ¬ ((s.length : Int) + 1 ≤ (s.length : Int)) := by omega
    have i1' : ¬ (((s.length + 1 : Nat) : Int) ≤ (s.length : Int)) := by omega
    have HCe : Hid (C = if right t ≠ 0 then (Ty.none, right t, 0) else (t, 0, 0)) := by show _ = _; rw [HC.out, hrd]
    have hz := HSz.out t hrd
    have hP := HG.out.pt
    have HN : Hid (∀ k, va.ownBlock = some k ∨ vs.ownBlock = some k ∨ vm.ownBlock = some k → k ≠ w.heap.size) := by
      intro k hk
      rcases hk with e | e | e
      · have := (hP.rows (.inl rfl) _ e).1; omega
      · have := (hP.rows (.inr (.inl rfl)) _ e).1; omega
      · have := (hP.rows (.inr (.inr rfl)) _ e).1; omega
    have l1 := HG.out.few
    have hV : TyV wr (.agg #[.string ⟨t.name.toArray⟩, va, vs, vm]) t := by
      have hfar := HG.out.far
      exact ⟨_, _, _, rfl, hP.attrs.view (by omega), hP.stages.view (by omega), hP.marks.view (by omega)⟩
    have cr := rright_any hV hz
    have HV : Hid (TyV wr (.agg #[.string ⟨t.name.toArray⟩, va, vs, vm]) t) := hV
    obtain ⟨ao, an, ac, rfl⟩ := own_parts hP.attrs
    obtain ⟨so, sn, sc, rfl⟩ := own_parts hP.stages
    obtain ⟨mo, mn, mc, rfl⟩ := own_parts hP.marks
    obtain ⟨⟨y0, y1, y2, y3⟩, _⟩ := four_cell hP.self
    have HT : Hid _ := hP.self
    have HX2 : Hid _ := HG.out.res
    have HK2 : Hid (Kept (fun _ => True) w wr) := HG.out.kept
    clear hP hV hz hrd HSz HG HC l1 hi
    generalize right t = c at *
    go_wp2_with fail
    refine Calls.mono cr ?_
    rintro e w2 ⟨rfl, k2⟩
    have hX3 := (k2.block w.heap.size (lt_of_block HX2.out) trivial).trans HX2.out
    have hT3 := (k2.block (w.heap.size + 1) (lt_of_block HT.out) trivial).trans HT.out
    have HK3 : Hid (Kept (fun _ => True) w w2) := HK2.out.trans k2
    have HV3 : Hid (TyV w2 (.agg #[.string ⟨t.name.toArray⟩, .slice ao an ac, .slice so sn sc, .slice mo mn mc]) t) := HV.out.all k2
    clear y0 y1 y2 y3
    obtain ⟨⟨z0, z1, z2, z3⟩, f0, f1, f2, f3⟩ := four_cell hX3
    obtain ⟨⟨y0, y1, y2, y3⟩, _⟩ := four_cell hT3
    have HX3 : Hid _ := hX3
    clear hX3 hT3 cr k2 HK2 HX2 HT HV
    by_cases hc : c = 0
    · subst hc
      have HF : Hid (C = (t, 0, 0)) := by show _ = _; rw [HCe.out, if_neg (by simp)]
      clear HCe
      go_wp2_with fail
      refine bodyPost_ret (results_tri rfl _ _ rfl (load_type (set_cell (set_cell (set_cell (set_cell HX3.out 0 _) 1 _) 2 _) 3 _) rfl)) rfl ⟨_, by rw [HF.out]; rfl, ?_, ?_⟩
      · rw [HF.out]
        obtain ⟨va, vs, vm, e, h1, h2, h3⟩ := HV3.out
        simp only [Value.agg.injEq, Array.mk.injEq, List.cons.injEq, and_true] at e
        obtain ⟨_, rfl, rfl, rfl⟩ := e
        have kz : ∀ a b c d : Value, Kept (· ≠ w.heap.size) w2 ((((w2.setCell ⟨w.heap.size, 0, none⟩ a).setCell ⟨w.heap.size, 1, none⟩ b).setCell ⟨w.heap.size, 2, none⟩ c).setCell ⟨w.heap.size, 3, none⟩ d) := fun a b c d =>
          ((((Kept.refl _ _).setCell (by simp) _).setCell (by simp) _).setCell (by simp) _).setCell (by simp) _
        exact ⟨_, _, _, rfl, h1.kept (kz _ _ _ _) (fun i e => HN.out i (.inl e)), h2.kept (kz _ _ _ _) (fun i e => HN.out i (.inr (.inl e))), h3.kept (kz _ _ _ _) (fun i e => HN.out i (.inr (.inr e)))⟩
      · exact (((HK3.out.setNew (Nat.le_refl _) _).setNew (Nat.le_refl _) _).setNew (Nat.le_refl _) _).setNew (Nat.le_refl _) _
    · have hc' : ((c : Int) == 0) = false := by simp; omega
      have hc2 : ((c : Int) != 0) = true := by simp; omega
      have HF : Hid (C = (Ty.none, c, 0)) := by show _ = _; rw [HCe.out, if_pos hc]
      clear HCe hc
      go_wp2_with fail
      refine bodyPost_ret (results_tri rfl _ _ rfl (load_type (set_cell (set_cell (set_cell (set_cell HX3.out 0 _) 1 _) 2 _) 3 _) rfl)) rfl ⟨_, by rw [HF.out]; rfl, by rw [HF.out]; exact TyV.none _, ?_⟩
      exact (((HK3.out.setNew (Nat.le_refl _) _).setNew (Nat.le_refl _) _).setNew (Nat.le_refl _) _).setNew (Nat.le_refl _) _

end Go.Proofs.YtahbfffhkpojmaaDoor
