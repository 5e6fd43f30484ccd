/-
  Texts of the proofs, 50 of 52.
-/
import Derived.Test.YtmcaoimgmgjjiaaWAW
namespace Go.Proofs.Ytmcaoimgmgjjiaa
open Go.RowKit Go.Maps Go.Sort

theorem rkTy : ElT 71 77 rkS.n 48 (.agg #[.slice none 0 0, .slice none 0 0]) :=
  ⟨Try.underlying71, by kernel_rfl, by simp [Value.cells, rkS], by decide, by decide⟩
theorem Try.sizeFaultR : (Try.prog.info? 36).map (·.size) = some 3 := by kernel_rfl
theorem load_faultR {w : World} {g : Nat} {t : TypeId} {a b c : Value} (hg : Bk w g t [a, b, c]) : (loadVar 36 ⟨g, 0, none⟩).run Try.prog w = .ok (.agg #[a, b, c]) w :=
  run_loadVar_row w g t 36 #[a, b, c] _ _ hg Try.underlying36 rfl Try.sizeFaultR
structure L1 (w : World) (b : Nat) (cl : List Uc) (v : Value) (xs : List Rk) : Prop where
  ow : Ow rkS 77 w b v xs
  lo : ∀ x ∈ xs, Lo 80 w b (.slice x.aL x.ls.length x.cL) x.ls
  few : ∀ x ∈ xs, x.ls.length ≤ 4096
  nil : ∀ x ∈ xs, x.us = [] ∧ x.aR = none ∧ x.cR = 0
  dec : ∀ i (h1 : i < xs.length) (h2 : i < cl.length), ∃ z, IsDec cl[i].bs xs[i].ls 0 z

theorem L1.snoc {w w' : World} {b : Nat} {cl : List Uc} {v v' : Value} {xs : List Rk} {x : Rk} (h : L1 w b cl v xs) (ho : Ow rkS 77 w' b v' (xs ++ [x])) (k : Kept (fun y => v.ownBlock ≠ some y) w w') (hx : Lo 80 w' b (.slice x.aL x.ls.length x.cL) x.ls) (hf : x.ls.length ≤ 4096) (hn : x.us = [] ∧ x.aR = none ∧ x.cR = 0) (hd : ∀ h2 : xs.length < cl.length, ∃ z, IsDec cl[xs.length].bs x.ls 0 z) : L1 w' b cl v' (xs ++ [x]) := by
  refine ⟨ho, fun y hy => ?_, fun y hy => ?_, fun y hy => ?_, fun i h1 h2 => ?_⟩
  · rcases List.mem_append.1 hy with q | q
    · exact (h.lo y q).kept k (fun i hi => own_two (h.lo y q) h.ow (by decide) i hi)
    · rw [List.mem_singleton.1 q]; exact hx
  · rcases List.mem_append.1 hy with q | q
    · exact h.few y q
    · rw [List.mem_singleton.1 q]; exact hf
  · rcases List.mem_append.1 hy with q | q
    · exact h.nil y q
    · rw [List.mem_singleton.1 q]; exact hn
  · rw [List.length_append, List.length_singleton] at h1
    by_cases hi : i < xs.length
    · rw [List.getElem_append_left hi]
      exact h.dec i hi h2
    · obtain rfl : i = xs.length := by omega
      rw [List.getElem_append_right (Nat.le_refl _)]
      simpa using hd h2

theorem recNTy : ElT 75 48 recN.n 64 (.agg #[.int .i64 0, .string .empty, .slice none 0 0, .string .empty]) :=
  ⟨Try.underlying75, by kernel_rfl, by simp [Value.cells, recN], by decide, by decide⟩
structure L2 (w : World) (b : Nat) (cl : List Uc) (v : Value) (xs : List Rk) : Prop where
  ow : Ow rkS 77 w b v xs
  lo : ∀ x ∈ xs, Lo 80 w b (.slice x.aL x.ls.length x.cL) x.ls
  ru : ∀ x ∈ xs, Ow recN 48 w b (.slice x.aR x.us.length x.cR) x.us
  gs : ∀ x ∈ xs, ∀ p ∈ x.us, Its w b (.slice p.2.1 p.1.gs.length p.2.2) p.1.gs
  few : ∀ x ∈ xs, x.ls.length ≤ 4096
  dec : ∀ i (h1 : i < xs.length) (h2 : i < cl.length), ∃ z, IsDec cl[i].bs xs[i].ls 0 z
theorem L1.two {w : World} {b : Nat} {cl : List Uc} {v : Value} {xs : List Rk} (h : L1 w b cl v xs) : L2 w b cl v xs := by
  refine ⟨h.ow, h.lo, fun x hx => ?_, fun x hx p hp => ?_, h.few, h.dec⟩
  · obtain ⟨e1, e2, e3⟩ := h.nil x hx
    rw [e1, e2, e3]
    exact Ow.nil _ _ _
  · rw [(h.nil x hx).1] at hp
    cases hp
structure St (xs : List Rk) (i : Nat) : Prop where
  bef : ∀ j (h : j < xs.length), j < i → Red xs[j]
  aft : ∀ j (h : j < xs.length), i ≤ j → xs[j].us = [] ∧ xs[j].aR = none ∧ xs[j].cR = 0
theorem L2.cells {w : World} {b : Nat} {cl : List Uc} {a' : Option Addr} {n c' : Nat} {xs : List Rk} (h : L2 w b cl (.slice a' n c') xs) (i : Nat) (hi : i < xs.length) : ∃ g, a' = some ⟨g, 0, none⟩ ∧ w.cell? ⟨g, i * 2, none⟩ = some (.slice xs[i].aL xs[i].ls.length xs[i].cL) ∧ w.cell? ⟨g, i * 2 + 1, none⟩ = some (.slice xs[i].aR xs[i].us.length xs[i].cR) ∧ w.frozen? ⟨g, i * 2 + 1, none⟩ = false ∧ g < w.heap.size := by
  obtain ⟨ao, cap, e, _, hg, _⟩ := h.ow.shape
  obtain ⟨g, rfl⟩ := hg (by omega)
  injection e with e1 e2 e3
  subst e1 e2 e3
  have ho : w.ownsRow b 77 2 (.slice (some ⟨g, 0, none⟩) xs.length c') xs.length (rkS.row xs) := h.ow
  have hl : (rkS.row xs).length = xs.length * 2 := row_length xs
  have c0 : (rkS.row xs)[i * 2 + 0]? = _ := row_get xs i hi 0 (by decide)
  have c1 : (rkS.row xs)[i * 2 + 1]? = _ := row_get xs i hi 1 (by decide)
  refine ⟨g, rfl, ?_, ?_, ho.frozenAt _, h.ow.lt rfl⟩
  · rw [ho.cellAt (i * 2) (by omega)]; exact c0
  · rw [ho.cellAt (i * 2 + 1) (by omega)]; exact c1
theorem row_set2 : ∀ (xs : List Rk) (i : Nat) (hi : i < xs.length) (y : Rk), y.aL = xs[i].aL → y.ls = xs[i].ls → y.cL = xs[i].cL → (rkS.row xs).take (i * 2 + 1) ++ [.slice y.aR y.us.length y.cR] ++ (rkS.row xs).drop (i * 2 + 1 + 1) = rkS.row (xs.set i y)
  | x :: xs, 0, _, y, h1, h2, h3 => by
    simp only [List.getElem_cons_zero] at h1 h2 h3
    rw [List.set_cons_zero, row_cons, row_cons]
    show [Value.slice x.aL x.ls.length x.cL] ++ [.slice y.aR y.us.length y.cR] ++ rkS.row xs = [.slice y.aL y.ls.length y.cL, .slice y.aR y.us.length y.cR] ++ rkS.row xs
    rw [h1, h2, h3]
    rfl
  | x :: xs, i + 1, hi, y, h1, h2, h3 => by
    simp only [List.getElem_cons_succ] at h1 h2 h3
    have ih := row_set2 xs i (by simpa using hi) y h1 h2 h3
    rw [List.set_cons_succ, row_cons, row_cons, ← ih]
    have e1 : (i + 1) * 2 + 1 = (i * 2 + 1) + 2 := by omega
    have e2 : (i + 1) * 2 + 1 + 1 = (i * 2 + 1 + 1) + 2 := by omega
    rw [e2, e1]
    rfl

theorem set_cells {w : World} {b : Nat} {g n c' : Nat} {xs : List Rk} {i : Nat} {y : Rk} (h : Ow rkS 77 w b (.slice (some ⟨g, 0, none⟩) n c') (xs.set i y)) (hi : i < xs.length) : w.cell? ⟨g, i * 2, none⟩ = some (.slice y.aL y.ls.length y.cL) ∧ w.cell? ⟨g, i * 2 + 1, none⟩ = some (.slice y.aR y.us.length y.cR) ∧ w.frozen? ⟨g, i * 2 + 1, none⟩ = false := by
  obtain ⟨ao, cap, e, _, _, _⟩ := h.shape
  injection e with e1 e2 e3
  subst e1 e2 e3
  have ho : w.ownsRow b 77 2 (.slice (some ⟨g, 0, none⟩) (xs.set i y).length c') (xs.set i y).length (rkS.row (xs.set i y)) := h
  have hl : (rkS.row (xs.set i y)).length = (xs.set i y).length * 2 := row_length _
  have hi2 : i < (xs.set i y).length := by rw [List.length_set]; exact hi
  have e : (xs.set i y)[i] = y := List.getElem_set_self hi2
  have c0 : (rkS.row (xs.set i y))[i * 2 + 0]? = (kcell (xs.set i y)[i])[0]? := row_get _ i hi2 0 (by decide)
  have c1 : (rkS.row (xs.set i y))[i * 2 + 1]? = (kcell (xs.set i y)[i])[1]? := row_get _ i hi2 1 (by decide)
  rw [e] at c0 c1
  refine ⟨?_, ?_, ho.frozenAt _⟩
  · rw [ho.cellAt (i * 2) (by omega)]; exact c0
  · rw [ho.cellAt (i * 2 + 1) (by omega)]; exact c1
theorem set_row {w : World} {b : Nat} {g n c' : Nat} {xs : List Rk} {i : Nat} {y y' : Rk} (h : Ow rkS 77 w b (.slice (some ⟨g, 0, none⟩) n c') (xs.set i y)) (hi : i < xs.length) (h1 : y'.aL = y.aL) (h2 : y'.ls = y.ls) (h3 : y'.cL = y.cL) : Ow rkS 77 (w.setCell ⟨g, i * 2 + 1, none⟩ (.slice y'.aR y'.us.length y'.cR)) b (.slice (some ⟨g, 0, none⟩) n c') (xs.set i y') := by
  obtain ⟨ao, cap, e, _, _, _⟩ := h.shape
  injection e with e1 e2 e3
  subst e1 e2 e3
  have hi2 : i < (xs.set i y).length := by rw [List.length_set]; exact hi
  have hl : (rkS.row (xs.set i y)).length = (xs.set i y).length * 2 := row_length _
  have e : (xs.set i y)[i] = y := List.getElem_set_self hi2
  have ho : w.ownsRow b 77 2 (.slice (some ⟨g, 0, none⟩) (xs.set i y).length c') (xs.set i y).length (rkS.row (xs.set i y)) := h
  have r := (own_setCells [.slice y'.aR y'.us.length y'.cR] (i * 2 + 1) w _ ho (by simp only [List.length_singleton]; omega)).1
  have hr := row_set2 (xs.set i y) i hi2 y' (by rw [e]; exact h1) (by rw [e]; exact h2) (by rw [e]; exact h3)
  simp only [List.length_singleton] at r
  rw [hr, List.set_set] at r
  have hll : (xs.set i y').length = (xs.set i y).length := by rw [List.length_set, List.length_set]
  unfold Ow
  rw [hll]
  exact r

theorem L2.set {w w' : World} {b : Nat} {cl : List Uc} {g n c' : Nat} {xs : List Rk} {i : Nat} {us : List Ut} {aR : Option Addr} {cR : Nat} (h : L2 w b cl (.slice (some ⟨g, 0, none⟩) n c') xs) (hi : i < xs.length) {x : Rk} (hx : xs[i] = x) (k : Kept (fun z => z ≠ g) w w') (hW : Ow rkS 77 w' b (.slice (some ⟨g, 0, none⟩) n c') (xs.set i ⟨x.ls, us, x.aL, x.cL, aR, cR⟩)) (hU : Ow recN 48 w' b (.slice aR us.length cR) us) (hG : ∀ p ∈ us, Its w' b (.slice p.2.1 p.1.gs.length p.2.2) p.1.gs) : L2 w' b cl (.slice (some ⟨g, 0, none⟩) n c') (xs.set i ⟨x.ls, us, x.aL, x.cL, aR, cR⟩) := by
  have hm : x ∈ xs := by rw [← hx]; exact List.getElem_mem hi
  have lo : ∀ y ∈ xs, Lo 80 w' b (.slice y.aL y.ls.length y.cL) y.ls := fun y hy => (h.lo y hy).kept k (fun z hz e => own_two (h.lo y hy) h.ow (by decide) z hz (by rw [e]; rfl))
  refine ⟨hW, fun y hy => ?_, fun y hy => ?_, fun y hy p hp => ?_, fun y hy => ?_, fun j h1 h2 => ?_⟩
  · rcases List.mem_or_eq_of_mem_set hy with q | rfl
    · exact lo y q
    · exact lo x hm
  · rcases List.mem_or_eq_of_mem_set hy with q | rfl
    · exact (h.ru y q).kept k (fun z hz e => own_two (h.ru y q) h.ow (by decide) z hz (by rw [e]; rfl))
    · exact hU
  · rcases List.mem_or_eq_of_mem_set hy with q | rfl
    · exact (h.gs y q p hp).kept k (fun z hz e => own_two (h.gs y q p hp) h.ow (by decide) z hz (by rw [e]; rfl))
    · exact hG p hp
  · rcases List.mem_or_eq_of_mem_set hy with q | rfl
    · exact h.few y q
    · exact h.few x hm
  · rw [List.length_set] at h1
    obtain ⟨z, hz⟩ := h.dec j h1 h2
    refine ⟨z, ?_⟩
    by_cases e : i = j
    · subst e
      rw [List.getElem_set_self]
      rw [hx] at hz
      exact hz
    · rw [List.getElem_set_ne e]
      exact hz

theorem L2.view {w : World} {b : Nat} {cl : List Uc} {a' : Option Addr} {n c' : Nat} {xs : List Rk} (h : L2 w b cl (.slice a' n c') xs) : Rkv w a' xs := ⟨h.ow.view, fun x hx => (h.lo x hx).view, fun x hx => (h.ru x hx).view, fun x hx p hp => (h.gs x hx p hp).gv⟩
theorem red_len {x : Rk} (h : Red x) : x.us.length = x.ls.length := by
  have := congrArg List.length h
  rw [List.length_map, List.length_map, txs_length] at this
  exact this.symm
theorem red_few {x : Rk} (h : Red x) : ∀ p ∈ x.us, p.1.gs.length ≤ 1000 := fun p hp => by
  have h1 : some p.1 ∈ x.us.map (fun p => some p.1) := List.mem_map_of_mem (f := fun p : Ut => some p.1) hp
  have h2 : some p.1 ∈ (txs x.ls).map rec? := by rw [show (txs x.ls).map rec? = _ from h]; exact h1
  obtain ⟨t, _, e⟩ := List.mem_map.1 h2
  have := (rec_okr e).2.2
  omega
theorem breaks_all {w : World} {al ak : Option Addr} {c0 ck : Nat} {cl : List Uc} {xs : List Rk} (hcv : Cv w al cl) (h : Rkv w ak xs) (hlen : xs.length = cl.length) (hn : cl.length ≤ 200) (hfew : ∀ x ∈ xs, x.ls.length ≤ 4096) (hred : ∀ x ∈ xs, Red x) (r : Nat) (h3 : 3 ≤ r) (h7 : r ≤ 7) (i : Nat) (hi : i < xs.length) :
    Calls Try.prog 36 #[.slice al cl.length c0, .slice ak cl.length ck, .int .i64 (r : Nat), .int .i64 i] w fun e w' => (∃ z, e = .returned (.int .i64 z) ∧ RR cl xs r i z) ∧ Kept (fun _ => True) w w' := by
  have hus : ∀ x ∈ xs, x.us.length ≤ 4096 := fun x hx => by rw [red_len (hred x hx)]; exact hfew x hx
  have hui := hus _ (List.getElem_mem hi)
  have hsz : ∀ q (hq : q < xs[i].us.length), xs.length ≤ 1000 ∧ (∀ x ∈ xs, x.us.length ≤ 100000) ∧ (xs[i].us[q]).1.gs.length ≤ 1000 := fun q hq => ⟨by omega, fun x hx => by have := hus x hx; omega, red_few (hred _ (List.getElem_mem hi)) _ (List.getElem_mem hq)⟩
  have key : ∀ P : Nat → Prop, ∀ e w', EBrk (Oc xs[i].us P) xs[i].us.length w e w' → (∃ z, e = .returned (.int .i64 z) ∧ BrkIs (Oc xs[i].us P) xs[i].us.length z) ∧ Kept (fun _ => True) w w' := fun P e w' h => h
  rcases (by omega : r = 3 ∨ r = 4 ∨ r = 5 ∨ r = 6 ∨ r = 7) with rfl | rfl | rfl | rfl | rfl
  · have c := breaks3_any (c0 := c0) (ck := ck) hcv h hlen.symm i hi hfew (by omega)
    rw [hlen] at c
    exact c.mono fun e w' ⟨⟨z, he, hz⟩, k⟩ => ⟨⟨z, he, hi, .inl ⟨rfl, hz⟩⟩, k⟩
  · have c := breaksR_any (v0 := .slice al cl.length c0) (ck := ck) h 4 (by decide) i hi hui (P4 xs[i].us) (fun W q hq hk _ => (wrong4_any (h.all hk) i q hi hq (by omega)).mono fun e w' ⟨he, hk'⟩ => ⟨_, he, ⟨fun hh => ⟨hq, hh⟩, fun ⟨_, hh⟩ => hh⟩, hk'⟩)
    rw [hlen] at c
    exact c.mono fun e w' ⟨⟨z, he, hz⟩, k⟩ => ⟨⟨z, he, hi, .inr (.inl ⟨rfl, hz⟩)⟩, k⟩
  · have c := breaksR_any (v0 := .slice al cl.length c0) (ck := ck) h 5 (by decide) i hi hui (P5 xs i) (fun W q hq hk _ => (wrong5_any (h.all hk) i q hi hq (by omega) (hsz q hq)).mono fun e w' ⟨z, he, hz, hk'⟩ => ⟨z, he, ⟨fun hh => ⟨hi, hq, hz.1 hh⟩, fun ⟨_, _, hh⟩ => hz.2 hh⟩, hk'⟩)
    rw [hlen] at c
    exact c.mono fun e w' ⟨⟨z, he, hz⟩, k⟩ => ⟨⟨z, he, hi, .inr (.inr (.inl ⟨rfl, hz⟩))⟩, k⟩
  · have c := breaksR_any (v0 := .slice al cl.length c0) (ck := ck) h 6 (by decide) i hi hui (P6 xs[i].us) (fun W q hq hk _ => (wrong6_any (h.all hk) i q hi hq (by omega)).mono fun e w' ⟨he, hk'⟩ => ⟨_, he, ⟨fun hh => ⟨hq, hh⟩, fun ⟨_, hh⟩ => hh⟩, hk'⟩)
    rw [hlen] at c
    exact c.mono fun e w' ⟨⟨z, he, hz⟩, k⟩ => ⟨⟨z, he, hi, .inr (.inr (.inr (.inl ⟨rfl, hz⟩)))⟩, k⟩
  · have c := breaksR_any (v0 := .slice al cl.length c0) (ck := ck) h 7 (by decide) i hi hui (P7 cl xs i) (fun W q hq hk _ => (wrong7_any (h.all hk) (hcv.all hk) i q hi hq (by omega) (by omega) (hsz q hq)).mono fun e w' ⟨z, he, hz, hk'⟩ => ⟨z, he, ⟨fun hh => ⟨hi, hq, by omega, hz.1 hh⟩, fun ⟨_, _, _, hh⟩ => hz.2 hh⟩, hk'⟩)
    rw [hlen] at c
    exact c.mono fun e w' ⟨⟨z, he, hz⟩, k⟩ => ⟨⟨z, he, hi, .inr (.inr (.inr (.inr ⟨rfl, hz⟩)))⟩, k⟩
theorem RR.low {cl : List Uc} {xs : List Rk} {r i : Nat} {z : Int} (h : RR cl xs r i z) : -1 ≤ z ∧ (0 ≤ z ∨ z = -1) := by
  have bl : ∀ (B : Nat → Prop) (n : Nat), BrkIs B n z → -1 ≤ z ∧ (0 ≤ z ∨ z = -1) := fun B n h => by
    rcases h with ⟨e, _⟩ | ⟨q, _, e, _⟩ <;> omega
  obtain ⟨_, ⟨_, b⟩ | ⟨_, b⟩ | ⟨_, b⟩ | ⟨_, b⟩ | ⟨_, b⟩⟩ := h
  · have := b.low
    omega
  all_goals exact bl _ _ b

set_option maxRecDepth 100000 in
set_option maxHeartbeats 4000000 in
theorem rverify_any {w : World} {al : Option Addr} {cap : Nat} {cl : List Uc} (h : Cv w al cl) (hn : cl.length ≤ 200) (hcap : ∀ c ∈ cl, (c.a = none → c.c = 0) ∧ c.bs.length ≤ c.c ∧ c.bs.length ≤ 2000000) :
    Calls Try.prog 11 #[.slice al cl.length cap] w fun e w' => RVer cl e ∧ Kept (fun _ => True) w w' := by
  have HC : Hid (Cv w al cl) := h
  have HCap : Hid (∀ c ∈ cl, (c.a = none → c.c = 0) ∧ c.bs.length ≤ c.c ∧ c.bs.length ≤ 2000000) := hcap
  clear h hcap
  go_enter Try.func11, Try.ntmps11
  go_wp2_with fail
  obtain ⟨w1, hw1⟩ : ∃ x, x = w.alloc (.cells #[.int .i64 0, .int .i64 0, .int .i64 0] 36) := ⟨_, rfl⟩
  have FZ1 : Hid (Bk w1 w.heap.size 36 [.int .i64 0, .int .i64 0, .int .i64 0]) := by rw [hw1]; exact heap_alloc_new w _
  have K1 : Hid (Kept (fun _ => True) w w1) := by rw [hw1]; exact (Kept.refl _ _).alloc _
  rw [← hw1]
  clear hw1
  obtain ⟨P, hP⟩ : ∃ P, P = w.heap.size := ⟨_, rfl⟩
  rw [← hP] at FZ1 ⊢
  have HP : Hid (P = w.heap.size) := hP
  clear hP
  go_loopw [4, 5] (fun v t wr => ∃ (k : Nat) (a' : Option Addr) (c' : Nat) (xs : List Rk), k ≤ cl.length ∧ t = .int .i64 k ∧ v = .slice a' k c' ∧ xs.length = k ∧ L1 wr w.heap.size cl (.slice a' k c') xs ∧ Bk wr P 36 [.int .i64 0, .int .i64 0, .int .i64 0] ∧ Kept (fun _ => True) w wr) (fun _ t _ => cl.length - (intOf t).toNat)
  case atStart => exact ⟨0, none, 0, [], Nat.zero_le _, rfl, rfl, rfl, ⟨Ow.nil _ _ _, fun x hx => by simp at hx, fun x hx => by simp at hx, fun x hx => by simp at hx, fun i h => by simp at h⟩, FZ1.out, K1.out⟩
  case round =>
    obtain ⟨k, a', c', xs, hk, rfl, rfl, hxl, hL, hF, hkr⟩ := hrel
    obtain ⟨wB, hwB⟩ : ∃ x, x = wr := ⟨_, rfl⟩
    rw [← hwB] at hL hF hkr ⊢
    clear hwB
    have HL : Hid (L1 wB w.heap.size cl (.slice a' k c') xs) := hL
    have HF : Hid (Bk wB P 36 [.int .i64 0, .int .i64 0, .int .i64 0]) := hF
    have HK : Hid (Kept (fun _ => True) w wB) := hkr
    have HXL : Hid (xs.length = k) := hxl
    clear hL hF hxl
    by_cases hlt : k < cl.length
    · have HCr : Hid (Cv wB al cl) := HC.out.all hkr
      obtain ⟨gb0, go, rfl, hgb, hgr⟩ := HCr.out.vw.row (by omega)
      have hr := hgr k hlt
      have m1 : wB.cell? ⟨gb0, go + k * 2 + 1, none⟩ = some (.slice cl[k].a cl[k].bs.length cl[k].c) := hr 1 _ rfl
      have hhas := HCr.out.has _ (List.getElem_mem hlt)
      obtain ⟨hq1, hq2, hq3⟩ := HCap.out _ (List.getElem_mem hlt)
      have HI : Hid (k < cl.length) := hlt
      have HCc : Hid (cl[k]? = some cl[k]) := List.getElem?_eq_getElem hlt
      have i0 : (0 : Int) ≤ (k : Int) := by omega
      have i1 : (k : Int) < (cl.length : Int) := by omega
      generalize cl[k] = c at *
      have cd := rdecode_any (cap := c.c) hhas hq1 hq2 hq3
      clear hr hgr hk hkr HCr hhas hq1 hq2 hq3 hlt
      go_upto_region 6 with (go_at_call 35; (with_reducible refine Calls.mono cd ?_); rintro e w3 ⟨ls, y, z, a3, c3, rfl, hdc, ho, k3⟩; have HDC : Hid (IsDec c.bs ls y z) := hdc; have K3 : Hid (Kept (fun _ => True) wB w3) := k3; have HO : Hid (Lo 80 w3 wB.heap.size (.slice a3 ls.length c3) ls) := ho; clear hdc ho k3 cd m1)
      by_cases hy : y = 0
      · subst hy
        have HY : Hid (IsDec c.bs ls 0 z) := HDC.out
        have HOw : Hid (Ow rkS 77 wB w.heap.size (.slice a' k c') xs) := HL.out.ow
        go_wp2_with (at_builtin; refine wpList_append_one (x := (⟨ls, [], a3, c3, none, 0⟩ : Rk)) rkTy rfl (.tmp 37) (.tmp 40) rfl w.heap.size (.slice a' k c') xs rfl (HOw.out.all (K3.out.alloc _)) (Nat.le_trans HK.out.size (K3.out.alloc _).size) w3.heap.size rfl (0, 0) (heap_alloc_new w3 _) (by have := HXL.out; have := HI.out; omega) (k + 1) (by rw [HXL.out]) ?_; intro a7 c7 w7 ho7 hg7 at7; have K37 : Hid (Kept (fun y => (Value.slice a' k c').ownBlock ≠ some y) w3 w7) := ((Kept.refl _ _).alloc _).grown hg7 (fun _ _ e h => h e); have HO7 : Hid (Ow rkS 77 w7 w.heap.size (.slice a7 (k + 1) c7) (xs ++ [⟨ls, [], a3, c3, none, 0⟩])) := ho7; clear ho7 hg7 at7)
        go_roundw
        case rel =>
          have hb := HK.out.size
          have KB7 : Kept (fun y => (Value.slice a' k c').ownBlock ≠ some y) wB w7 := (K3.out.mono (fun _ _ _ => trivial)).trans K37.out
          refine ⟨k + 1, a7, c7, xs ++ [⟨ls, [], a3, c3, none, 0⟩], by have := HI.out; omega, by go_num, rfl, by simp [HXL.out], HL.out.snoc HO7.out KB7 ?_ HY.out.few.1 ⟨rfl, rfl, rfl⟩ (fun h2 => ⟨z, ?_⟩), (HF.out.kept K3.out trivial).kept K37.out (HOw.out.ne HF.out (by decide)), HK.out.then KB7 (fun i hi _ e => by have := HOw.out.ge e; omega)⟩
          · exact (HO.out.kept K37.out (fun i hi e => by have h1 := HO.out.ge hi; have h2 := HOw.out.lt e; omega)).low hb
          · have e : cl[xs.length]? = some c := by rw [HXL.out]; exact HCc.out
            rw [(List.getElem_eq_iff h2).2 e]
            exact HY.out
        case measure => have := HI.out; simp [intOf]; omega
      · have hy2 : (y != 0) = true := by simpa using hy
        have F9 := HF.out.kept K3.out trivial
        obtain ⟨z0, z1, z2⟩ := F9.three
        have zf := F9.free
        go_wp2_with fail
        refine bodyPost_ret (results_cu rfl _ _ rfl (load_faultR (((F9.set 0 _).set 1 _).set 2 _))) rfl ⟨.inl ⟨k, HI.out, ls, y, z, by rw [(List.getElem_eq_iff HI.out).2 HCc.out]; exact HDC.out, hy, fun i h hik => ?_, rfl⟩, ?_⟩
        · obtain ⟨z', h'⟩ := HL.out.dec i (by have := HXL.out; omega) h
          exact ⟨_, z', h'⟩
        · exact kept_fresh (kept_fresh (kept_fresh (HK.out.trans K3.out) (by rw [← HP.out]; exact Nat.le_refl _) _) (by rw [← HP.out]; exact Nat.le_refl _) _) (by rw [← HP.out]; exact Nat.le_refl _) _
    · obtain rfl : k = cl.length := by omega
      have i1 : ¬ ((cl.length : Nat) : Int) < (cl.length : Int) := by omega
      have HL2 : Hid (L2 wB w.heap.size cl (.slice a' cl.length c') xs) := HL.out.two
      have HS0 : Hid (St xs 0) := ⟨fun j _ h => by omega, fun j h _ => HL.out.nil _ (List.getElem_mem h)⟩
      clear HL hk hkr hlt
      go_wp2_with fail
      go_loopw [9] (fun t wr => ∃ (i : Nat) (xs : List Rk), i ≤ cl.length ∧ t = .int .i64 i ∧ xs.length = cl.length ∧ L2 wr w.heap.size cl (.slice a' cl.length c') xs ∧ St xs i ∧ Bk wr P 36 [.int .i64 0, .int .i64 0, .int .i64 0] ∧ Kept (fun _ => True) w wr) (fun t _ => cl.length - (intOf t).toNat)
      case atStart => exact ⟨0, xs, Nat.zero_le _, rfl, HXL.out, HL2.out, HS0.out, HF.out, HK.out⟩
      case round =>
        clear HL2 HS0 HF HK HXL
        clear xs
        obtain ⟨i, xs, hi, rfl, hxl, hL, hS, hF, hkr⟩ := hrel
        obtain ⟨wI, hwI⟩ : ∃ x, x = wr := ⟨_, rfl⟩
        rw [← hwI] at hL hF hkr ⊢
        clear hwI
        have HL : Hid (L2 wI w.heap.size cl (.slice a' cl.length c') xs) := hL
        have HF : Hid (Bk wI P 36 [.int .i64 0, .int .i64 0, .int .i64 0]) := hF
        have HK : Hid (Kept (fun _ => True) w wI) := hkr
        have HXL : Hid (xs.length = cl.length) := hxl
        have HS : Hid (St xs i) := hS
        clear hL hF hS hkr
        by_cases hlt : i < cl.length
        · have hix : i < xs.length := by omega
          have HI : Hid (i < cl.length) := hlt
          have HIX : Hid (i < xs.length) := hix
          have i0 : (0 : Int) ≤ (i : Int) := by omega
          have i1 : (i : Int) < (cl.length : Int) := by omega
          obtain ⟨g, rfl, _, _, _, hgl⟩ := HL.out.cells i hix
          have HGI : Hid (g < wI.heap.size) := hgl
          obtain ⟨x, hx⟩ : ∃ x, x = xs[i]'hix := ⟨_, rfl⟩
          have HX : Hid (∀ h : i < xs.length, xs[i] = x) := fun _ => hx.symm
          have HXM : Hid (x ∈ xs) := by rw [hx]; exact List.getElem_mem hix
          have HXU : Hid (x.us = [] ∧ x.aR = none ∧ x.cR = 0) := by rw [hx]; exact HS.out.aft i hix (Nat.le_refl _)
          have HFW : Hid (x.ls.length ≤ 4096 ∧ ∀ l ∈ x.ls, l.t.length ≤ 4000) := by
            obtain ⟨z, hz⟩ := HL.out.dec i hix hlt
            rw [hx]
            exact hz.few
          clear hx hxl hi hgl
          clear hlt
          go_wp2_with fail
          go_loopw [10] (fun t wr => ∃ (q : Nat) (us : List Ut) (aR : Option Addr) (cR : Nat), q ≤ x.ls.length ∧ t = .int .i64 q ∧ Ow rkS 77 wr w.heap.size (.slice (some ⟨g, 0, none⟩) cl.length c') (xs.set i ⟨x.ls, us, x.aL, x.cL, aR, cR⟩) ∧ Ow recN 48 wr wI.heap.size (.slice aR q cR) us ∧ (∀ p ∈ us, Its wr wI.heap.size (.slice p.2.1 p.1.gs.length p.2.2) p.1.gs) ∧ (txs (x.ls.take q)).map rec? = us.map (fun p => some p.1) ∧ us.length = q ∧ Kept (fun z => z ≠ g) wI wr) (fun t _ => 4096 - (intOf t).toNat)
          case atStart =>
            refine ⟨0, [], none, 0, Nat.zero_le _, rfl, ?_, Ow.nil _ _ _, (fun p hp => by cases hp), by simp [txs], rfl, Kept.refl _ _⟩
            have e : (⟨x.ls, [], x.aL, x.cL, none, 0⟩ : Rk) = xs[i]'HIX.out := by
              obtain ⟨e1, e2, e3⟩ := HXU.out
              rw [HX.out HIX.out, ← e1, ← e2, ← e3]
            rw [e, List.set_getElem_self]
            exact HL.out.ow
          case round =>
            obtain ⟨q, us, aR, cR, hq, rfl, hW, hU, hG, hR, hul, hki⟩ := hrel
            have HW : Hid (Ow rkS 77 wr w.heap.size (.slice (some ⟨g, 0, none⟩) cl.length c') (xs.set i ⟨x.ls, us, x.aL, x.cL, aR, cR⟩)) := hW
            have HUr : Hid (Ow recN 48 wr wI.heap.size (.slice aR q cR) us) := hU
            have HG : Hid (∀ p ∈ us, Its wr wI.heap.size (.slice p.2.1 p.1.gs.length p.2.2) p.1.gs) := hG
            have HR : Hid ((txs (x.ls.take q)).map rec? = us.map (fun p => some p.1)) := hR
            have HKI : Hid (Kept (fun z => z ≠ g) wI wr) := hki
            obtain ⟨c0, c1, cf⟩ := set_cells hW HIX.out
            simp only [hul] at c1
            have HUL : Hid (us.length = q) := hul
            have HC1 : Hid (wr.cell? ⟨g, i * 2 + 1, none⟩ = some (.slice aR q cR)) := c1
            have HGr : Hid (g < wr.heap.size) := Nat.lt_of_lt_of_le HGI.out hki.size
            clear hW hU hG hR hul
            have q0 : (0 : Int) ≤ (q : Int) := by omega
            by_cases hlt : q < x.ls.length
            · have q1 : (q : Int) < (x.ls.length : Int) := by omega
              have HQ : Hid (q < x.ls.length) := hlt
              have hq4 : q ≤ 4096 := by have := HFW.out.1; omega
              have hLo : Lo 80 wr w.heap.size (.slice x.aL x.ls.length x.cL) x.ls := (HL.out.lo x HXM.out).kept hki (fun k hk e => own_two (HL.out.lo x HXM.out) HL.out.ow (by decide) k hk (by rw [e]; rfl))
              obtain ⟨bL, oL, eL, hbL, hcL⟩ := hLo.view.row (by omega)
              rw [eL] at c0
              obtain ⟨t0, ht0⟩ : ∃ t0, t0 = x.ls[q].t := ⟨_, rfl⟩
              have c2 : wr.cell? ⟨bL, oL + q * 33, none⟩ = some (.string ⟨t0.toArray⟩) := by rw [ht0]; exact hcL q hlt 0 _ rfl
              have hsh : t0.length ≤ 4000 := by rw [ht0]; exact HFW.out.2 _ (List.getElem_mem hlt)
              have HT0 : Hid (x.ls[q]? = some x.ls[q] ∧ t0 = x.ls[q].t) := ⟨List.getElem?_eq_getElem hlt, ht0⟩
              have HTQ : Hid ((txs (x.ls.take (q + 1))).map rec? = (txs (x.ls.take q)).map rec? ++ [rec? t0]) := by
                show _ = _
                have e : txs (x.ls.take (q + 1)) = txs (x.ls.take q) ++ [t0] := by
                  rw [ht0, List.take_succ_eq_append_getElem hlt]
                  exact List.map_append
                rw [e, List.map_append]
                rfl
              have cr := rread_any (w := wr) (bs := t0) (by omega)
              clear hLo hcL ht0 hq hlt hki
              cases hr : rec? t0 with
              | none =>
                have cr2 : Calls Try.prog 18 #[.string ⟨t0.toArray⟩] wr fun e w' => e = .returned (.tuple #[.agg #[.int .i64 0, .string ⟨#[]⟩, .slice none 0 0, .string ⟨#[]⟩], .int .i64 12]) ∧ Kept (fun _ => True) wr w' := by
                  refine cr.mono ?_
                  rintro e w' ⟨⟨h, he⟩ | ⟨r, a, c, h, he, hi⟩, k⟩
                  · exact ⟨he, k⟩
                  · rw [hr] at h; cases h
                clear cr
                go_upto_region 16 with (go_at_call 18; (with_reducible refine Calls.mono cr2 ?_); rintro e w6 ⟨rfl, k6⟩)
                have HR0 : Hid (rec? t0 = none) := hr
                have hPg : P ≠ g := fun e => HL.out.ow.ne HF.out (by decide) (by rw [e]; rfl)
                have K67 : Kept (fun _ => True) wr (w6.alloc (.cells #[.int .i64 0, .string ⟨#[]⟩, .slice none 0 0, .string ⟨#[]⟩] 48)) := k6.alloc _
                have F9 := (HF.out.kept HKI.out hPg).kept K67 trivial
                obtain ⟨z0, z1, z2⟩ := F9.three
                have zf := F9.free
                clear c0 c1 c2 hr cr2
                go_wp2_with fail
                refine bodyPost_ret (results_cu rfl _ _ rfl (load_faultR (((F9.set 0 _).set 1 _).set 2 _))) rfl ⟨.inr (.inl ⟨xs, ⟨HXL.out, HL.out.dec⟩, i, q, HIX.out, by rw [HX.out HIX.out]; exact HQ.out, ?_, fun t ht => ?_, fun i' h hi' t ht => ?_, rfl⟩), ?_⟩
                · have h0 := HR0.out
                  rw [HT0.out.2] at h0
                  have hx := HX.out HIX.out
                  subst hx
                  exact h0
                · have e : (txs (xs[i]'HIX.out).ls).take q = txs (x.ls.take q) := by rw [HX.out HIX.out]; simp [txs, List.map_take]
                  rw [e] at ht
                  have h1 : rec? t ∈ (txs (x.ls.take q)).map rec? := List.mem_map_of_mem ht
                  rw [HR.out] at h1
                  obtain ⟨p, _, e⟩ := List.mem_map.1 h1
                  exact ⟨p.1, e.symm⟩
                · have h1 : rec? t ∈ (txs (xs[i']'h).ls).map rec? := List.mem_map_of_mem ht
                  rw [HS.out.bef i' h hi'] at h1
                  obtain ⟨p, _, e⟩ := List.mem_map.1 h1
                  exact ⟨p.1, e.symm⟩
                · exact kept_fresh (kept_fresh (kept_fresh ((HK.out.then HKI.out (fun z hz _ e => by have := HL.out.ow.ge (k := g) rfl; omega)).trans K67) (by rw [← HP.out]; exact Nat.le_refl _) _) (by rw [← HP.out]; exact Nat.le_refl _) _) (by rw [← HP.out]; exact Nat.le_refl _) _
              | some r =>
                have cr2 : Calls Try.prog 18 #[.string ⟨t0.toArray⟩] wr fun e w' => (∃ ar car, e = .returned (.tuple #[.agg #[.int .i64 (r.k : Nat), .string ⟨r.tx.toArray⟩, .slice ar r.gs.length car, .string ⟨r.bd.toArray⟩], .int .i64 0]) ∧ Its w' wr.heap.size (.slice ar r.gs.length car) r.gs) ∧ Kept (fun _ => True) wr w' := by
                  refine cr.mono ?_
                  rintro e w' ⟨⟨h, he⟩ | ⟨r', a, c, h, he, hi⟩, k⟩
                  · rw [hr] at h; cases h
                  · rw [hr] at h
                    cases h
                    exact ⟨⟨a, c, he, hi⟩, k⟩
                clear cr
                go_upto_region 16 with (go_at_call 18; (with_reducible refine Calls.mono cr2 ?_); rintro e w6 ⟨⟨ar, car, rfl, hIts⟩, k6⟩)
                have hReal : Kept (fun _ => True) wr (w6.alloc (.cells #[.int .i64 (r.k : Nat), .string ⟨r.tx.toArray⟩, .slice ar r.gs.length car, .string ⟨r.bd.toArray⟩] 48)) := k6.alloc _
                obtain ⟨R, hR⟩ : ∃ R, R = w6.heap.size := ⟨_, rfl⟩
                have hRb : Bk (w6.alloc (.cells #[.int .i64 (r.k : Nat), .string ⟨r.tx.toArray⟩, .slice ar r.gs.length car, .string ⟨r.bd.toArray⟩] 48)) R 48 (ncell (r, (ar, car))) := by rw [hR]; exact heap_alloc_new w6 _
                have hIt7 : Its (w6.alloc (.cells #[.int .i64 (r.k : Nat), .string ⟨r.tx.toArray⟩, .slice ar r.gs.length car, .string ⟨r.bd.toArray⟩] 48)) wr.heap.size (.slice ar r.gs.length car) r.gs := hIts.kept ((Kept.refl (fun _ => True) _).alloc _) (fun _ _ => trivial)
                rw [← hR]
                obtain ⟨w7, hw7⟩ : ∃ y, y = w6.alloc (.cells #[.int .i64 (r.k : Nat), .string ⟨r.tx.toArray⟩, .slice ar r.gs.length car, .string ⟨r.bd.toArray⟩] 48) := ⟨_, rfl⟩
                rw [← hw7] at hReal hRb hIt7 ⊢
                have hRge : wr.heap.size ≤ R := by rw [hR]; exact k6.size
                clear hw7 hR hIts k6 cr2 c0 c2
                obtain ⟨pr, hpr⟩ : ∃ pr : Ut, pr = (r, (ar, car)) := ⟨_, rfl⟩
                rw [← hpr] at hRb
                have HPR : Hid (pr = (r, (ar, car))) := hpr
                have hOR : (Value.slice aR q cR).ownBlock ≠ some R := fun e => by have := HUr.out.lt e; omega
                have hOg : (Value.slice aR q cR).ownBlock ≠ some g := fun e => own_two HUr.out HW.out (by decide) g e rfl
                have HR7 : Hid (rec? t0 = some r) := hr
                have HK7 : Hid (Kept (fun _ => True) wr w7) := hReal
                have HRR : Hid (w7.rangeAt R 0 (ncell pr)) := fun j u hu => by rw [Nat.zero_add]; exact cell_of_row _ _ _ _ _ _ hRb ▸ (by simpa using hu)
                have HRl : Hid (R < w7.heap.size) := hRb.lt
                have HRn : Hid ((Value.slice aR q cR).ownBlock ≠ some R) := hOR
                have HGn : Hid ((Value.slice aR q cR).ownBlock ≠ some g) := hOg
                have HU : Hid (Ow recN 48 w7 wI.heap.size (.slice aR q cR) us) := HUr.out.all hReal
                have HI7 : Hid (wI.heap.size ≤ w7.heap.size) := Nat.le_trans HKI.out.size hReal.size
                have HGl : Hid (g < w7.heap.size) := Nat.lt_of_lt_of_le HGr.out hReal.size
                have HNU : Hid (us.length = q ∧ q ≤ 4096) := ⟨HUL.out, by have := HQ.out; have := HFW.out.1; omega⟩
                have HFr : Hid (w7.frozen? ⟨g, i * 2 + 1, none⟩ = false) := (kept_frozen hReal HGr.out trivial).trans cf
                have ct1 : ∀ W, Kept (fun z => (Value.slice aR q cR).ownBlock ≠ some z) w7 W → W.cell? ⟨g, i * 2 + 1, none⟩ = some (.slice aR q cR) := fun W hW => (kept_cell hW HGl.out HGn.out).trans ((kept_cell hReal HGr.out trivial).trans HC1.out)
                have HIt7 : Hid (Its w7 wr.heap.size (.slice ar r.gs.length car) r.gs) := hIt7
                have ir : (Try.prog.info? 48).map (·.size) = some (ncell pr).length := by kernel_rfl
                clear hr hReal hRb hIt7 hRge hOR hOg c1 cf hpr
                go_wp2_with fail
                refine Gz.begin (fun W => Kept (fun z => (Value.slice aR q cR).ownBlock ≠ some z) w7 W) (fun i => decide (i = 12)) (by kernel_rfl) ?_
                refine Gz.tkT (i := 0) (oi := ⟨some 76, .move (.tmp 4), 71, _, _, none⟩) (v := ?_) rfl (by kernel_rfl) (fun _ _ _ h => h) (Or.inl ⟨by rfl, ?hy0⟩) (Kept.refl _ _).drew ?_
                case hy0 => (intro W hS; (try dsimp only at hS); go_simp; try with_reducible rfl)
                try simp only [Act.put, lyA, ly0, ly1]
                refine Gz.tkT (i := 1) (oi := ⟨some 77, .move (.tmp 9), 3, _, _, none⟩) (v := ?_) rfl (by kernel_rfl) (fun _ _ _ h => h) (Or.inl ⟨by rfl, ?hy1⟩) (Kept.refl _ _).drew ?_
                case hy1 => (intro W hS; (try dsimp only at hS); go_simp; try with_reducible rfl)
                try simp only [Act.put, lyA, ly0, ly1]
                refine Gz.tkT (i := 2) (oi := ⟨some 78, .move (.tmp 4), 71, _, _, none⟩) (v := ?_) rfl (by kernel_rfl) (fun _ _ _ h => h) (Or.inl ⟨by rfl, ?hy2⟩) (Kept.refl _ _).drew ?_
                case hy2 => (intro W hS; (try dsimp only at hS); go_simp; try with_reducible rfl)
                try simp only [Act.put, lyA, ly0, ly1]
                refine Gz.tkT (i := 3) (oi := ⟨some 79, .move (.tmp 9), 3, _, _, none⟩) (v := ?_) rfl (by kernel_rfl) (fun _ _ _ h => h) (Or.inl ⟨by rfl, ?hy3⟩) (Kept.refl _ _).drew ?_
                case hy3 => (intro W hS; (try dsimp only at hS); go_simp; try with_reducible rfl)
                try simp only [Act.put, lyA, ly0, ly1]
                refine Gz.tkT (i := 4) (oi := ⟨some 80, .indexAddr 71 (.tmp 78) (.tmp 79), 0, _, _, none⟩) (v := ?_) rfl (by kernel_rfl) (fun _ _ _ h => h) (Or.inl ⟨by rfl, ?hy4⟩) (Kept.refl _ _).drew ?_
                case hy4 => (intro W hS; (try dsimp only at hS); go_simp; try with_reducible rfl)
                try simp only [Act.put, lyA, ly0, ly1]
                refine Gz.tkT (i := 5) (oi := ⟨some 81, .fieldAddr 77 (.tmp 80) 1, 0, _, _, none⟩) (v := ?_) rfl (by kernel_rfl) (fun _ _ _ h => h) (Or.inl ⟨by rfl, ?hy5⟩) (Kept.refl _ _).drew ?_
                case hy5 => (intro W hS; (try dsimp only at hS); go_simp; try with_reducible rfl)
                try simp only [Act.put, lyA, ly0, ly1]
                refine Gz.tkT (i := 6) (oi := ⟨some 82, .load 75 (.tmp 81), 75, _, _, none⟩) (v := ?_) rfl (by kernel_rfl) (fun _ _ _ h => h) (Or.inl ⟨by rfl, ?hy6⟩) (Kept.refl _ _).drew ?_
                case hy6 => (intro W hS; (try dsimp only at hS); go_simp; try with_reducible rfl)
                try simp only [Act.put, lyA, ly0, ly1]
                refine Gz.tkT (i := 7) (oi := ⟨some 83, .load 48 (.tmp 11), 48, _, _, none⟩) (v := _) rfl (by kernel_rfl) (fun _ _ _ h => h) (yieldsIf_load_mid (by rfl) _ _ rfl (R) (0) rfl (ncell pr) _ (fun W hW => range_kept HRR.out hW HRl.out HRn.out) Try.underlying48 rfl (ir)) (Kept.refl _ _).drew ?_
                try simp only [Act.put, lyA, ly0, ly1]
                refine Gz.one (i := 8) (o := ⟨some 84, .buildSlice 75 1 #[(0, .tmp 83)], 75, _, _, none⟩) (by kernel_rfl) rfl (fun K hK => ?_)
                go_simp
                refine hK.out _ _ (fun _ => (Kept.refl _ _).drew.alloc _) ?_
                clear hK K
                try simp only [Act.put, lyA, ly0, ly1]
                refine Gz.one (i := 9) (o := ⟨some 85, .call { callee := .builtin Builtin.append, args := #[.tmp 82, .tmp 84], argTypes := #[75, 75] }, 75, _, _, none⟩) (by kernel_rfl) rfl (fun K hK => ?_)
                refine step_append_one (x := pr) recNTy rfl (.tmp 82) (.tmp 84) rfl wI.heap.size (.slice aR q cR) us rfl (HU.out.all ((Kept.refl _ _).drew.alloc _)) (Nat.le_trans HI7.out ((Kept.refl (fun _ => True) w7).drew.alloc _).size) w7.drew.heap.size rfl (0, 0) (heap_alloc_new w7.drew _) (by have := HNU.out; omega) (q + 1) (by rw [HNU.out.1]) ?_
                intro a8 c8 w8 ho8 hg8 at8
                have k8 : Kept (fun z => (Value.slice aR q cR).ownBlock ≠ some z) w7 w8 := ((Kept.refl _ _).drew.alloc _).grown hg8 (fun _ _ e h => h e)
                have HU8 : Hid (Ow recN 48 w8 wI.heap.size (.slice a8 (q + 1) c8) (us ++ [pr])) := ho8
                have K8 : Hid (Kept (fun z => (Value.slice aR q cR).ownBlock ≠ some z) w7 w8) := k8
                have g8 := (kept_cell k8 HGl.out HGn.out).trans (ct1 w7 (Kept.refl _ _))
                have f8 := (kept_frozen k8 HGl.out HGn.out).trans HFr.out
                clear ho8 hg8 at8
                refine hK.out _ _ (fun _ => k8) ?_
                clear hK K
                try simp only [Act.put, lyA, ly0, ly1]
                refine Gz.tkT (i := 10) (oi := ⟨some 86, .indexAddr 71 (.tmp 76) (.tmp 77), 0, _, _, none⟩) (v := ?_) rfl (by kernel_rfl) (fun _ _ _ h => h) (Or.inl ⟨by rfl, ?hy10⟩) k8 ?_
                case hy10 => (intro W hS; (try dsimp only at hS); go_simp; try with_reducible rfl)
                try simp only [Act.put, lyA, ly0, ly1]
                refine Gz.tkT (i := 11) (oi := ⟨some 87, .fieldAddr 77 (.tmp 86) 1, 0, _, _, none⟩) (v := ?_) rfl (by kernel_rfl) (fun _ _ _ h => h) (Or.inl ⟨by rfl, ?hy11⟩) k8 ?_
                case hy11 => (intro W hS; (try dsimp only at hS); go_simp; try with_reducible rfl)
                try simp only [Act.put, lyA, ly0, ly1]
                refine Gz.one (i := 12) (o := ⟨none, .store 75 (.tmp 87) (.tmp 85), 0, _, _, none⟩) (by kernel_rfl) rfl (fun K hK => ?_)
                go_simp
                refine hK.out _ _ (fun hEarly => by cases hEarly) ?_
                clear hK K
                try simp only [Act.put, lyA, ly0, ly1]
                refine Gz.done (by kernel_rfl) ?_ _
                have HW8 : Hid (Ow rkS 77 w8 w.heap.size (.slice (some ⟨g, 0, none⟩) cl.length c') (xs.set i ⟨x.ls, us, x.aL, x.cL, aR, cR⟩)) := (HW.out.all HK7.out).kept K8.out (fun y hy => by
                  have e : g = y := by simpa [Value.ownBlock] using hy
                  rw [← e]
                  exact HGn.out)
                have HW9 : Hid (Ow rkS 77 (w8.setCell ⟨g, i * 2 + 1, none⟩ (.slice a8 (q + 1) c8)) w.heap.size (.slice (some ⟨g, 0, none⟩) cl.length c') (xs.set i ⟨x.ls, us ++ [pr], x.aL, x.cL, a8, c8⟩)) := by
                  have := set_row (y' := ⟨x.ls, us ++ [pr], x.aL, x.cL, a8, c8⟩) HW8.out HIX.out rfl rfl rfl
                  have e : (us ++ [pr]).length = q + 1 := by rw [List.length_append, HUL.out]; rfl
                  simp only [e] at this
                  exact this
                have hN8 : (Value.slice a8 (q + 1) c8).ownBlock ≠ some g := fun e => own_two HU8.out HW8.out (by decide) g e rfl
                have HU9 : Hid (Ow recN 48 (w8.setCell ⟨g, i * 2 + 1, none⟩ (.slice a8 (q + 1) c8)) wI.heap.size (.slice a8 (q + 1) c8) (us ++ [pr])) := ownsRow_setCell_other HU8.out (a := ⟨g, i * 2 + 1, none⟩) hN8 _
                have k79 : Kept (fun z => (Value.slice aR q cR).ownBlock ≠ some z ∧ z ≠ g) w7 (w8.setCell ⟨g, i * 2 + 1, none⟩ (.slice a8 (q + 1) c8)) := (K8.out.mono (fun _ _ h => h.1)).setCell (ad := ⟨g, i * 2 + 1, none⟩) (by simp) _
                have K79 : Hid (Kept (fun z => (Value.slice aR q cR).ownBlock ≠ some z ∧ z ≠ g) w7 (w8.setCell ⟨g, i * 2 + 1, none⟩ (.slice a8 (q + 1) c8))) := k79
                clear hN8 k79 k8 g8 f8 ct1 ir
                generalize w8.setCell ⟨g, i * 2 + 1, none⟩ (.slice a8 (q + 1) c8) = w9 at *
                go_wp2_with fail
                go_roundw
                case rel =>
                  refine ⟨q + 1, us ++ [pr], a8, c8, by have := HQ.out; omega, by go_num, HW9.out, HU9.out, fun p hp => ?_, ?_, by rw [List.length_append, HUL.out]; rfl, HKI.out.then ((HK7.out.mono (fun _ _ _ => trivial)).trans K79.out) (fun z hz hp => ⟨fun e => by have := HUr.out.ge e; omega, hp⟩)⟩
                  · have far : ∀ p : Ut, Its w7 wI.heap.size (.slice p.2.1 p.1.gs.length p.2.2) p.1.gs → Its w9 wI.heap.size (.slice p.2.1 p.1.gs.length p.2.2) p.1.gs := fun p hI => hI.kept K79.out (fun z hz => ⟨fun e => own_two hI HU.out (by decide) z hz e, fun e => own_two hI (HW.out.all HK7.out) (by decide) z hz (by rw [e]; rfl)⟩)
                    rcases List.mem_append.1 hp with h1 | h1
                    · exact far p ((HG.out p h1).kept HK7.out (fun _ _ => trivial))
                    · rw [List.mem_singleton.1 h1, HPR.out]
                      have := far pr (by rw [HPR.out]; exact World.ownsRow.mono HIt7.out HKI.out.size)
                      rwa [HPR.out] at this
                  · rw [HTQ.out, HR.out, HR7.out, List.map_append, HPR.out]
                    rfl
                case measure => have := HQ.out; have := HFW.out.1; simp [intOf]; omega
            · obtain rfl : q = x.ls.length := by omega
              have q1 : ¬ ((x.ls.length : Nat) : Int) < (x.ls.length : Int) := by omega
              have hs4 : i ≤ 200 := by have := HI.out; omega
              clear hq hlt hki
              go_wp2_with fail
              go_roundw
              case rel =>
                refine ⟨i + 1, xs.set i ⟨x.ls, us, x.aL, x.cL, aR, cR⟩, by have := HI.out; omega, by go_num, by rw [List.length_set]; exact HXL.out, HL.out.set HIX.out (HX.out HIX.out) HKI.out HW.out (by have h0 := HUr.out; rw [← HUL.out] at h0; exact World.ownsRow.mono h0 HK.out.size) (fun p hp => World.ownsRow.mono (HG.out p hp) HK.out.size), ⟨fun j h hj => ?_, fun j h hj => ?_⟩, HF.out.kept HKI.out (fun e => HL.out.ow.ne HF.out (by decide) (by rw [e]; rfl)), HK.out.then HKI.out (fun z hz _ e => by have := HL.out.ow.ge (k := g) rfl; omega)⟩
                · have h' := h
                  rw [List.length_set] at h'
                  by_cases e : i = j
                  · subst e
                    rw [List.getElem_set_self]
                    have := HR.out
                    rw [List.take_length] at this
                    exact this
                  · rw [List.getElem_set_ne e]
                    exact HS.out.bef j h' (by omega)
                · have h' := h
                  rw [List.length_set] at h'
                  rw [List.getElem_set_ne (by omega)]
                  exact HS.out.aft j h' (by omega)
              case measure => have := HI.out; simp [intOf]; omega
        · obtain rfl : i = cl.length := by omega
          have i1 : ¬ ((cl.length : Nat) : Int) < (cl.length : Int) := by omega
          have HRd : Hid (∀ y ∈ xs, Red y) := fun y hy => by
            obtain ⟨j, hj, rfl⟩ := List.getElem_of_mem hy
            exact HS.out.bef j hj (by omega)
          have HV : Hid (Rkv wI a' xs) := HL.out.view
          have HFe : Hid (∀ y ∈ xs, y.ls.length ≤ 4096) := HL.out.few
          have HDc : Hid (Dcd cl xs) := ⟨HXL.out, HL.out.dec⟩
          have HC2 : Hid (Cv wI al cl) := HC.out.all HK.out
          clear HL HS hlt hi hxl
          go_wp2_with fail
          go_loopw [13] (fun t wr => ∃ r : Nat, 3 ≤ r ∧ r ≤ 8 ∧ t = .int .i64 r ∧ (∀ r' i', 3 ≤ r' → r' < r → i' < xs.length → RR cl xs r' i' (-1)) ∧ Kept (fun _ => True) wI wr) (fun t _ => 8 - (intOf t).toNat)
          case atStart => exact ⟨3, by omega, by omega, rfl, fun _ _ _ h => by omega, Kept.refl _ _⟩
          case round =>
            obtain ⟨r, h3, h8, rfl, hall, hkr⟩ := hrel
            obtain ⟨wQ, hwQ⟩ : ∃ y, y = wr := ⟨_, rfl⟩
            rw [← hwQ] at hkr ⊢
            clear hwQ
            have HAll : Hid (∀ r' i', 3 ≤ r' → r' < r → i' < xs.length → RR cl xs r' i' (-1)) := hall
            have HKQ : Hid (Kept (fun _ => True) wI wQ) := hkr
            clear hall hkr
            have r0 : (0 : Int) ≤ (r : Int) := by omega
            by_cases hlt : r ≤ 7
            · have r1 : (r : Int) ≤ 7 := by omega
              have HR37 : Hid (3 ≤ r ∧ r ≤ 7) := ⟨h3, hlt⟩
              clear h3 h8 hlt
              go_wp2_with fail
              go_loopw [14] (fun t wr => ∃ i : Nat, i ≤ cl.length ∧ t = .int .i64 i ∧ (∀ i', i' < i → RR cl xs r i' (-1)) ∧ Kept (fun _ => True) wQ wr) (fun t _ => cl.length - (intOf t).toNat)
              case atStart => exact ⟨0, Nat.zero_le _, rfl, fun _ h => by omega, Kept.refl _ _⟩
              case round =>
                obtain ⟨i, hi, rfl, hin, hkq⟩ := hrel
                obtain ⟨wS, hwS⟩ : ∃ y, y = wr := ⟨_, rfl⟩
                rw [← hwS] at hkq ⊢
                clear hwS
                have HIn : Hid (∀ i', i' < i → RR cl xs r i' (-1)) := hin
                have HKq : Hid (Kept (fun _ => True) wQ wS) := hkq
                have HKS : Hid (Kept (fun _ => True) wI wS) := HKQ.out.trans hkq
                clear hin hkq
                have q0 : (0 : Int) ≤ (i : Int) := by omega
                by_cases hlt : i < cl.length
                · have hix : i < xs.length := by have := HXL.out; omega
                  have cb := breaks_all (c0 := cap) (ck := c') (HC2.out.all HKS.out) (HV.out.all HKS.out) HXL.out hn HFe.out HRd.out r HR37.out.1 HR37.out.2 i hix
                  have q1 : (i : Int) < (cl.length : Int) := by omega
                  have HI : Hid (i < cl.length) := hlt
                  have HRr : Hid (r = r) := rfl
                  clear hix hi hlt
                  go_upto_region 26 with (go_at_call 36; (with_reducible refine Calls.mono cb ?_); rintro e w9 ⟨⟨z, rfl, hz⟩, k9⟩; have HZ : Hid (RR cl xs r i z) := hz; have K9 : Hid (Kept (fun _ => True) wS w9) := k9; clear hz k9 cb)
                  rcases HZ.out.low.2 with hz | hz
                  · have F9 := (HF.out.kept HKS.out trivial).kept K9.out trivial
                    obtain ⟨z0, z1, z2⟩ := F9.three
                    have zf := F9.free
                    go_wp2_with fail
                    refine bodyPost_ret (results_cu rfl _ _ rfl (load_faultR (((F9.set 0 _).set 1 _).set 2 _))) rfl ⟨.inr (.inr ⟨xs, HDc.out, HRd.out, .inr ⟨r, i, z, HR37.out.1, HR37.out.2, hz, HZ.out, HAll.out, HIn.out, rfl⟩⟩), ?_⟩
                    exact kept_fresh (kept_fresh (kept_fresh (HK.out.trans (HKS.out.trans K9.out)) (by rw [← HP.out]; exact Nat.le_refl _) _) (by rw [← HP.out]; exact Nat.le_refl _) _) (by rw [← HP.out]; exact Nat.le_refl _) _
                  · subst hz
                    go_wp2_with fail
                    go_roundw
                    case rel =>
                      refine ⟨i + 1, by have := HI.out; omega, by go_num, fun i' h1 => ?_, HKq.out.trans K9.out⟩
                      by_cases he : i' = i
                      · rw [he]; exact HZ.out
                      · exact HIn.out i' (by omega)
                    case measure => have := HI.out; simp [intOf]; omega
                · obtain rfl : i = cl.length := by omega
                  have q1 : ¬ ((cl.length : Nat) : Int) < (cl.length : Int) := by omega
                  clear hi hlt
                  go_wp2_with fail
                  go_roundw
                  case rel =>
                    refine ⟨r + 1, by have := HR37.out.1; omega, by have := HR37.out.2; omega, by go_num, fun r' i' h1 h2 h3 => ?_, HKS.out⟩
                    by_cases he : r' = r
                    · rw [he]; exact HIn.out i' (by have := HXL.out; omega)
                    · exact HAll.out r' i' h1 (by omega) h3
                  case measure => have := HR37.out.2; simp [intOf]; omega
            · obtain rfl : r = 8 := by omega
              have F9 := HF.out.kept HKQ.out trivial
              obtain ⟨z0, z1, z2⟩ := F9.three
              have zf := F9.free
              clear h3 h8 hlt
              go_wp2_with fail
              refine bodyPost_ret (results_cu rfl _ _ rfl (load_faultR (((F9.set 0 _).set 1 _).set 2 _))) rfl ⟨.inr (.inr ⟨xs, HDc.out, HRd.out, .inl ⟨fun r i h3 h7 hi => HAll.out r i h3 (by omega) hi, rfl⟩⟩), ?_⟩
              exact kept_fresh (kept_fresh (kept_fresh (HK.out.trans HKQ.out) (by rw [← HP.out]; exact Nat.le_refl _) _) (by rw [← HP.out]; exact Nat.le_refl _) _) (by rw [← HP.out]; exact Nat.le_refl _) _

end Go.Proofs.Ytmcaoimgmgjjiaa
