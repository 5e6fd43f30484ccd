/-
  Texts of the proofs, 17 of 52.
-/
import Derived.Test.YtmcaoimgmgjjiaaWF
import Derived.Test.YtmcaoimgmgjjiaaWI
import Derived.Test.YtmcaoimgmgjjiaaWO
import Derived.Test.YtmcaoimgmgjjiaaWP
import Derived.Deep.CutRange
namespace Go.Proofs.Ytmcaoimgmgjjiaa
open Go.RowKit Go.Maps Go.Sort

structure Up where
  g : Int
  ls : List Li
  y : Int
  z : Int
  es : List Uz
  lo : Int
structure Ua where
  a1 : Option Addr
  c1 : Nat
  a2 : Option Addr
  c2 : Nat
def pcell (p : Up) (q : Ua) : List Value := [.int .i64 p.g, .slice q.a1 p.ls.length q.c1, .int .i64 p.y, .int .i64 p.z, .slice q.a2 p.es.length q.c2, .int .i64 p.lo]
def Bk (w : World) (X : Nat) (t : TypeId) (cs : List Value) : Prop := w.heap[X]? = some (.cells cs.toArray t (0, 0))
section
variable {w w' : World} {X : Nat} {t : TypeId} {cs : List Value}
theorem Bk.lt (h : Bk w X t cs) : X < w.heap.size := lt_of_block h
theorem Bk.kept {p : Nat → Prop} (h : Bk w X t cs) (k : Kept p w w') (hp : p X) : Bk w' X t cs := (k.block X h.lt hp).trans h
theorem Bk.free (h : Bk w X t cs) (i : Nat) : w.frozen? ⟨X, i, none⟩ = false := by
  unfold Bk at h
  simp [World.frozen?, h]
theorem Bk.set (h : Bk w X t cs) (k : Nat) (u : Value) : Bk (w.setCell ⟨X, k, none⟩ u) X t (cs.set k u) := by
  have := uset_at h k u
  unfold Bk
  rw [this]
  simp
theorem Bk.six {a b c d e f : Value} (h : Bk w X t [a, b, c, d, e, f]) : w.cell? ⟨X, 0, none⟩ = some a ∧ w.cell? ⟨X, 1, none⟩ = some b ∧ w.cell? ⟨X, 2, none⟩ = some c ∧ w.cell? ⟨X, 3, none⟩ = some d ∧ w.cell? ⟨X, 4, none⟩ = some e ∧ w.cell? ⟨X, 5, none⟩ = some f :=
  ⟨cell_of_row _ _ 0 _ _ _ h, cell_of_row _ _ 1 _ _ _ h, cell_of_row _ _ 2 _ _ _ h, cell_of_row _ _ 3 _ _ _ h, cell_of_row _ _ 4 _ _ _ h, cell_of_row _ _ 5 _ _ _ h⟩
end
theorem alloc_old {w : World} {X : Nat} {o : Obj} (n : Obj) (h : w.heap[X]? = some o) : (w.alloc n).heap[X]? = some o := by
  have hlt : X < w.heap.size := by
    rcases Nat.lt_or_ge X w.heap.size with q | q
    · exact q
    · rw [Array.getElem?_eq_none q] at h; cases h
  exact ((Kept.refl (fun _ => True) w).alloc n).block X hlt trivial |>.trans h
theorem page_out {w : World} {Z : Nat} {t : TypeId} {z0 z1 z2 z3 z4 z5 : Value} (h : Bk w Z t [z0, z1, z2, z3, z4, z5]) (a b c d e f : Value) :
    Bk ((((((w.setCell ⟨Z, 0, none⟩ a).setCell ⟨Z, 1, none⟩ b).setCell ⟨Z, 2, none⟩ c).setCell ⟨Z, 3, none⟩ d).setCell ⟨Z, 4, none⟩ e).setCell ⟨Z, 5, none⟩ f) Z t [a, b, c, d, e, f] ∧
      Kept (· ≠ Z) w ((((((w.setCell ⟨Z, 0, none⟩ a).setCell ⟨Z, 1, none⟩ b).setCell ⟨Z, 2, none⟩ c).setCell ⟨Z, 3, none⟩ d).setCell ⟨Z, 4, none⟩ e).setCell ⟨Z, 5, none⟩ f) :=
  ⟨(((((h.set 0 a).set 1 b).set 2 c).set 3 d).set 4 e).set 5 f, ((((kept_set.trans kept_set).trans kept_set).trans kept_set).trans kept_set).trans kept_set⟩
theorem Ow.ne {α : Type} {S : Shp α} {e : TypeId} {w : World} {base : Nat} {v : Value} {xs : List α} (h : Ow S e w base v xs) {B : Nat} {cs : Array Value} {t : TypeId} {fr : Nat × Nat} (hB : w.heap[B]? = some (.cells cs t fr)) (ht : t ≠ e) : v.ownBlock ≠ some B := by
  intro q
  rcases h.2 with ⟨e1, _⟩ | ⟨g, cap, cur, e1, _, hg, _⟩
  · rw [e1] at q; cases q
  · rw [e1] at q
    cases q
    rw [hg] at hB
    injection hB with hB
    injection hB with _ h2
    exact ht h2.symm
theorem rec_short {bs : List UInt8} {r : Ur} (h : rec? bs = some r) : r.tx.length ≤ 4000 := by
  unfold rec? at h
  split at h
  · cases h
    have := text_len bs (rdK bs).2 4000
    show (rdX bs).1.length ≤ 4000
    unfold rdX
    omega
  · cases h
theorem Try.sizePage : (Try.prog.info? 116).map (·.size) = some 6 := by kernel_rfl
theorem results_page {fn : Func} {p : Nat} (h : fn.results = #[.cell p 116]) (tmps : Array Value) (w : World) {g : Nat} {a b c d e f : Value} {t : TypeId} (hp : tmps.getD p undef = .pointer (some ⟨g, 0, none⟩)) (hg : Bk w g t [a, b, c, d, e, f]) :
    (results fn tmps).run Try.prog w = .ok (.agg #[a, b, c, d, e, f]) w :=
  results_cell_row h tmps w g t #[a, b, c, d, e, f] _ _ hp hg Try.underlying116 rfl Try.sizePage
structure IsPg (g : Int) (bs : List UInt8) (p : Up) : Prop where
  grp : p.g = g
  dec : IsDec bs p.ls p.y p.z
  ent : p.es.map (·.1) = entG (txs p.ls) []
  lo : p.lo = 0
structure Pgv (w : World) (b : Nat) (p : Up) (q : Ua) : Prop where
  links : Lo 121 w b (.slice q.a1 p.ls.length q.c1) p.ls
  ents : Ow entS 124 w b (.slice q.a2 p.es.length q.c2) p.es
  grps : Eg w b p.es
theorem Pgv.kept {r : Nat → Prop} {w w' : World} {b : Nat} {p : Up} {q : Ua} (h : Pgv w b p q) (k : Kept r w w') (hr : ∀ x, b ≤ x → x < w.heap.size → (∃ t cs fr, w.heap[x]? = some (.cells cs t fr) ∧ (t = 121 ∨ t = 124 ∨ t = 3)) → r x) : Pgv w' b p q := by
  refine ⟨h.links.kept k (fun x hx => hr x (h.links.ge hx) (h.links.lt hx) ?_), h.ents.kept k (fun x hx => hr x (h.ents.ge hx) (h.ents.lt hx) ?_), h.grps.kept k (fun x h1 h2 ⟨cs, fr, h3⟩ => hr x h1 h2 ⟨_, cs, fr, h3, .inr (.inr rfl)⟩)⟩
  · rcases h.links.2 with ⟨e, _⟩ | ⟨g, cap, cur, e, _, hg, _⟩
    · rw [e] at hx; cases hx
    · rw [e] at hx; cases hx; exact ⟨_, _, _, hg, .inl rfl⟩
  · rcases h.ents.2 with ⟨e, _⟩ | ⟨g, cap, cur, e, _, hg, _⟩
    · rw [e] at hx; cases hx
    · rw [e] at hx; cases hx; exact ⟨_, _, _, hg, .inr (.inl rfl)⟩
theorem Pgv.all {w w' : World} {b : Nat} {p : Up} {q : Ua} (h : Pgv w b p q) (k : Kept (fun _ => True) w w') : Pgv w' b p q := h.kept k (fun _ _ _ _ => trivial)
def EOpen (g : Int) (bs : List UInt8) (w : World) (e : Ending) (w' : World) : Prop := ∃ p q, e = .returned (.agg (pcell p q).toArray) ∧ IsPg g bs p ∧ Pgv w' w.heap.size p q ∧ Kept (fun _ => True) w w'

set_option maxRecDepth 100000 in
set_option maxHeartbeats 4000000 in
theorem open_any {w : World} {ao : Option Addr} {cap : Nat} {bs : List UInt8} (g : Int) (h : Has w ao bs) (hb : (bs.length : Int) ≤ 140737488355328) :
    Calls Try.prog 57 #[.agg #[.int .i64 g, .slice ao bs.length cap]] w fun e w' => EOpen g bs w e w' := by
  have HB : Hid (Has w ao bs) := h
  clear h
  have cd := fun (W : World) (k : Kept (fun _ => True) w W) => decode_any (w := W) (cap := cap) (HB.out.kept k (fun _ _ => trivial)) hb
  have hmm := @run_makeMap Try.prog
  go_enter Try.func57, Try.ntmps57
  go_upto_region 2 with fail
  obtain ⟨C, hC⟩ : ∃ C, C = w.heap.size := ⟨_, rfl⟩
  obtain ⟨w3, hw3⟩ : ∃ x, x = (((w.alloc (.cells #[.int .i64 g, .slice ao bs.length cap] 27)).alloc (.cells #[.int .i64 0, .slice none 0 0, .int .i64 0, .int .i64 0, .slice none 0 0, .int .i64 0] 116)).alloc (.cells #[.int .i64 g, .slice none 0 0, .int .i64 0, .int .i64 0, .slice none 0 0, .int .i64 0] 116)) := ⟨_, rfl⟩
  rw [← hw3, ← hC]
  have KA : Hid (Kept (fun _ => True) w w3) := by rw [hw3]; exact (((Kept.refl _ _).alloc _).alloc _).alloc _
  have B0 : Hid (Bk w3 C 27 [.int .i64 g, .slice ao bs.length cap]) := by
    rw [hw3, hC]
    exact alloc_old _ (alloc_old _ (heap_alloc_new w _))
  have B1 : Hid (Bk w3 (C + 1) 116 [.int .i64 0, .slice none 0 0, .int .i64 0, .int .i64 0, .slice none 0 0, .int .i64 0]) := by
    rw [hw3, hC]
    have := heap_alloc_new (w.alloc (.cells #[.int .i64 g, .slice ao bs.length cap] 27)) (.cells #[.int .i64 0, .slice none 0 0, .int .i64 0, .int .i64 0, .slice none 0 0, .int .i64 0] 116)
    rw [heap_size_alloc] at this
    exact alloc_old _ this
  have B2 : Hid (Bk w3 (C + 1 + 1) 116 [.int .i64 g, .slice none 0 0, .int .i64 0, .int .i64 0, .slice none 0 0, .int .i64 0]) := by
    rw [hw3, hC]
    have := heap_alloc_new ((w.alloc (.cells #[.int .i64 g, .slice ao bs.length cap] 27)).alloc (.cells #[.int .i64 0, .slice none 0 0, .int .i64 0, .int .i64 0, .slice none 0 0, .int .i64 0] 116)) (.cells #[.int .i64 g, .slice none 0 0, .int .i64 0, .int .i64 0, .slice none 0 0, .int .i64 0] 116)
    rw [heap_size_alloc, heap_size_alloc] at this
    exact this
  have hs : w3.heap.size = C + 3 := by rw [hw3, heap_size_alloc, heap_size_alloc, heap_size_alloc, hC]
  have HC : Hid (C = w.heap.size) := hC
  clear hC hw3
  generalize hZ : C + 1 = Z at *
  generalize hP : Z + 1 = P at *
  have HN : Hid (C + 1 = Z ∧ Z + 1 = P ∧ w3.heap.size = C + 3) := ⟨hZ, hP, hs⟩
  have m1 : w3.cell? ⟨C, 1, none⟩ = some (.slice ao bs.length cap) := cell_of_row _ _ 1 _ _ _ B0.out
  have cd3 := cd w3 KA.out
  clear cd hZ hP hs B0
  go_upto_region 3 with (go_at_call 37; (with_reducible refine Calls.mono cd3 ?_); rintro e w4 ⟨xs, y, z, a4, c4, rfl, hd, ho, k4⟩; have HD : Hid (IsDec bs xs y z) := hd; have HO4 : Hid (Lo 121 w4 w3.heap.size (.slice a4 xs.length c4) xs) := ho; have K4 : Hid (Kept (fun _ => True) w3 w4) := k4; have F4 : Bk w4 P 116 [.int .i64 g, .slice none 0 0, .int .i64 0, .int .i64 0, .slice none 0 0, .int .i64 0] := B2.out.kept k4 trivial; obtain ⟨x0, x1, x2, x3, x4, x5⟩ := F4.six; have xf := F4.free; clear hd ho k4)
  obtain ⟨w5, hw5⟩ : ∃ x, x = (((w4.setCell ⟨P, 1, none⟩ (.slice a4 xs.length c4)).setCell ⟨P, 2, none⟩ (.int .i64 y)).setCell ⟨P, 3, none⟩ (.int .i64 z)) := ⟨_, rfl⟩
  rw [← hw5]
  have FP5 : Hid (Bk w5 P 116 [.int .i64 g, .slice a4 xs.length c4, .int .i64 y, .int .i64 z, .slice none 0 0, .int .i64 0]) := by
    rw [hw5]
    exact ((F4.set 1 _).set 2 _).set 3 _
  have K45 : Kept (· ≠ P) w4 w5 := by
    rw [hw5]
    exact (kept_set.trans kept_set).trans kept_set
  have FZ5 : Hid (Bk w5 Z 116 [.int .i64 0, .slice none 0 0, .int .i64 0, .int .i64 0, .slice none 0 0, .int .i64 0]) := (B1.out.kept K4.out trivial).kept K45 (by have := HN.out; omega)
  have HL5 : Hid (Lo 121 w5 w3.heap.size (.slice a4 xs.length c4) xs) := HO4.out.kept K45 (fun x hx e => by have := HO4.out.ge hx; have := HN.out; omega)
  have KW5 : Hid (Kept (fun x => x ≠ P) w3 w5) := (K4.out.mono (fun _ _ _ => trivial)).trans K45
  have LB : Hid (∀ k, (Value.slice a4 xs.length c4).ownBlock = some k → w3.heap.size ≤ k ∧ k < w5.heap.size) := fun k hk => ⟨HL5.out.ge hk, HL5.out.lt hk⟩
  have LC : Hid (xs.length ≤ c4) := by
    obtain ⟨_, _, e0, h1, _⟩ := HO4.out.shape
    injection e0 with e1 e2 e3
    subst e3
    exact h1
  clear x0 x1 x2 x3 x4 x5 xf F4 K45 hw5 HO4 K4 B1 B2 cd3 m1
  have hfew := HD.out.few
  have HF : Hid (xs.length ≤ 4096 ∧ ∀ x ∈ xs, x.t.length ≤ 4000) := hfew
  have A6 : Hid (Ahd (w5.alloc (.map #[] 0)) w5.heap.size 0 []) := ⟨_, Mp.made codeI w5, fun _ => rfl⟩
  have FP6 : Hid (Bk (w5.alloc (.map #[] 0)) P 116 [.int .i64 g, .slice a4 xs.length c4, .int .i64 y, .int .i64 z, .slice none 0 0, .int .i64 0]) := alloc_old _ FP5.out
  have FZ6 : Hid (Bk (w5.alloc (.map #[] 0)) Z 116 [.int .i64 0, .slice none 0 0, .int .i64 0, .int .i64 0, .slice none 0 0, .int .i64 0]) := alloc_old _ FZ5.out
  have HL6 : Hid (Lo 121 (w5.alloc (.map #[] 0)) w3.heap.size (.slice a4 xs.length c4) xs) := HL5.out.all ((Kept.refl _ _).alloc _)
  have KW6 : Hid (Kept (fun x => x ≠ P) w3 (w5.alloc (.map #[] 0))) := KW5.out.alloc _
  obtain ⟨p0, p1, p2, p3, p4, p5⟩ := FP6.out.six
  have HA0 : Hid (w3.heap.size ≤ w5.heap.size) := KW5.out.size
  clear hfew FP5 FZ5 HL5 KW5
  go_upto_region 4 with fail
  obtain ⟨w6, hw6⟩ : ∃ x, x = w5.alloc (.map #[] 0) := ⟨_, rfl⟩
  rw [← hw6] at A6 FP6 FZ6 HL6 KW6 p0 p1 p2 p3 p4 p5 ⊢
  clear hw6
  generalize w5.heap.size = A at *
  have ct := textsL_any (cap := c4) HL6.out.view (by have := HF.out.1; omega)
  have HTL : Hid (∀ t ∈ txs xs, t.length ≤ 4000) := fun t ht => by
    obtain ⟨x, hx, rfl⟩ := List.mem_map.1 ht
    exact HF.out.2 x hx
  have HTN : Hid ((txs xs).length = xs.length) := txs_length xs
  obtain ⟨ts, hts⟩ : ∃ ts, ts = txs xs := ⟨_, rfl⟩
  rw [← hts] at ct HTL HTN
  have HTS : Hid (ts = txs xs) := hts
  clear hts
  go_wp2_with (go_at_call 38; (with_reducible refine Calls.mono ct ?_); rintro e w7 ⟨a7, c7, rfl, ht7, k7⟩; have HT7 : Hid (Txs w7 w6.heap.size (.slice a7 ts.length c7) ts) := ht7; clear ht7)
  have A7 : Hid (Ahd w7 A 0 []) := A6.out.kept k7 trivial
  have FP7 : Hid (Bk w7 P 116 [.int .i64 g, .slice a4 xs.length c4, .int .i64 y, .int .i64 z, .slice none 0 0, .int .i64 0]) := FP6.out.kept k7 trivial
  have FZ7 : Hid (Bk w7 Z 116 [.int .i64 0, .slice none 0 0, .int .i64 0, .int .i64 0, .slice none 0 0, .int .i64 0]) := FZ6.out.kept k7 trivial
  have HL7 : Hid (Lo 121 w7 w3.heap.size (.slice a4 xs.length c4) xs) := HL6.out.all k7
  have KW7 : Hid (Kept (fun x => x ≠ P) w3 w7) := KW6.out.trans (k7.mono (fun _ _ _ => trivial))
  have HAP : Hid (P < A ∧ Z < P ∧ A < w7.heap.size ∧ C < Z ∧ A < w6.heap.size) := ⟨by have := HA0.out; have := HN.out; omega, by have := HN.out; omega, A7.out.lt, by have := HN.out; omega, A6.out.lt⟩
  clear A6 FP6 FZ6 HL6 KW6 ct k7 HA0 p0 p1 p2 p3 p4 p5
  obtain ⟨EE, hEE⟩ : ∃ EE, EE = entG ts [] := ⟨_, rfl⟩
  have HEE : Hid (EE = entG ts []) := hEE
  clear hEE
  go_loopw [27] (fun t wr => ∃ (i : Nat) (es : List Uz) (ae : Option Addr) (ce : Nat), i ≤ ts.length ∧ t = .int .i64 i ∧ es.length = i ∧ entG (ts.drop i) (es.map (·.1)) = EE ∧ Bk wr P 116 [.int .i64 g, .slice a4 xs.length c4, .int .i64 y, .int .i64 z, .slice ae i ce, .int .i64 0] ∧ Ow entS 124 wr w7.heap.size (.slice ae i ce) es ∧ Eg wr w7.heap.size es ∧ Ahd wr A i (es.map (·.1)) ∧ Kept (fun x => x < w7.heap.size ∧ x ≠ P ∧ x ≠ A) w7 wr) (fun t _ => ts.length - (intOf t).toNat)
  case atStart => exact ⟨0, [], none, 0, Nat.zero_le _, rfl, rfl, by rw [List.drop_zero]; exact HEE.out.symm, FP7.out, Ow.nil _ _ _, Eg.nil _ _, A7.out, Kept.refl _ _⟩
  case round =>
    obtain ⟨i, es, ae, ce, hi, rfl, hle, hE, hP, hO, hG, hA, hK⟩ := hrel
    have FPr : Hid (Bk wr P 116 [.int .i64 g, .slice a4 xs.length c4, .int .i64 y, .int .i64 z, .slice ae i ce, .int .i64 0]) := hP
    have HOr : Hid (Ow entS 124 wr w7.heap.size (.slice ae i ce) es) := hO
    have HGr : Hid (Eg wr w7.heap.size es) := hG
    have HAr : Hid (Ahd wr A i (es.map (·.1))) := hA
    have HKr : Hid (Kept (fun x => x < w7.heap.size ∧ x ≠ P ∧ x ≠ A) w7 wr) := hK
    have HEr : Hid (entG (ts.drop i) (es.map (·.1)) = EE) := hE
    have HLe : Hid (es.length = i) := hle
    have FZr : Hid (Bk wr Z 116 [.int .i64 0, .slice none 0 0, .int .i64 0, .int .i64 0, .slice none 0 0, .int .i64 0]) := FZ7.out.kept hK (by have := HAP.out; omega)
    clear hP hO hG hA hK hE hle A7 FP7 FZ7
    by_cases hlt : i < ts.length
    · have htx : ts[i].length ≤ 4000 := HTL.out _ (List.getElem_mem _)
      have T8 := (HT7.out.kept HKr.out (fun k hk => by have := World.ownsRow.lt HT7.out k hk; have := HAP.out; omega)).tv
      obtain ⟨tb, tof, rfl, htb, htc⟩ := T8 (by omega)
      have tc0 := htc i hlt
      have i0 : (0 : Int) ≤ (i : Int) := by omega
      have i1 : (i : Int) < (ts.length : Int) := by omega
      have cr := readA_any (w := wr) (bs := ts[i]) (by omega)
      have HEi : Hid (entG (ts[i] :: ts.drop (i + 1)) (es.map (·.1)) = EE) := by have := HEr.out; rw [← List.getElem_cons_drop hlt] at this; exact this
      have HI : Hid (i < ts.length) := hlt
      clear htc HEr
      generalize ts[i] = tx at *
      go_wp2_with fail
      (with_reducible refine Calls.mono cr ?_)
      rintro e w8 ⟨h8, k8⟩
      rcases h8 with ⟨hno, rfl⟩ | ⟨r, ar, car, hyes, rfl, hgv⟩
      · rw [entG_none hno] at HEi
        have FP8 : Hid (Bk w8 P 116 [.int .i64 g, .slice a4 xs.length c4, .int .i64 y, .int .i64 z, .slice ae i ce, .int .i64 0]) := FPr.out.kept k8 trivial
        have FZ8 : Hid (Bk w8 Z 116 [.int .i64 0, .slice none 0 0, .int .i64 0, .int .i64 0, .slice none 0 0, .int .i64 0]) := FZr.out.kept k8 trivial
        have HO8 : Hid (Ow entS 124 w8 w7.heap.size (.slice ae i ce) es) := HOr.out.all k8
        have HG8 : Hid (Eg w8 w7.heap.size es) := HGr.out.all k8
        have HK8 : Hid (Kept (fun x => x < w7.heap.size ∧ x ≠ P ∧ x ≠ A) w7 w8) := HKr.out.trans (k8.mono (fun _ _ _ => trivial))
        have FPa := alloc_old (.cells #[.int .i64 0, .string ⟨#[]⟩, .slice none 0 0, .string ⟨#[]⟩] 24) FP8.out
        obtain ⟨p0, p1, p2, p3, p4, p5⟩ := Bk.six FPa
        have FZa := alloc_old (.cells #[.int .i64 0, .string ⟨#[]⟩, .slice none 0 0, .string ⟨#[]⟩] 24) FZ8.out
        obtain ⟨z0, z1, z2, z3, z4, z5⟩ := Bk.six FZa
        have zf := Bk.free FZa
        obtain rfl := HLe.out
        go_wp2_with fail
        obtain ⟨hbk, hkz⟩ := page_out FZa (.int .i64 g) (.slice a4 xs.length c4) (.int .i64 y) (.int .i64 z) (.slice ae es.length ce) (.int .i64 0)
        have K9 : Kept (fun x => (x < w7.heap.size ∧ x ≠ P ∧ x ≠ A ∧ x ≠ Z)) w7 _ := ((HK8.out.alloc (.cells #[.int .i64 0, .string ⟨#[]⟩, .slice none 0 0, .string ⟨#[]⟩] 24)).mono (fun _ _ h => ⟨h.1, h.2.1, h.2.2.1⟩)).then hkz (fun _ _ h => h.2.2.2)
        refine bodyPost_ret (results_page rfl _ _ rfl hbk) rfl ⟨⟨g, xs, y, z, es, 0⟩, ⟨a4, c4, ae, ce⟩, rfl, ⟨rfl, HD.out, by rw [HEi.out, HEE.out, HTS.out], rfl⟩, ?_, ?_⟩
        · have hWZ : w.heap.size ≤ w7.heap.size := by have := HC.out; have := HAP.out; have := HN.out; omega
          refine ⟨Lo.low (HL7.out.kept K9 (fun x hx => ?_)) ?_, Ow.low ((HO8.out.all ((Kept.refl _ _).alloc _)).kept hkz (fun x hx e => ?_)) hWZ, Eg.low ((HG8.out.all ((Kept.refl _ _).alloc _)).kept hkz (fun x hx _ _ e => ?_)) hWZ⟩
          · have h1 := LB.out x hx
            have h2 := HN.out
            have h3 := HAP.out
            have h4 := HL7.out.lt hx
            exact ⟨h4, by omega, by omega, by omega⟩
          · have h2 := HN.out
            have h3 := HC.out
            omega
          · have h1 := HO8.out.ge hx
            have h3 := HAP.out
            omega
          · have h3 := HAP.out
            omega
        · have hs3 := KW7.out.size
          have h1 : Kept (fun x => x < w3.heap.size ∧ x ≠ P ∧ x ≠ Z) w3 _ := (KW7.out.mono (fun _ _ h => h.2.1)).then K9 (fun x hx h => ⟨by omega, h.2.1, by have h2 := HN.out; have h3 := HAP.out; omega, h.2.2⟩)
          exact KA.out.then h1 (fun x hx _ => by have h2 := HN.out; have h3 := HC.out; exact ⟨by omega, by omega, by omega⟩)
      · have HY : Hid (rec? tx = some r) := hyes
        have hk := fmd_kind (rec_kind hyes)
        have hrs : r.tx.length ≤ 4000 := rec_short hyes
        rw [entG_some hyes] at HEi
        have FP8 : Hid (Bk w8 P 116 [.int .i64 g, .slice a4 xs.length c4, .int .i64 y, .int .i64 z, .slice ae i ce, .int .i64 0]) := FPr.out.kept k8 trivial
        have HO8 : Hid (Ow entS 124 w8 w7.heap.size (.slice ae i ce) es) := HOr.out.all k8
        have HG8 : Hid (Eg w8 w7.heap.size es) := HGr.out.all k8
        have HA8 : Hid (Ahd w8 A i (es.map (·.1))) := HAr.out.kept k8 trivial
        have HK8 : Hid (Kept (fun x => x < w7.heap.size ∧ x ≠ P ∧ x ≠ A) w7 w8) := HKr.out.trans (k8.mono (fun _ _ _ => trivial))
        have HI8 : Hid (Its w8 wr.heap.size (.slice ar r.gs.length car) r.gs) := hgv
        have HW8 : Hid (w7.heap.size ≤ wr.heap.size) := HKr.out.size
        unfold Ur.val
        obtain ⟨w9, hw9⟩ : ∃ x, x = w8.alloc (.cells #[.int .i64 (r.k : Nat), .string ⟨r.tx.toArray⟩, .slice ar r.gs.length car, .string ⟨r.bd.toArray⟩] 24) := ⟨_, rfl⟩
        have FQ9 : Hid (Four4 w9 w8.heap.size 24 (.int .i64 (r.k : Nat)) (.string ⟨r.tx.toArray⟩) (.slice ar r.gs.length car) (.string ⟨r.bd.toArray⟩)) := by rw [hw9]; exact heap_alloc_new w8 _
        have k89 : Kept (fun _ => True) w8 w9 := by rw [hw9]; exact (Kept.refl _ _).alloc _
        have FP9 : Hid (Bk w9 P 116 [.int .i64 g, .slice a4 xs.length c4, .int .i64 y, .int .i64 z, .slice ae i ce, .int .i64 0]) := FP8.out.kept k89 trivial
        have HO9 : Hid (Ow entS 124 w9 w7.heap.size (.slice ae i ce) es) := HO8.out.all k89
        have HG9 : Hid (Eg w9 w7.heap.size es) := HG8.out.all k89
        have HA9 : Hid (Ahd w9 A i (es.map (·.1))) := HA8.out.kept k89 trivial
        have HK9 : Hid (Kept (fun x => x < w7.heap.size ∧ x ≠ P ∧ x ≠ A) w7 w9) := HK8.out.trans (k89.mono (fun _ _ _ => trivial))
        have HI9 : Hid (Its w9 w7.heap.size (.slice ar r.gs.length car) r.gs) := World.ownsRow.mono (HI8.out.kept k89 (fun _ _ => trivial)) HW8.out
        have HQ : Hid (w7.heap.size ≤ w8.heap.size) := Nat.le_trans HW8.out k8.size
        clear FP8 HO8 HG8 HA8 HK8 HI8 k89 hgv k8 hyes
        go_upto_region 9 with fail
        rw [← hw9]
        clear hw9
        generalize w8.heap.size = Q at *
        obtain ⟨q0, q1, q2, q3⟩ := FQ9.out.cell
        obtain ⟨p0, p1, p2, p3, p4, p5⟩ := FP9.out.six
        have hlook := HA9.out.look (tx := r.tx) (by omega)
        have HX : Hid (∃ x : Uz, x = ⟨⟨r, kin (es.map (·.1)) r.tx⟩, (ar, car)⟩) := ⟨_, rfl⟩
        have hi4 : i ≤ 4096 := by have := HF.out.1; have := HTN.out; have := HI.out; omega
        go_upto_region 10 with (at_builtin; refine wpList_append_one entT rfl (.tmp 39) (.tmp 46) rfl w7.heap.size (.slice ae i ce) es rfl (HO9.out.all ((Kept.refl _ _).alloc _)) (by rw [heap_size_alloc]; have := HK9.out.size; omega) w9.heap.size rfl (⟨⟨r, kin (es.map (·.1)) r.tx⟩, (ar, car)⟩ : Uz) (0, 0) (heap_alloc_new w9 _) (by have := HLe.out; omega) (i + 1) (by rw [HLe.out]) ?_; intro a10 c10 w10 ho10 hg10 hl10; have k10 : Kept (fun x => (Value.slice ae i ce).ownBlock ≠ some x) w9 w10 := ((Kept.refl _ _).alloc _).grown hg10 (fun x _ e h => h e); have F10 := FP9.out.kept k10 (fun e => by have := HO9.out.ge e; have := HAP.out; omega); obtain ⟨p0, p1, p2, p3, p4, p5⟩ := F10.six; have xf := F10.free)
        obtain ⟨w11, hw11⟩ : ∃ x, x = w10.setCell ⟨P, 4, none⟩ (.slice a10 (i + 1) c10) := ⟨_, rfl⟩
        rw [← hw11]
        have k11 : Kept (· ≠ P) w10 w11 := by rw [hw11]; exact kept_set
        have FP11 : Hid (Bk w11 P 116 [.int .i64 g, .slice a4 xs.length c4, .int .i64 y, .int .i64 z, .slice a10 (i + 1) c10, .int .i64 0]) := by rw [hw11]; exact F10.set 4 _
        have hlt7 := HK9.out.size
        have HAPo := HAP.out
        have HO11 : Hid (Ow entS 124 w11 w7.heap.size (.slice a10 (i + 1) c10) (es ++ [⟨⟨r, kin (es.map (·.1)) r.tx⟩, (ar, car)⟩])) := ho10.kept k11 (fun x hx e => by have := ho10.ge hx; omega)
        have HG11 : Hid (Eg w11 w7.heap.size (es ++ [⟨⟨r, kin (es.map (·.1)) r.tx⟩, (ar, car)⟩])) := ((HG9.out.snoc HI9.out).kept k10 (fun x _ _ ⟨cs, fr, hc⟩ e => HO9.out.ne hc (by decide) e)).kept k11 (fun x hx _ _ e => by omega)
        have HA11 : Ahd w11 A i (es.map (·.1)) := (HA9.out.kept k10 (fun e => by have := HO9.out.ge e; omega)).kept k11 (by omega)
        have FQ11 := (FQ9.out.kept k10 (fun e => HO9.out.ne FQ9.out (by decide) e)).kept k11 (by have := HQ.out; omega)
        have HK11 : Hid (Kept (fun x => x < w7.heap.size ∧ x ≠ P ∧ x ≠ A) w7 w11) := (HK9.out.then k10 (fun x _ h e => by have := HO9.out.ge e; omega)).then k11 (fun _ _ h => h.2.1)
        obtain ⟨q0, q1, q2, q3⟩ := FQ11.cell
        clear p0 p1 p2 p3 p4 p5 xf F10 hlook FQ9 FP9 HO9 HG9 HA9 HK9 HI9 ho10 hg10 hl10 k10 k11 hw11 HX
        have hlook := (HA11.kept ((Kept.refl (fun _ => True) w11).drew) trivial).look (tx := r.tx) (by omega)
        obtain ⟨w12, hst, hA12, k12, z12⟩ := (HA11.kept ((Kept.refl (fun _ => True) w11).drew) trivial).store (⟨r, kin (es.map (·.1)) r.tx⟩ : Ue) (by simp only; omega) (by omega)
        have HA12 : Hid (Ahd w12 A (i + 1) (es.map (·.1) ++ [⟨r, kin (es.map (·.1)) r.tx⟩])) := hA12
        have K12 : Hid (Kept (· ≠ A) w11 w12) := ((Kept.refl (· ≠ A) w11).drew).trans k12
        simp only at hst
        clear hA12 HA11 FQ11 HAPo z12 k12
        refine Gz.begin (fun W => W = w11.drew) (fun i => decide (i = 10)) (by kernel_rfl) ?_
        refine Gz.tkT (i := 0) (oi := ⟨some 49, .move (.tmp 4), 146, _, _, none⟩) (v := ?_) rfl (by kernel_rfl) (fun _ _ _ h => h) (Or.inl ⟨by rfl, ?hy0⟩) rfl ?_
        case hy0 => (intro W hS; (try dsimp only at hS); go_simp; try with_reducible rfl)
        try simp only [Act.put, lyA, ly0, ly1]
        refine Gz.tkT (i := 1) (oi := ⟨some 50, .fieldAddr 24 (.tmp 7) 1, 0, _, _, none⟩) (v := ?_) rfl (by kernel_rfl) (fun _ _ _ h => h) (Or.inl ⟨by rfl, ?hy1⟩) rfl ?_
        case hy1 => (intro W hS; (try dsimp only at hS); go_simp; try with_reducible rfl)
        try simp only [Act.put, lyA, ly0, ly1]
        refine Gz.tkT (i := 2) (oi := ⟨some 51, .load 9 (.tmp 50), 9, _, _, none⟩) (v := ?_) rfl (by kernel_rfl) (fun _ _ _ h => h) (Or.inl ⟨by rfl, ?hy2⟩) rfl ?_
        case hy2 => (intro W hS; (try dsimp only at hS); go_simp; try with_reducible rfl)
        try simp only [Act.put, lyA, ly0, ly1]
        refine Gz.tkT (i := 3) (oi := ⟨some 52, .move (.tmp 4), 146, _, _, none⟩) (v := ?_) rfl (by kernel_rfl) (fun _ _ _ h => h) (Or.inl ⟨by rfl, ?hy3⟩) rfl ?_
        case hy3 => (intro W hS; (try dsimp only at hS); go_simp; try with_reducible rfl)
        try simp only [Act.put, lyA, ly0, ly1]
        refine Gz.tkT (i := 4) (oi := ⟨some 53, .fieldAddr 24 (.tmp 7) 1, 0, _, _, none⟩) (v := ?_) rfl (by kernel_rfl) (fun _ _ _ h => h) (Or.inl ⟨by rfl, ?hy4⟩) rfl ?_
        case hy4 => (intro W hS; (try dsimp only at hS); go_simp; try with_reducible rfl)
        try simp only [Act.put, lyA, ly0, ly1]
        refine Gz.tkT (i := 5) (oi := ⟨some 54, .load 9 (.tmp 53), 9, _, _, none⟩) (v := ?_) rfl (by kernel_rfl) (fun _ _ _ h => h) (Or.inl ⟨by rfl, ?hy5⟩) rfl ?_
        case hy5 => (intro W hS; (try dsimp only at hS); go_simp; try with_reducible rfl)
        try simp only [Act.put, lyA, ly0, ly1]
        refine Gz.tkT (i := 6) (oi := ⟨some 55, .lookup 146 (.tmp 52) (.tmp 54) false, 82, _, _, none⟩) (v := ?_) rfl (by kernel_rfl) (fun _ _ _ h => h) (Or.inl ⟨by rfl, ?hy6⟩) rfl ?_
        case hy6 => (intro W hS; (try dsimp only at hS); go_simp; try with_reducible rfl)
        try simp only [Act.put, lyA, ly0, ly1]
        refine Gz.tkT (i := 7) (oi := ⟨some 56, .fieldAddr 24 (.tmp 7) 0, 0, _, _, none⟩) (v := ?_) rfl (by kernel_rfl) (fun _ _ _ h => h) (Or.inl ⟨by rfl, ?hy7⟩) rfl ?_
        case hy7 => (intro W hS; (try dsimp only at hS); go_simp; try with_reducible rfl)
        try simp only [Act.put, lyA, ly0, ly1]
        refine Gz.tkT (i := 8) (oi := ⟨some 57, .load 3 (.tmp 56), 3, _, _, none⟩) (v := ?_) rfl (by kernel_rfl) (fun _ _ _ h => h) (Or.inl ⟨by rfl, ?hy8⟩) rfl ?_
        case hy8 => (intro W hS; (try dsimp only at hS); go_simp; try with_reducible rfl)
        try simp only [Act.put, lyA, ly0, ly1]
        refine Gz.one (i := 9) (o := ⟨some 58, .call { callee := .value (.func 39), args := #[.tmp 55, .tmp 57], argTypes := #[82, 3] }, 82, _, _, none⟩) (by kernel_rfl) rfl (fun K hK => ?_)
        go_simp
        with_reducible refine Calls.mono (with_any _ _ hk) ?_
        rintro e w9 ⟨rfl, rfl⟩
        try go_wp2_with fail
        refine hK.out _ _ (fun _ => rfl) ?_
        clear hK K
        try simp only [Act.put, lyA, ly0, ly1]
        refine Gz.one (i := 10) (o := ⟨none, .mapUpdate 146 (.tmp 49) (.tmp 51) (.tmp 58), 0, _, _, none⟩) (by kernel_rfl) rfl (fun K hK => ?_)
        go_simp
        refine hK.out _ _ (fun hEarly => by cases hEarly) ?_
        clear hK K
        try simp only [Act.put, lyA, ly0, ly1]
        refine Gz.done (by kernel_rfl) ?_ _
        go_wp2_with fail
        go_roundw
        case rel =>
          have hap := HAP.out
          refine ⟨i + 1, es ++ [⟨⟨r, kin (es.map (·.1)) r.tx⟩, (ar, car)⟩], a10, c10, by have := HI.out; omega, by go_num, by rw [List.length_append, HLe.out]; rfl, ?_, FP11.out.kept K12.out (by omega), HO11.out.kept K12.out (fun x hx e => by have := HO11.out.ge hx; omega), HG11.out.kept K12.out (fun x hx _ _ e => by omega), ?_, HK11.out.trans (K12.out.mono (fun _ _ h => h.2.2))⟩
          · rw [List.map_append]; exact HEi.out
          · rw [List.map_append]; exact HA12.out
        case measure => have := HI.out; simp [intOf]; omega
    · obtain rfl : i = ts.length := by omega
      have i1 : ¬ ((ts.length : Nat) : Int) < (ts.length : Int) := by omega
      have HEi : Hid (es.map (·.1) = EE) := by have := HEr.out; rw [List.drop_length, entG_nil] at this; exact this
      obtain ⟨p0, p1, p2, p3, p4, p5⟩ := FPr.out.six
      obtain ⟨z0, z1, z2, z3, z4, z5⟩ := FZr.out.six
      have zf := FZr.out.free
      clear HEr HTN
      generalize ts.length = n at *
      obtain rfl := HLe.out
      go_wp2_with fail
      obtain ⟨hbk, hkz⟩ := page_out FZr.out (.int .i64 g) (.slice a4 xs.length c4) (.int .i64 y) (.int .i64 z) (.slice ae es.length ce) (.int .i64 0)
      have K9 : Kept (fun x => (x < w7.heap.size ∧ x ≠ P ∧ x ≠ A ∧ x ≠ Z)) w7 _ := (HKr.out.mono (fun _ _ h => ⟨h.1, h.2.1, h.2.2.1⟩)).then hkz (fun _ _ h => h.2.2.2)
      refine bodyPost_ret (results_page rfl _ _ rfl hbk) rfl ⟨⟨g, xs, y, z, es, 0⟩, ⟨a4, c4, ae, ce⟩, rfl, ⟨rfl, HD.out, by rw [HEi.out, HEE.out, HTS.out], rfl⟩, ?_, ?_⟩
      · have hWZ : w.heap.size ≤ w7.heap.size := by have := HC.out; have := HAP.out; have := HN.out; omega
        refine ⟨Lo.low (HL7.out.kept K9 (fun x hx => ?_)) ?_, Ow.low (HOr.out.kept hkz (fun x hx e => ?_)) hWZ, Eg.low (HGr.out.kept hkz (fun x hx _ _ e => ?_)) hWZ⟩
        · have h1 := LB.out x hx
          have h2 := HN.out
          have h3 := HAP.out
          have h4 := HL7.out.lt hx
          exact ⟨h4, by omega, by omega, by omega⟩
        · have h2 := HN.out
          have h3 := HC.out
          omega
        · have h1 := HOr.out.ge hx
          have h3 := HAP.out
          omega
        · have h3 := HAP.out
          omega
      · have hs3 := KW7.out.size
        have h1 : Kept (fun x => x < w3.heap.size ∧ x ≠ P ∧ x ≠ Z) w3 _ := (KW7.out.mono (fun _ _ h => h.2.1)).then K9 (fun x hx h => ⟨by omega, h.2.1, by have h2 := HN.out; have h3 := HAP.out; omega, h.2.2⟩)
        exact KA.out.then h1 (fun x hx _ => by have h2 := HN.out; have h3 := HC.out; exact ⟨by omega, by omega, by omega⟩)

end Go.Proofs.Ytmcaoimgmgjjiaa
