/-
  Texts of the proofs, 21 of 52.
-/
import Derived.Test.YtmcaoimgmgjjiaaWT
import Derived.Deep.CutRange
namespace Go.Proofs.Ytmcaoimgmgjjiaa
open Go.RowKit Go.Maps Go.Sort

structure GE (w : World) (E M n b : Nat) (pq : List (Up × Ua)) (ap : Option Addr) (cp : Nat) : Prop where
  self : Bk w E 112 [.slice ap pq.length cp, .map (some M)]
  row : Ow pageS 116 w b (.slice ap pq.length cp) pq
  pgs : ∀ x ∈ pq, Pgv w b x.1 x.2
  tmp : Tmp w M n b (allR (pq.map (·.1)))
theorem GE.all {w w' : World} {E M n b : Nat} {pq : List (Up × Ua)} {ap : Option Addr} {cp : Nat} (h : GE w E M n b pq ap cp) (k : Kept (fun _ => True) w w') : GE w' E M n b pq ap cp :=
  ⟨h.self.kept k trivial, h.row.all k, fun x hx => (h.pgs x hx).all k, h.tmp.kept k trivial (fun _ _ _ _ => trivial)⟩

def lgv : Option (Nat × Nat) → Int
  | none => -1
  | some (o, _) => (o : Int)
def lgb (n : Nat) : Option (Nat × Nat) → Bool
  | none => true
  | some (_, m) => decide (m < n)
theorem lgI_eq (ps : List Up) (g : Int) : lgI ps g = lgv (lg ps g) := by
  unfold lgI lgv
  rfl
theorem lgb_iff (n : Nat) (q : Option (Nat × Nat)) : lgb n q = true ↔ ∀ m, q.map (·.2) = some m → m < n := by
  cases q with
  | none => simp [lgb]
  | some x => simp [lgb]
theorem Lgm.step {w : World} {L k : Nat} {ps : List Up} {p : Up} (h : Lgm w L k ps) (hp : Fits p.g) (hn : k ≤ 1000000) (hb : lgb p.ls.length (lg ps p.g) = true) :
    ∃ w', (Instr.mapUpdate 113 (.map (some L)) (.int .i64 p.g) (.int .i64 (ps.length : Nat))).run Try.prog w = .ok () w' ∧ Lgm w' L (k + 1) (ps ++ [p]) ∧ Kept (· ≠ L) w w' ∧ w'.heap.size = w.heap.size := by
  obtain ⟨f, hm, hf⟩ := h
  obtain ⟨w', hu, h1, h2, h3⟩ := hm.store Try.underlying113 hp hn (ps.length : Nat)
  refine ⟨w', hu, ⟨_, h1, fun g => ?_⟩, h2, h3⟩
  unfold putI
  rw [lg_snoc]
  by_cases e : g = p.g
  · subst e
    rw [if_pos rfl, if_pos ⟨rfl, (lgb_iff _ _).1 hb⟩]
    rfl
  · rw [if_neg e, if_neg (fun q => e q.1.symm)]
    exact hf g
theorem Lgm.stay {w : World} {L k : Nat} {ps : List Up} {p : Up} (h : Lgm w L k ps) (hb : lgb p.ls.length (lg ps p.g) = false) : Lgm w L (k + 1) (ps ++ [p]) := by
  obtain ⟨f, hm, hf⟩ := h
  refine ⟨f, hm.mono (by omega), fun g => ?_⟩
  rw [lg_snoc, hf g]
  by_cases e : p.g = g
  · subst e
    rw [if_neg]
    intro q
    rw [(lgb_iff _ _).2 q.2] at hb
    cases hb
  · rw [if_neg (fun q => e q.1)]
theorem entO_len : ∀ (os : List (Option Ur)) (es : List Ue), (entO os es).length ≤ es.length + os.length
  | [], es => by simp [entO]
  | none :: ts, es => by simp [entO]
  | some r :: ts, es => by
    rw [entO]
    have := entO_len ts (es ++ [⟨r, kin es r.tx⟩])
    rw [List.length_append, List.length_singleton] at this
    rw [List.length_cons]
    omega
theorem pg_few {g : Int} {bs : List UInt8} {p : Up} (h : IsPg g bs p) : p.es.length ≤ 4096 := by
  have h1 := h.dec.few.1
  have h2 := entO_len ((txs p.ls).map rec?) []
  have h3 := congrArg List.length h.ent
  rw [List.length_map] at h3
  unfold entG at h3
  rw [List.length_map, txs_length] at h2
  simp only [List.length_nil] at h2
  omega
set_option maxRecDepth 100000 in
set_option maxHeartbeats 4000000 in
theorem gather_any {w : World} {al : Option Addr} {cap : Nat} {cs : List Uc} (h : Cv w al cs) (hn : cs.length ≤ 200) :
    Calls Try.prog 27 #[.slice al cs.length cap] w fun e w' => ∃ E M n pq ap cp, e = .returned (.pointer (some ⟨E, 0, none⟩)) ∧ GE w' E M n w.heap.size pq ap cp ∧ Pgs cs (pq.map (·.1)) ∧ Kept (fun _ => True) w w' := by
  have HC : Hid (Cv w al cs) := h
  have hmm := @run_makeMap Try.prog
  clear h
  go_enter Try.func27, Try.ntmps27
  go_upto_region 3 with fail
  obtain ⟨M, hM⟩ : ∃ M, M = w.heap.size := ⟨_, rfl⟩
  obtain ⟨w3, hw3⟩ : ∃ x, x = (((w.alloc (.map #[] 0)).alloc (.cells #[.slice none 0 0, .map (some w.heap.size)] 112)).alloc (.map #[] 0)) := ⟨_, rfl⟩
  rw [← hw3, ← hM]
  have KA : Hid (Kept (fun _ => True) w w3) := by rw [hw3]; exact (((Kept.refl _ _).alloc _).alloc _).alloc _
  have B1 : Hid (Bk w3 (M + 1) 112 [.slice none 0 0, .map (some M)]) := by
    rw [hw3, hM]
    have := heap_alloc_new (w.alloc (.map #[] 0)) (.cells #[.slice none 0 0, .map (some w.heap.size)] 112)
    rw [heap_size_alloc] at this
    exact alloc_old _ this
  have T1 : Hid (Tmp w3 M 0 w.heap.size []) := by
    rw [hw3, hM]
    exact (Tmp.made w w.heap.size).kept (((Kept.refl (fun _ => True) _).alloc _).alloc _) trivial (fun _ _ _ _ => trivial)
  have L1 : Hid (Lgm w3 (M + 1 + 1) 0 []) := by
    rw [hw3, hM]
    have := MpI.made codeI ((w.alloc (.map #[] 0)).alloc (.cells #[.slice none 0 0, .map (some w.heap.size)] 112))
    rw [heap_size_alloc, heap_size_alloc] at this
    exact ⟨_, this, fun _ => rfl⟩
  have hs : w3.heap.size = M + 3 := by rw [hw3, heap_size_alloc, heap_size_alloc, heap_size_alloc, hM]
  generalize hE : M + 1 = E at *
  generalize hL : E + 1 = L at *
  have HN : Hid (M + 1 = E ∧ E + 1 = L ∧ w3.heap.size = M + 3 ∧ M = w.heap.size) := ⟨hE, hL, hs, hM⟩
  clear hE hL hs hM hw3
  go_wp2_with fail
  obtain ⟨b0, hb0⟩ : ∃ b0, b0 = w.heap.size := ⟨_, rfl⟩
  have HB : Hid (b0 = w.heap.size) := hb0
  rw [← hb0] at T1
  clear hb0
  go_loopw [16] (fun t wr => ∃ (k n : Nat) (pq : List (Up × Ua)) (ap : Option Addr) (cp : Nat), k ≤ cs.length ∧ t = .int .i64 k ∧ pq.length = k ∧ n ≤ k * 4096 ∧ Bk wr E 112 [.slice ap k cp, .map (some M)] ∧ Ow pageS 116 wr w3.heap.size (.slice ap k cp) pq ∧ (∀ x ∈ pq, Pgv wr b0 x.1 x.2) ∧ Tmp wr M n b0 (allR (pq.map (·.1))) ∧ Lgm wr L k (pq.map (·.1)) ∧ Pgs (cs.take k) (pq.map (·.1)) ∧ Kept (fun x => x ≠ E ∧ x ≠ M ∧ x ≠ L ∧ x < w3.heap.size) w3 wr) (fun t _ => cs.length - (intOf t).toNat)
  case atStart => exact ⟨0, 0, [], none, 0, Nat.zero_le _, rfl, rfl, Nat.zero_le _, B1.out, Ow.nil _ _ _, (fun _ hx => by cases hx), T1.out, L1.out, by simpa using Pgs.nil, Kept.refl _ _⟩
  case round =>
    obtain ⟨k, n, pq, ap, cp, hk, rfl, hpl, hnk, hE, hR, hP, hT, hL, hG, hK⟩ := hrel
    have HEr : Hid (Bk wr E 112 [.slice ap k cp, .map (some M)]) := hE
    have HRr : Hid (Ow pageS 116 wr w3.heap.size (.slice ap k cp) pq) := hR
    have HPr : Hid (∀ x ∈ pq, Pgv wr b0 x.1 x.2) := hP
    have HTr : Hid (Tmp wr M n b0 (allR (pq.map (·.1)))) := hT
    have HLr : Hid (Lgm wr L k (pq.map (·.1))) := hL
    have HGr : Hid (Pgs (cs.take k) (pq.map (·.1))) := hG
    have HKr : Hid (Kept (fun x => x ≠ E ∧ x ≠ M ∧ x ≠ L ∧ x < w3.heap.size) w3 wr) := hK
    have HPL : Hid (pq.length = k) := hpl
    have HNK : Hid (n ≤ k * 4096) := hnk
    have KWr : Hid (Kept (fun _ => True) w wr) := KA.out.then hK (fun x hx _ => by have := HN.out; exact ⟨by omega, by omega, by omega, by omega⟩)
    clear hE hR hP hT hL hG hK hpl hnk B1 T1 L1
    by_cases hlt : k < cs.length
    · have HCr : Hid (Cv wr al cs) := HC.out.all KWr.out
      obtain ⟨gb, go, rfl, hgb, hgr⟩ := HCr.out.vw.row (by omega)
      have hr := hgr k hlt
      have m0 : wr.cell? ⟨gb, go + k * 2, none⟩ = some (.int .i64 cs[k].g) := hr 0 _ rfl
      have m1 : wr.cell? ⟨gb, go + k * 2 + 1, none⟩ = some (.slice cs[k].a cs[k].bs.length cs[k].c) := hr 1 _ rfl
      have hhas := HCr.out.has _ (List.getElem_mem hlt)
      have hlen := HCr.out.len _ (List.getElem_mem hlt)
      have HFit : Hid (Fits cs[k].g) := HCr.out.fit _ (List.getElem_mem hlt)
      have HTK : Hid (cs.take (k + 1) = cs.take k ++ [cs[k]]) := List.take_succ_eq_append_getElem hlt
      have HI : Hid (k < cs.length) := hlt
      have i0 : (0 : Int) ≤ (k : Int) := by omega
      have i1 : (k : Int) < (cs.length : Int) := by omega
      clear hr hgr
      generalize cs[k] = c at *
      have kCA : Kept (fun _ => True) wr (wr.alloc (.cells #[.int .i64 c.g, .slice c.a c.bs.length c.c] 27)) := (Kept.refl _ _).alloc _
      have co := open_any (cap := c.c) c.g (hhas.kept kCA (fun _ _ => trivial)) hlen
      clear hhas hlen kCA
      go_upto_region 7 with (go_at_call 57; (with_reducible refine Calls.mono co ?_); rintro e w5 ⟨p, q, rfl, hpg, hpv, k5⟩; have HPG : Hid (IsPg c.g c.bs p) := hpg; have HPV : Hid (Pgv w5 (wr.heap.size + 1) p q) := (by have := hpv; rwa [heap_size_alloc] at this); have K5 : Hid (Kept (fun _ => True) wr w5) := ((Kept.refl _ _).alloc _).trans k5; unfold pcell; clear hpg hpv k5)
      obtain ⟨w6, hw6⟩ : ∃ x, x = w5.alloc (.cells #[.int .i64 p.g, .slice q.a1 p.ls.length q.c1, .int .i64 p.y, .int .i64 p.z, .slice q.a2 p.es.length q.c2, .int .i64 p.lo] 116) := ⟨_, rfl⟩
      rw [← hw6]
      have k6 : Kept (fun _ => True) w5 w6 := by rw [hw6]; exact (Kept.refl _ _).alloc _
      have FB6 : Hid (Bk w6 w5.heap.size 116 [.int .i64 p.g, .slice q.a1 p.ls.length q.c1, .int .i64 p.y, .int .i64 p.z, .slice q.a2 p.es.length q.c2, .int .i64 p.lo]) := by rw [hw6]; exact heap_alloc_new w5 _
      have k06 := K5.out.trans k6
      have HE6 : Hid (Bk w6 E 112 [.slice ap k cp, .map (some M)]) := HEr.out.kept k06 trivial
      have HR6 : Hid (Ow pageS 116 w6 w3.heap.size (.slice ap k cp) pq) := HRr.out.all k06
      have HP6 : Hid (∀ x ∈ pq, Pgv w6 b0 x.1 x.2) := fun x hx => (HPr.out x hx).all k06
      have HT6 : Hid (Tmp w6 M n b0 (allR (pq.map (·.1)))) := HTr.out.kept k06 trivial (fun _ _ _ _ => trivial)
      have HL6 : Hid (Lgm w6 L k (pq.map (·.1))) := by
        obtain ⟨f, hm, hf⟩ := HLr.out
        exact ⟨f, hm.kept k06 trivial, hf⟩
      have HK6 : Hid (Kept (fun x => x ≠ E ∧ x ≠ M ∧ x ≠ L ∧ x < w3.heap.size) w3 w6) := HKr.out.trans (k06.mono (fun _ _ _ => trivial))
      have HPV6 : Hid (Pgv w6 b0 p q) := by
        have h1 := HPV.out.all k6
        have hle : b0 ≤ wr.heap.size + 1 := by have := HB.out; have := KWr.out.size; omega
        exact ⟨h1.links.low hle, h1.ents.low hle, h1.grps.low hle⟩
      have HXB : Hid (w3.heap.size ≤ w5.heap.size ∧ (∀ x, (Value.slice ap k cp).ownBlock = some x → x < w5.heap.size)) := ⟨Nat.le_trans HKr.out.size K5.out.size, fun x hx => Nat.lt_of_lt_of_le (HRr.out.lt hx) K5.out.size⟩
      have HPVn : Hid (∀ x, (∃ t cs fr, w6.heap[x]? = some (.cells cs t fr) ∧ (t = 121 ∨ t = 124 ∨ t = 3)) → x ≠ w5.heap.size) := fun x ⟨t, cs', fr, hc, ht⟩ e => by
        have := FB6.out
        unfold Bk at this
        rw [e, this] at hc
        injection hc with hc
        injection hc with _ hc
        subst hc
        revert ht
        decide
      clear k06 k6 hw6 HEr HRr HPr HTr HLr HKr HPV K5 HCr m0 m1 co
      generalize w5.heap.size = B at *
      obtain ⟨x0, x1, x2, x3, x4, x5⟩ := FB6.out.six
      have xf := FB6.out.free
      go_upto_region 8 with fail
      obtain ⟨w7, hw7⟩ : ∃ x, x = w6.setCell ⟨B, 5, none⟩ (.int .i64 (-1)) := ⟨_, rfl⟩
      rw [← hw7]
      have k7 : Kept (· ≠ B) w6 w7 := by rw [hw7]; exact kept_set
      have FB7 : Hid (Bk w7 B 116 [.int .i64 p.g, .slice q.a1 p.ls.length q.c1, .int .i64 p.y, .int .i64 p.z, .slice q.a2 p.es.length q.c2, .int .i64 (-1)]) := by rw [hw7]; exact FB6.out.set 5 _
      have hnn := HN.out
      have hxb := HXB.out
      have HE7 : Hid (Bk w7 E 112 [.slice ap k cp, .map (some M)]) := HE6.out.kept k7 (by omega)
      have HR7 : Hid (Ow pageS 116 w7 w3.heap.size (.slice ap k cp) pq) := HR6.out.kept k7 (fun x hx e => by have := hxb.2 x hx; omega)
      have HP7 : Hid (∀ x ∈ pq, Pgv w7 b0 x.1 x.2) := fun x hx => (HP6.out x hx).kept k7 (fun y _ _ hy => HPVn.out y hy)
      have HPV7 : Hid (Pgv w7 b0 p q) := HPV6.out.kept k7 (fun y _ _ hy => HPVn.out y hy)
      have HT7 : Hid (Tmp w7 M n b0 (allR (pq.map (·.1)))) := HT6.out.kept k7 (by omega) (fun y _ _ ⟨cs', fr, hc⟩ => HPVn.out y ⟨_, cs', fr, hc, .inr (.inr rfl)⟩)
      have HL7 : Hid (Lgm w7 L k (pq.map (·.1))) := by
        obtain ⟨f, hm, hf⟩ := HL6.out
        exact ⟨f, hm.kept k7 (by omega), hf⟩
      have HK7 : Hid (Kept (fun x => x ≠ E ∧ x ≠ M ∧ x ≠ L ∧ x < w3.heap.size) w3 w7) := HK6.out.then k7 (fun x hx _ => by omega)
      clear x0 x1 x2 x3 x4 x5 xf k7 hw7 HPVn HE6 HR6 HP6 HPV6 HT6 HL6 HK6 FB6
      obtain ⟨x0, x1, x2, x3, x4, x5⟩ := FB7.out.six
      have xf := FB7.out.free
      obtain ⟨f, hfm, hff⟩ := HL7.out
      have hlook := hfm.look Try.underlying113 (show (zeroValue 3).run Try.prog w7 = .ok (codeI.enc 0) w7 by kernel_rfl) (z := p.g) (by rw [HPG.out.grp]; exact HFit.out)
      rw [hff] at hlook
      clear hfm hff
      obtain ⟨lq, hlq⟩ : ∃ lq, lq = lg (pq.map (·.1)) p.g := ⟨_, rfl⟩
      rw [← hlq] at hlook
      have HLQ : Hid (lq = lg (pq.map (·.1)) p.g) := hlq
      have hok : ∀ o m, lq = some (o, m) → ∃ h : o < pq.length, pq[o].1.ls.length = m := fun o m e => by
        rw [hlq] at e
        obtain ⟨h1, h2, _⟩ := lg_ok _ _ o m e
        rw [List.length_map] at h1
        refine ⟨h1, ?_⟩
        rw [List.getElem_map] at h2
        exact h2
      have HOKq : Hid (∀ o m, lq = some (o, m) → ∃ h : o < pq.length, pq[o].1.ls.length = m) := hok
      change _ = Result.ok (Value.tuple #[.int .i64 ((lq.map fun q => (q.1 : Int)).getD 0), .bool (lq.map fun q => (q.1 : Int)).isSome]) w7 at hlook
      clear hok hlq
      go_upto_if 31 with fail
      clear hlook
      go_cut [] from 31 to 33 (fun wx => Bk wx B 116 [.int .i64 p.g, .slice q.a1 p.ls.length q.c1, .int .i64 p.y, .int .i64 p.z, .slice q.a2 p.es.length q.c2, .int .i64 (lgv lq)] ∧ Kept (· ≠ B) w7 wx)
      case first =>
        cases lq with
        | none =>
          simp only [Option.map_none, Option.isSome_none, Option.getD_none]
          go_wp2
          go_meet
          exact ⟨FB7.out, Kept.refl _ _⟩
        | some om =>
          obtain ⟨o, m⟩ := om
          simp only [Option.map_some, Option.isSome_some, Option.getD_some]
          go_wp2
          go_meet
          exact ⟨FB7.out.set 5 _, kept_set⟩
      case rest =>
      obtain ⟨hB8, hk8⟩ := hcut
      obtain ⟨w8, hw8⟩ : ∃ x, x = wc := ⟨_, rfl⟩
      rw [← hw8] at hB8 hk8 ⊢
      clear hw8
      have FB8 : Hid (Bk w8 B 116 [.int .i64 p.g, .slice q.a1 p.ls.length q.c1, .int .i64 p.y, .int .i64 p.z, .slice q.a2 p.es.length q.c2, .int .i64 (lgv lq)]) := hB8
      have hnb : ∀ y, (∃ t cs fr, w7.heap[y]? = some (.cells cs t fr) ∧ (t = 121 ∨ t = 124 ∨ t = 3)) → y ≠ B := fun x ⟨t, cs', fr, hc, ht⟩ e => by
        have := FB7.out
        unfold Bk at this
        rw [e, this] at hc
        injection hc with hc
        injection hc with _ hc
        subst hc
        revert ht
        decide
      have HE8 : Hid (Bk w8 E 112 [.slice ap k cp, .map (some M)]) := HE7.out.kept hk8 (by omega)
      have HR8 : Hid (Ow pageS 116 w8 w3.heap.size (.slice ap k cp) pq) := HR7.out.kept hk8 (fun x hx e => by have := hxb.2 x hx; omega)
      have HP8 : Hid (∀ x ∈ pq, Pgv w8 b0 x.1 x.2) := fun x hx => (HP7.out x hx).kept hk8 (fun y _ _ hy => hnb y hy)
      have HPV8 : Hid (Pgv w8 b0 p q) := HPV7.out.kept hk8 (fun y _ _ hy => hnb y hy)
      have HT8 : Hid (Tmp w8 M n b0 (allR (pq.map (·.1)))) := HT7.out.kept hk8 (by omega) (fun y _ _ ⟨cs', fr, hc⟩ => hnb y ⟨_, cs', fr, hc, .inr (.inr rfl)⟩)
      have HL8 : Hid (Lgm w8 L k (pq.map (·.1))) := by
        obtain ⟨f, hm, hf⟩ := HL7.out
        exact ⟨f, hm.kept hk8 (by omega), hf⟩
      have HK8 : Hid (Kept (fun x => x ≠ E ∧ x ≠ M ∧ x ≠ L ∧ x < w3.heap.size) w3 w8) := HK7.out.then hk8 (fun x hx _ => by omega)
      clear hnn hxb hB8 hk8 hnb x0 x1 x2 x3 x4 x5 xf FB7 HE7 HR7 HP7 HPV7 HT7 HL7 HK7
      go_upto_region 11 with fail
      go_cut [50] from 34 to 49 (fun v wx => v = .bool (lgb p.ls.length lq) ∧ wx = w8.drew)
      case first =>
        obtain ⟨x0, x1, x2, x3, x4, x5⟩ := FB8.out.six
        obtain ⟨g0, g1⟩ := HE8.out.two
        have hBl := FB8.out.lt
        have hEl := HE8.out.lt
        have x1A : ∀ W, Kept (fun _ => True) w8 W → W.cell? ⟨B, 1, none⟩ = some (.slice q.a1 p.ls.length q.c1) := fun W hW => (kept_cell hW hBl trivial).trans x1
        have g0A : ∀ W, Kept (fun _ => True) w8 W → W.cell? ⟨E, 0, none⟩ = some (.slice ap k cp) := fun W hW => (kept_cell hW hEl trivial).trans g0
        cases lq with
        | none =>
          simp only [Option.map_none, Option.isSome_none, Option.getD_none]
          refine Gz.begin (fun W => Kept (fun _ => True) w8 W) (fun _ => false) (by kernel_rfl) ?_
          refine Gz.tk (i := 0) (oi := ⟨some 34, .move (.tmp 9), 4, _, _, none⟩) (v := ?_) rfl (by kernel_rfl) (fun _ _ _ h => h) (Or.inl ⟨by rfl, ?hy0⟩) (Kept.refl _ _).drew ?_
          case hy0 => (intro W hS; (try dsimp only at hS); go_simp; try with_reducible rfl)
          try simp only [Act.put, lyA, ly0, ly1]
          refine Gz.tk (i := 1) (oi := ⟨some 35, .unOp UnOp.not 4 (.tmp 34), 4, _, _, none⟩) (v := ?_) rfl (by kernel_rfl) (fun _ _ _ h => h) (Or.inl ⟨by rfl, ?hy1⟩) (Kept.refl _ _).drew ?_
          case hy1 => (intro W hS; (try dsimp only at hS); go_simp; try with_reducible rfl)
          try simp only [Act.put, lyA, ly0, ly1]
          refine Gz.tk (i := 2) (oi := ⟨some 36, .move (.tmp 35), 4, _, _, none⟩) (v := ?_) rfl (by kernel_rfl) (fun _ _ _ h => h) (Or.inl ⟨by rfl, ?hy2⟩) (Kept.refl _ _).drew ?_
          case hy2 => (intro W hS; (try dsimp only at hS); go_simp; try with_reducible rfl)
          try simp only [Act.put, lyA, ly0, ly1]
          refine Gz.tk (i := 3) (oi := ⟨some 37, .fieldAddr 116 (.tmp 7) 1, 0, _, _, some (2, false)⟩) (v := undef) rfl (by kernel_rfl) (fun _ _ _ h => h) (Or.inr ⟨by rfl, rfl⟩) (Kept.refl _ _).drew ?_
          try simp only [Act.put, lyA, ly0, ly1]
          refine Gz.tk (i := 4) (oi := ⟨some 38, .load 83 (.tmp 37), 83, _, _, some (2, false)⟩) (v := undef) rfl (by kernel_rfl) (fun _ _ _ h => h) (Or.inr ⟨by rfl, rfl⟩) (Kept.refl _ _).drew ?_
          try simp only [Act.put, lyA, ly0, ly1]
          refine Gz.tk (i := 5) (oi := ⟨some 39, .call { callee := .builtin Builtin.len, args := #[.tmp 38], argTypes := #[83] }, 3, _, _, some (2, false)⟩) (v := undef) rfl (by kernel_rfl) (fun _ _ _ h => h) (Or.inr ⟨by rfl, rfl⟩) (Kept.refl _ _).drew ?_
          try simp only [Act.put, lyA, ly0, ly1]
          refine Gz.tk (i := 6) (oi := ⟨some 40, .move (.tmp 3), 67, _, _, some (2, false)⟩) (v := undef) rfl (by kernel_rfl) (fun _ _ _ h => h) (Or.inr ⟨by rfl, rfl⟩) (Kept.refl _ _).drew ?_
          try simp only [Act.put, lyA, ly0, ly1]
          refine Gz.tk (i := 7) (oi := ⟨some 41, .nilCheck (.tmp 40), 0, _, _, some (2, false)⟩) (v := undef) rfl (by kernel_rfl) (fun _ _ _ h => h) (Or.inr ⟨by rfl, rfl⟩) (Kept.refl _ _).drew ?_
          try simp only [Act.put, lyA, ly0, ly1]
          refine Gz.tk (i := 8) (oi := ⟨some 42, .fieldAddr 112 (.tmp 41) 0, 0, _, _, some (2, false)⟩) (v := undef) rfl (by kernel_rfl) (fun _ _ _ h => h) (Or.inr ⟨by rfl, rfl⟩) (Kept.refl _ _).drew ?_
          try simp only [Act.put, lyA, ly0, ly1]
          refine Gz.tk (i := 9) (oi := ⟨some 43, .load 110 (.tmp 42), 110, _, _, some (2, false)⟩) (v := undef) rfl (by kernel_rfl) (fun _ _ _ h => h) (Or.inr ⟨by rfl, rfl⟩) (Kept.refl _ _).drew ?_
          try simp only [Act.put, lyA, ly0, ly1]
          refine Gz.tk (i := 10) (oi := ⟨some 44, .move (.tmp 8), 3, _, _, some (2, false)⟩) (v := undef) rfl (by kernel_rfl) (fun _ _ _ h => h) (Or.inr ⟨by rfl, rfl⟩) (Kept.refl _ _).drew ?_
          try simp only [Act.put, lyA, ly0, ly1]
          refine Gz.tk (i := 11) (oi := ⟨some 45, .indexAddr 110 (.tmp 43) (.tmp 44), 0, _, _, some (2, false)⟩) (v := undef) rfl (by kernel_rfl) (fun _ _ _ h => h) (Or.inr ⟨by rfl, rfl⟩) (Kept.refl _ _).drew ?_
          try simp only [Act.put, lyA, ly0, ly1]
          refine Gz.tk (i := 12) (oi := ⟨some 46, .fieldAddr 116 (.tmp 45) 1, 0, _, _, some (2, false)⟩) (v := undef) rfl (by kernel_rfl) (fun _ _ _ h => h) (Or.inr ⟨by rfl, rfl⟩) (Kept.refl _ _).drew ?_
          try simp only [Act.put, lyA, ly0, ly1]
          refine Gz.tk (i := 13) (oi := ⟨some 47, .load 83 (.tmp 46), 83, _, _, some (2, false)⟩) (v := undef) rfl (by kernel_rfl) (fun _ _ _ h => h) (Or.inr ⟨by rfl, rfl⟩) (Kept.refl _ _).drew ?_
          try simp only [Act.put, lyA, ly0, ly1]
          refine Gz.tk (i := 14) (oi := ⟨some 48, .call { callee := .builtin Builtin.len, args := #[.tmp 47], argTypes := #[83] }, 3, _, _, some (2, false)⟩) (v := undef) rfl (by kernel_rfl) (fun _ _ _ h => h) (Or.inr ⟨by rfl, rfl⟩) (Kept.refl _ _).drew ?_
          try simp only [Act.put, lyA, ly0, ly1]
          refine Gz.tk (i := 15) (oi := ⟨some 49, .binOp BinOp.gtr 3 (.tmp 39) (.tmp 48) 3, 4, _, _, some (2, false)⟩) (v := undef) rfl (by kernel_rfl) (fun _ _ _ h => h) (Or.inr ⟨by rfl, rfl⟩) (Kept.refl _ _).drew ?_
          try simp only [Act.put, lyA, ly0, ly1]
          refine Gz.tk (i := 16) (oi := ⟨some 50, .pick (.tmp 36) (.const (Value.bool true)) (.tmp 49), 4, _, _, none⟩) (v := ?_) rfl (by kernel_rfl) (fun _ _ _ h => h) (Or.inl ⟨by rfl, ?hy16⟩) (Kept.refl _ _).drew ?_
          case hy16 => (intro W hS; (try dsimp only at hS); go_simp; try with_reducible rfl)
          try simp only [Act.put, lyA, ly0, ly1]
          refine Gz.done (by kernel_rfl) ?_ _
          go_wp2_with fail
          go_meet
          exact ⟨rfl, rfl⟩
        | some om =>
          obtain ⟨o, m⟩ := om
          obtain ⟨ho, hm⟩ := HOKq.out o m rfl
          simp only [Option.map_some, Option.isSome_some, Option.getD_some]
          obtain ⟨gp, rfl, _, hgl, _⟩ := HR8.out.some3 (by have := HPL.out; omega)
          have c1 : w8.cell? ⟨gp, o * 6 + 1, none⟩ = some (.slice pq[o].2.a1 pq[o].1.ls.length pq[o].2.c1) := HR8.out.at o ho 1 _ rfl
          rw [hm] at c1
          have c1A : ∀ W, Kept (fun _ => True) w8 W → W.cell? ⟨gp, o * 6 + 1, none⟩ = some (.slice pq[o].2.a1 m pq[o].2.c1) := fun W hW => (kept_cell hW hgl trivial).trans c1
          have j0 : (0 : Int) ≤ (o : Int) := by omega
          have j1 : (o : Int) < (k : Int) := by have := HPL.out; omega
          generalize pq[o].2.a1 = oa at *
          generalize pq[o].2.c1 = oc at *
          clear c1 hm x0 x1 x2 x3 x4 x5 g0 g1
          by_cases hmn : m < p.ls.length
          · have hi1 : (p.ls.length : Int) > (m : Int) := by omega
            have hi2 : (m : Int) < (p.ls.length : Int) := by omega
            have HB1 : Hid (lgb p.ls.length (some (o, m)) = true) := by show _ = _; simp [lgb, hmn]
            refine Gz.begin (fun W => Kept (fun _ => True) w8 W) (fun _ => false) (by kernel_rfl) ?_
            refine Gz.tk (i := 0) (oi := ⟨some 34, .move (.tmp 9), 4, _, _, none⟩) (v := ?_) rfl (by kernel_rfl) (fun _ _ _ h => h) (Or.inl ⟨by rfl, ?hy0⟩) (Kept.refl _ _).drew ?_
            case hy0 => (intro W hS; (try dsimp only at hS); go_simp; try with_reducible rfl)
            try simp only [Act.put, lyA, ly0, ly1]
            refine Gz.tk (i := 1) (oi := ⟨some 35, .unOp UnOp.not 4 (.tmp 34), 4, _, _, none⟩) (v := ?_) rfl (by kernel_rfl) (fun _ _ _ h => h) (Or.inl ⟨by rfl, ?hy1⟩) (Kept.refl _ _).drew ?_
            case hy1 => (intro W hS; (try dsimp only at hS); go_simp; try with_reducible rfl)
            try simp only [Act.put, lyA, ly0, ly1]
            refine Gz.tk (i := 2) (oi := ⟨some 36, .move (.tmp 35), 4, _, _, none⟩) (v := ?_) rfl (by kernel_rfl) (fun _ _ _ h => h) (Or.inl ⟨by rfl, ?hy2⟩) (Kept.refl _ _).drew ?_
            case hy2 => (intro W hS; (try dsimp only at hS); go_simp; try with_reducible rfl)
            try simp only [Act.put, lyA, ly0, ly1]
            refine Gz.tk (i := 3) (oi := ⟨some 37, .fieldAddr 116 (.tmp 7) 1, 0, _, _, some (2, false)⟩) (v := ?_) rfl (by kernel_rfl) (fun _ _ _ h => h) (Or.inl ⟨by rfl, ?hy3⟩) (Kept.refl _ _).drew ?_
            case hy3 => (intro W hS; (try dsimp only at hS); go_simp; try with_reducible rfl)
            try simp only [Act.put, lyA, ly0, ly1]
            refine Gz.tk (i := 4) (oi := ⟨some 38, .load 83 (.tmp 37), 83, _, _, some (2, false)⟩) (v := ?_) rfl (by kernel_rfl) (fun _ _ _ h => h) (Or.inl ⟨by rfl, ?hy4⟩) (Kept.refl _ _).drew ?_
            case hy4 => (intro W hS; (try dsimp only at hS); go_simp; try with_reducible rfl)
            try simp only [Act.put, lyA, ly0, ly1]
            refine Gz.tk (i := 5) (oi := ⟨some 39, .call { callee := .builtin Builtin.len, args := #[.tmp 38], argTypes := #[83] }, 3, _, _, some (2, false)⟩) (v := ?_) rfl (by kernel_rfl) (fun _ _ _ h => h) (Or.inl ⟨by rfl, ?hy5⟩) (Kept.refl _ _).drew ?_
            case hy5 => (intro W hS; (try dsimp only at hS); go_simp; try with_reducible rfl)
            try simp only [Act.put, lyA, ly0, ly1]
            refine Gz.tk (i := 6) (oi := ⟨some 40, .move (.tmp 3), 67, _, _, some (2, false)⟩) (v := ?_) rfl (by kernel_rfl) (fun _ _ _ h => h) (Or.inl ⟨by rfl, ?hy6⟩) (Kept.refl _ _).drew ?_
            case hy6 => (intro W hS; (try dsimp only at hS); go_simp; try with_reducible rfl)
            try simp only [Act.put, lyA, ly0, ly1]
            refine Gz.tk (i := 7) (oi := ⟨some 41, .nilCheck (.tmp 40), 0, _, _, some (2, false)⟩) (v := ?_) rfl (by kernel_rfl) (fun _ _ _ h => h) (Or.inl ⟨by rfl, ?hy7⟩) (Kept.refl _ _).drew ?_
            case hy7 => (intro W hS; (try dsimp only at hS); go_simp; try with_reducible rfl)
            try simp only [Act.put, lyA, ly0, ly1]
            refine Gz.tk (i := 8) (oi := ⟨some 42, .fieldAddr 112 (.tmp 41) 0, 0, _, _, some (2, false)⟩) (v := ?_) rfl (by kernel_rfl) (fun _ _ _ h => h) (Or.inl ⟨by rfl, ?hy8⟩) (Kept.refl _ _).drew ?_
            case hy8 => (intro W hS; (try dsimp only at hS); go_simp; try with_reducible rfl)
            try simp only [Act.put, lyA, ly0, ly1]
            refine Gz.tk (i := 9) (oi := ⟨some 43, .load 110 (.tmp 42), 110, _, _, some (2, false)⟩) (v := ?_) rfl (by kernel_rfl) (fun _ _ _ h => h) (Or.inl ⟨by rfl, ?hy9⟩) (Kept.refl _ _).drew ?_
            case hy9 => (intro W hS; (try dsimp only at hS); go_simp; try with_reducible rfl)
            try simp only [Act.put, lyA, ly0, ly1]
            refine Gz.tk (i := 10) (oi := ⟨some 44, .move (.tmp 8), 3, _, _, some (2, false)⟩) (v := ?_) rfl (by kernel_rfl) (fun _ _ _ h => h) (Or.inl ⟨by rfl, ?hy10⟩) (Kept.refl _ _).drew ?_
            case hy10 => (intro W hS; (try dsimp only at hS); go_simp; try with_reducible rfl)
            try simp only [Act.put, lyA, ly0, ly1]
            refine Gz.tk (i := 11) (oi := ⟨some 45, .indexAddr 110 (.tmp 43) (.tmp 44), 0, _, _, some (2, false)⟩) (v := ?_) rfl (by kernel_rfl) (fun _ _ _ h => h) (Or.inl ⟨by rfl, ?hy11⟩) (Kept.refl _ _).drew ?_
            case hy11 => (intro W hS; (try dsimp only at hS); go_simp; try with_reducible rfl)
            try simp only [Act.put, lyA, ly0, ly1]
            refine Gz.tk (i := 12) (oi := ⟨some 46, .fieldAddr 116 (.tmp 45) 1, 0, _, _, some (2, false)⟩) (v := ?_) rfl (by kernel_rfl) (fun _ _ _ h => h) (Or.inl ⟨by rfl, ?hy12⟩) (Kept.refl _ _).drew ?_
            case hy12 => (intro W hS; (try dsimp only at hS); go_simp; try with_reducible rfl)
            try simp only [Act.put, lyA, ly0, ly1]
            refine Gz.tk (i := 13) (oi := ⟨some 47, .load 83 (.tmp 46), 83, _, _, some (2, false)⟩) (v := ?_) rfl (by kernel_rfl) (fun _ _ _ h => h) (Or.inl ⟨by rfl, ?hy13⟩) (Kept.refl _ _).drew ?_
            case hy13 => (intro W hS; (try dsimp only at hS); go_simp; try with_reducible rfl)
            try simp only [Act.put, lyA, ly0, ly1]
            refine Gz.tk (i := 14) (oi := ⟨some 48, .call { callee := .builtin Builtin.len, args := #[.tmp 47], argTypes := #[83] }, 3, _, _, some (2, false)⟩) (v := ?_) rfl (by kernel_rfl) (fun _ _ _ h => h) (Or.inl ⟨by rfl, ?hy14⟩) (Kept.refl _ _).drew ?_
            case hy14 => (intro W hS; (try dsimp only at hS); go_simp; try with_reducible rfl)
            try simp only [Act.put, lyA, ly0, ly1]
            refine Gz.tk (i := 15) (oi := ⟨some 49, .binOp BinOp.gtr 3 (.tmp 39) (.tmp 48) 3, 4, _, _, some (2, false)⟩) (v := ?_) rfl (by kernel_rfl) (fun _ _ _ h => h) (Or.inl ⟨by rfl, ?hy15⟩) (Kept.refl _ _).drew ?_
            case hy15 => (intro W hS; (try dsimp only at hS); go_simp; try with_reducible rfl)
            try simp only [Act.put, lyA, ly0, ly1]
            refine Gz.tk (i := 16) (oi := ⟨some 50, .pick (.tmp 36) (.const (Value.bool true)) (.tmp 49), 4, _, _, none⟩) (v := ?_) rfl (by kernel_rfl) (fun _ _ _ h => h) (Or.inl ⟨by rfl, ?hy16⟩) (Kept.refl _ _).drew ?_
            case hy16 => (intro W hS; (try dsimp only at hS); go_simp; try with_reducible rfl)
            try simp only [Act.put, lyA, ly0, ly1]
            refine Gz.done (by kernel_rfl) ?_ _
            go_wp2_with fail
            go_meet
            exact ⟨by rw [HB1.out], rfl⟩
          · have hi1 : ¬ (p.ls.length : Int) > (m : Int) := by omega
            have hi2 : ¬ (m : Int) < (p.ls.length : Int) := by omega
            have HB1 : Hid (lgb p.ls.length (some (o, m)) = false) := by show _ = _; simp [lgb, hmn]
            refine Gz.begin (fun W => Kept (fun _ => True) w8 W) (fun _ => false) (by kernel_rfl) ?_
            refine Gz.tk (i := 0) (oi := ⟨some 34, .move (.tmp 9), 4, _, _, none⟩) (v := ?_) rfl (by kernel_rfl) (fun _ _ _ h => h) (Or.inl ⟨by rfl, ?hy0⟩) (Kept.refl _ _).drew ?_
            case hy0 => (intro W hS; (try dsimp only at hS); go_simp; try with_reducible rfl)
            try simp only [Act.put, lyA, ly0, ly1]
            refine Gz.tk (i := 1) (oi := ⟨some 35, .unOp UnOp.not 4 (.tmp 34), 4, _, _, none⟩) (v := ?_) rfl (by kernel_rfl) (fun _ _ _ h => h) (Or.inl ⟨by rfl, ?hy1⟩) (Kept.refl _ _).drew ?_
            case hy1 => (intro W hS; (try dsimp only at hS); go_simp; try with_reducible rfl)
            try simp only [Act.put, lyA, ly0, ly1]
            refine Gz.tk (i := 2) (oi := ⟨some 36, .move (.tmp 35), 4, _, _, none⟩) (v := ?_) rfl (by kernel_rfl) (fun _ _ _ h => h) (Or.inl ⟨by rfl, ?hy2⟩) (Kept.refl _ _).drew ?_
            case hy2 => (intro W hS; (try dsimp only at hS); go_simp; try with_reducible rfl)
            try simp only [Act.put, lyA, ly0, ly1]
            refine Gz.tk (i := 3) (oi := ⟨some 37, .fieldAddr 116 (.tmp 7) 1, 0, _, _, some (2, false)⟩) (v := ?_) rfl (by kernel_rfl) (fun _ _ _ h => h) (Or.inl ⟨by rfl, ?hy3⟩) (Kept.refl _ _).drew ?_
            case hy3 => (intro W hS; (try dsimp only at hS); go_simp; try with_reducible rfl)
            try simp only [Act.put, lyA, ly0, ly1]
            refine Gz.tk (i := 4) (oi := ⟨some 38, .load 83 (.tmp 37), 83, _, _, some (2, false)⟩) (v := ?_) rfl (by kernel_rfl) (fun _ _ _ h => h) (Or.inl ⟨by rfl, ?hy4⟩) (Kept.refl _ _).drew ?_
            case hy4 => (intro W hS; (try dsimp only at hS); go_simp; try with_reducible rfl)
            try simp only [Act.put, lyA, ly0, ly1]
            refine Gz.tk (i := 5) (oi := ⟨some 39, .call { callee := .builtin Builtin.len, args := #[.tmp 38], argTypes := #[83] }, 3, _, _, some (2, false)⟩) (v := ?_) rfl (by kernel_rfl) (fun _ _ _ h => h) (Or.inl ⟨by rfl, ?hy5⟩) (Kept.refl _ _).drew ?_
            case hy5 => (intro W hS; (try dsimp only at hS); go_simp; try with_reducible rfl)
            try simp only [Act.put, lyA, ly0, ly1]
            refine Gz.tk (i := 6) (oi := ⟨some 40, .move (.tmp 3), 67, _, _, some (2, false)⟩) (v := ?_) rfl (by kernel_rfl) (fun _ _ _ h => h) (Or.inl ⟨by rfl, ?hy6⟩) (Kept.refl _ _).drew ?_
            case hy6 => (intro W hS; (try dsimp only at hS); go_simp; try with_reducible rfl)
            try simp only [Act.put, lyA, ly0, ly1]
            refine Gz.tk (i := 7) (oi := ⟨some 41, .nilCheck (.tmp 40), 0, _, _, some (2, false)⟩) (v := ?_) rfl (by kernel_rfl) (fun _ _ _ h => h) (Or.inl ⟨by rfl, ?hy7⟩) (Kept.refl _ _).drew ?_
            case hy7 => (intro W hS; (try dsimp only at hS); go_simp; try with_reducible rfl)
            try simp only [Act.put, lyA, ly0, ly1]
            refine Gz.tk (i := 8) (oi := ⟨some 42, .fieldAddr 112 (.tmp 41) 0, 0, _, _, some (2, false)⟩) (v := ?_) rfl (by kernel_rfl) (fun _ _ _ h => h) (Or.inl ⟨by rfl, ?hy8⟩) (Kept.refl _ _).drew ?_
            case hy8 => (intro W hS; (try dsimp only at hS); go_simp; try with_reducible rfl)
            try simp only [Act.put, lyA, ly0, ly1]
            refine Gz.tk (i := 9) (oi := ⟨some 43, .load 110 (.tmp 42), 110, _, _, some (2, false)⟩) (v := ?_) rfl (by kernel_rfl) (fun _ _ _ h => h) (Or.inl ⟨by rfl, ?hy9⟩) (Kept.refl _ _).drew ?_
            case hy9 => (intro W hS; (try dsimp only at hS); go_simp; try with_reducible rfl)
            try simp only [Act.put, lyA, ly0, ly1]
            refine Gz.tk (i := 10) (oi := ⟨some 44, .move (.tmp 8), 3, _, _, some (2, false)⟩) (v := ?_) rfl (by kernel_rfl) (fun _ _ _ h => h) (Or.inl ⟨by rfl, ?hy10⟩) (Kept.refl _ _).drew ?_
            case hy10 => (intro W hS; (try dsimp only at hS); go_simp; try with_reducible rfl)
            try simp only [Act.put, lyA, ly0, ly1]
            refine Gz.tk (i := 11) (oi := ⟨some 45, .indexAddr 110 (.tmp 43) (.tmp 44), 0, _, _, some (2, false)⟩) (v := ?_) rfl (by kernel_rfl) (fun _ _ _ h => h) (Or.inl ⟨by rfl, ?hy11⟩) (Kept.refl _ _).drew ?_
            case hy11 => (intro W hS; (try dsimp only at hS); go_simp; try with_reducible rfl)
            try simp only [Act.put, lyA, ly0, ly1]
            refine Gz.tk (i := 12) (oi := ⟨some 46, .fieldAddr 116 (.tmp 45) 1, 0, _, _, some (2, false)⟩) (v := ?_) rfl (by kernel_rfl) (fun _ _ _ h => h) (Or.inl ⟨by rfl, ?hy12⟩) (Kept.refl _ _).drew ?_
            case hy12 => (intro W hS; (try dsimp only at hS); go_simp; try with_reducible rfl)
            try simp only [Act.put, lyA, ly0, ly1]
            refine Gz.tk (i := 13) (oi := ⟨some 47, .load 83 (.tmp 46), 83, _, _, some (2, false)⟩) (v := ?_) rfl (by kernel_rfl) (fun _ _ _ h => h) (Or.inl ⟨by rfl, ?hy13⟩) (Kept.refl _ _).drew ?_
            case hy13 => (intro W hS; (try dsimp only at hS); go_simp; try with_reducible rfl)
            try simp only [Act.put, lyA, ly0, ly1]
            refine Gz.tk (i := 14) (oi := ⟨some 48, .call { callee := .builtin Builtin.len, args := #[.tmp 47], argTypes := #[83] }, 3, _, _, some (2, false)⟩) (v := ?_) rfl (by kernel_rfl) (fun _ _ _ h => h) (Or.inl ⟨by rfl, ?hy14⟩) (Kept.refl _ _).drew ?_
            case hy14 => (intro W hS; (try dsimp only at hS); go_simp; try with_reducible rfl)
            try simp only [Act.put, lyA, ly0, ly1]
            refine Gz.tk (i := 15) (oi := ⟨some 49, .binOp BinOp.gtr 3 (.tmp 39) (.tmp 48) 3, 4, _, _, some (2, false)⟩) (v := ?_) rfl (by kernel_rfl) (fun _ _ _ h => h) (Or.inl ⟨by rfl, ?hy15⟩) (Kept.refl _ _).drew ?_
            case hy15 => (intro W hS; (try dsimp only at hS); go_simp; try with_reducible rfl)
            try simp only [Act.put, lyA, ly0, ly1]
            refine Gz.tk (i := 16) (oi := ⟨some 50, .pick (.tmp 36) (.const (Value.bool true)) (.tmp 49), 4, _, _, none⟩) (v := ?_) rfl (by kernel_rfl) (fun _ _ _ h => h) (Or.inl ⟨by rfl, ?hy16⟩) (Kept.refl _ _).drew ?_
            case hy16 => (intro W hS; (try dsimp only at hS); go_simp; try with_reducible rfl)
            try simp only [Act.put, lyA, ly0, ly1]
            refine Gz.done (by kernel_rfl) ?_ _
            go_wp2_with fail
            go_meet
            exact ⟨by rw [HB1.out], rfl⟩
      case rest =>
      obtain ⟨rfl, hw⟩ := hcut
      have hxk : Kept (fun _ => True) w8 wc := by rw [hw]; exact (Kept.refl _ _).drew
      have FB8' : Hid (Bk wc B 116 [.int .i64 p.g, .slice q.a1 p.ls.length q.c1, .int .i64 p.y, .int .i64 p.z, .slice q.a2 p.es.length q.c2, .int .i64 (lgv lq)]) := FB8.out.kept hxk trivial
      have HE8' : Hid (Bk wc E 112 [.slice ap k cp, .map (some M)]) := HE8.out.kept hxk trivial
      have HR8' : Hid (Ow pageS 116 wc w3.heap.size (.slice ap k cp) pq) := HR8.out.all hxk
      have HP8' : Hid (∀ x ∈ pq, Pgv wc b0 x.1 x.2) := fun x hx => (HP8.out x hx).all hxk
      have HPV8' : Hid (Pgv wc b0 p q) := HPV8.out.all hxk
      have HT8' : Hid (Tmp wc M n b0 (allR (pq.map (·.1)))) := HT8.out.kept hxk trivial (fun _ _ _ _ => trivial)
      have HL8' : Hid (Lgm wc L k (pq.map (·.1))) := by
        obtain ⟨f, hm, hf⟩ := HL8.out
        exact ⟨f, hm.kept hxk trivial, hf⟩
      have HK8' : Hid (Kept (fun x => x ≠ E ∧ x ≠ M ∧ x ≠ L ∧ x < w3.heap.size) w3 wc) := HK8.out.trans (hxk.mono (fun _ _ _ => trivial))
      clear hxk FB8 HE8 HR8 HP8 HPV8 HT8 HL8 HK8 hw
      obtain ⟨x0, x1, x2, x3, x4, x5⟩ := FB8'.out.six
      go_upto_if 50 with fail
      obtain ⟨wd, hwd⟩ : ∃ x, x = wc := ⟨_, rfl⟩
      rw [← hwd] at FB8' HE8' HR8' HP8' HPV8' HT8' HL8' HK8' x0 x1 x2 x3 x4 x5 ⊢
      clear hwd
      have hpl2 : (pq.map (·.1)).length = k := by rw [List.length_map]; exact HPL.out
      go_cut [] from 50 to 54 (fun wx => Lgm wx L (k + 1) (pq.map (·.1) ++ [{ p with lo := lgv lq }]) ∧ Kept (· ≠ L) wd wx)
      case first =>
        cases hb : lgb p.ls.length lq
        · have HS : Hid (Lgm wd L (k + 1) (pq.map (·.1) ++ [{ p with lo := lgv lq }])) := HL8'.out.stay (p := { p with lo := lgv lq }) (by show lgb p.ls.length (lg _ p.g) = false; rw [← HLQ.out]; exact hb)
          clear hb hpl2
          go_wp2
          go_meet
          exact ⟨HS.out, Kept.refl _ _⟩
        · obtain ⟨we, hst, hle, hke, _⟩ := HL8'.out.step (p := { p with lo := lgv lq }) (by show Fits p.g; rw [HPG.out.grp]; exact HFit.out) (by have := HI.out; omega) (by show lgb p.ls.length (lg _ p.g) = true; rw [← HLQ.out]; exact hb)
          rw [hpl2] at hst
          simp only at hst
          have HS : Hid (Lgm we L (k + 1) (pq.map (·.1) ++ [{ p with lo := lgv lq }])) := hle
          have HKe : Hid (Kept (· ≠ L) wd we) := hke
          clear hb hpl2 hle hke
          go_wp2
          go_meet
          exact ⟨HS.out, HKe.out⟩
      case rest =>
      obtain ⟨hL9, hk9⟩ := hcut
      obtain ⟨w9, hw9⟩ : ∃ x, x = wc := ⟨_, rfl⟩
      rw [← hw9] at hL9 hk9 ⊢
      clear hw9
      obtain ⟨p', hp'⟩ : ∃ p', p' = { p with lo := lgv lq } := ⟨_, rfl⟩
      have hnl : ∀ y, (∃ cs t fr, wd.heap[y]? = some (.cells cs t fr)) → y ≠ L := fun y ⟨cs', t, fr, hc⟩ => by
        obtain ⟨f, hm, _⟩ := HL8'.out
        exact hm.ne hc
      have hnn := HN.out
      have hxb := HXB.out
      have FB9 : Hid (Bk w9 B 116 (pcell p' q)) := by rw [hp']; exact FB8'.out.kept hk9 (by omega)
      have HE9 : Hid (Bk w9 E 112 [.slice ap k cp, .map (some M)]) := HE8'.out.kept hk9 (by omega)
      have HR9 : Hid (Ow pageS 116 w9 w3.heap.size (.slice ap k cp) pq) := HR8'.out.kept hk9 (fun x hx e => by have := HR8'.out.ge hx; omega)
      have HP9 : Hid (∀ x ∈ pq, Pgv w9 b0 x.1 x.2) := fun x hx => (HP8'.out x hx).kept hk9 (fun y _ _ ⟨t, cs', fr, hc, _⟩ => hnl y ⟨cs', t, fr, hc⟩)
      have HPV9 : Hid (Pgv w9 b0 p' q) := by
        have := HPV8'.out.kept hk9 (fun y _ _ ⟨t, cs', fr, hc, _⟩ => hnl y ⟨cs', t, fr, hc⟩)
        rw [hp']
        exact ⟨this.links, this.ents, this.grps⟩
      have HT9 : Hid (Tmp w9 M n b0 (allR (pq.map (·.1)))) := HT8'.out.kept hk9 (by omega) (fun y _ _ ⟨cs', fr, hc⟩ => hnl y ⟨cs', _, fr, hc⟩)
      have HL9 : Hid (Lgm w9 L (k + 1) (pq.map (·.1) ++ [p'])) := by rw [hp']; exact hL9
      have HK9 : Hid (Kept (fun x => x ≠ E ∧ x ≠ M ∧ x ≠ L ∧ x < w3.heap.size) w3 w9) := HK8'.out.then hk9 (fun x hx h => h.2.2.1)
      have HPP : Hid (p'.g = c.g ∧ IsDec c.bs p'.ls p'.y p'.z ∧ p'.es.map (·.1) = entG (txs p'.ls) [] ∧ p'.lo = lgI (pq.map (·.1)) p'.g ∧ p'.es.length ≤ 4096) := by
        have hf := pg_few HPG.out
        rw [hp']
        exact ⟨HPG.out.grp, HPG.out.dec, HPG.out.ent, by rw [lgI_eq, ← HLQ.out], hf⟩
      clear hnl hp' hL9 hk9 FB8' HE8' HR8' HP8' HPV8' HT8' HL8' HK8' HPG HLQ HOKq HFit x0 x1 x2 x3 x4 x5 hpl2
      have HXB2 : Hid (w3.heap.size ≤ B ∧ ∀ x, (Value.slice ap k cp).ownBlock = some x → x < B) := hxb
      have HB9 : Hid (w3.heap.size ≤ w9.heap.size) := HK9.out.size
      have hEo : (Value.slice ap k cp).ownBlock ≠ some E := HR9.out.ne HE9.out (by decide)
      have hBo : (Value.slice ap k cp).ownBlock ≠ some B := fun e => by have := hxb.2 B e; omega
      have hElt := HE9.out.lt
      have hBlt := FB9.out.lt
      have hk200 : k ≤ 200 := by have := HI.out; omega
      clear hnn hxb
      obtain ⟨g0, g1⟩ := HE9.out.two
      have gf := HE9.out.free 0
      obtain ⟨x0, x1, x2, x3, x4, x5⟩ := FB9.out.six
      have g0A : ∀ W, Kept (fun y => (Value.slice ap k cp).ownBlock ≠ some y) w9 W → W.cell? ⟨E, 0, none⟩ = some (.slice ap k cp) := fun W hW => (kept_cell hW hElt hEo).trans g0
      have x0A : ∀ W, Kept (fun y => (Value.slice ap k cp).ownBlock ≠ some y) w9 W → W.cell? ⟨B, 0, none⟩ = some (.int .i64 p'.g) := fun W hW => (kept_cell hW hBlt hBo).trans x0
      have x1A : ∀ W, Kept (fun y => (Value.slice ap k cp).ownBlock ≠ some y) w9 W → W.cell? ⟨B, 1, none⟩ = some (.slice q.a1 p'.ls.length q.c1) := fun W hW => (kept_cell hW hBlt hBo).trans x1
      have x2A : ∀ W, Kept (fun y => (Value.slice ap k cp).ownBlock ≠ some y) w9 W → W.cell? ⟨B, 2, none⟩ = some (.int .i64 p'.y) := fun W hW => (kept_cell hW hBlt hBo).trans x2
      have x3A : ∀ W, Kept (fun y => (Value.slice ap k cp).ownBlock ≠ some y) w9 W → W.cell? ⟨B, 3, none⟩ = some (.int .i64 p'.z) := fun W hW => (kept_cell hW hBlt hBo).trans x3
      have x4A : ∀ W, Kept (fun y => (Value.slice ap k cp).ownBlock ≠ some y) w9 W → W.cell? ⟨B, 4, none⟩ = some (.slice q.a2 p'.es.length q.c2) := fun W hW => (kept_cell hW hBlt hBo).trans x4
      have x5A : ∀ W, Kept (fun y => (Value.slice ap k cp).ownBlock ≠ some y) w9 W → W.cell? ⟨B, 5, none⟩ = some (.int .i64 p'.lo) := fun W hW => (kept_cell hW hBlt hBo).trans x5
      clear x0 x1 x2 x3 x4 x5
      go_upto_region 13 with fail
      refine Gz.begin (fun W => Kept (fun y => (Value.slice ap k cp).ownBlock ≠ some y) w9 W) (fun i => decide (i = 10)) (by kernel_rfl) ?_
      refine Gz.tkT (i := 0) (oi := ⟨some 55, .move (.tmp 3), 67, _, _, none⟩) (v := ?_) rfl (by kernel_rfl) (fun _ _ _ h => h) (Or.inl ⟨by rfl, ?hy0⟩) (Kept.refl _ _).drew ?_
      case hy0 => (intro W hS; (try dsimp only at hS); go_simp; try with_reducible rfl)
      try simp only [Act.put, lyA, ly0, ly1]
      refine Gz.tkT (i := 1) (oi := ⟨some 56, .move (.tmp 3), 67, _, _, none⟩) (v := ?_) rfl (by kernel_rfl) (fun _ _ _ h => h) (Or.inl ⟨by rfl, ?hy1⟩) (Kept.refl _ _).drew ?_
      case hy1 => (intro W hS; (try dsimp only at hS); go_simp; try with_reducible rfl)
      try simp only [Act.put, lyA, ly0, ly1]
      refine Gz.tkT (i := 2) (oi := ⟨some 57, .nilCheck (.tmp 56), 0, _, _, none⟩) (v := ?_) rfl (by kernel_rfl) (fun _ _ _ h => h) (Or.inl ⟨by rfl, ?hy2⟩) (Kept.refl _ _).drew ?_
      case hy2 => (intro W hS; (try dsimp only at hS); go_simp; try with_reducible rfl)
      try simp only [Act.put, lyA, ly0, ly1]
      refine Gz.tkT (i := 3) (oi := ⟨some 58, .fieldAddr 112 (.tmp 57) 0, 0, _, _, none⟩) (v := ?_) rfl (by kernel_rfl) (fun _ _ _ h => h) (Or.inl ⟨by rfl, ?hy3⟩) (Kept.refl _ _).drew ?_
      case hy3 => (intro W hS; (try dsimp only at hS); go_simp; try with_reducible rfl)
      try simp only [Act.put, lyA, ly0, ly1]
      refine Gz.tkT (i := 4) (oi := ⟨some 59, .load 110 (.tmp 58), 110, _, _, none⟩) (v := ?_) rfl (by kernel_rfl) (fun _ _ _ h => h) (Or.inl ⟨by rfl, ?hy4⟩) (Kept.refl _ _).drew ?_
      case hy4 => (intro W hS; (try dsimp only at hS); go_simp; try with_reducible rfl)
      try simp only [Act.put, lyA, ly0, ly1]
      refine Gz.tkT (i := 5) (oi := ⟨some 60, .load 116 (.tmp 7), 116, _, _, none⟩) (v := ?_) rfl (by kernel_rfl) (fun _ _ _ h => h) (Or.inl ⟨by rfl, ?hy5⟩) (Kept.refl _ _).drew ?_
      case hy5 => (intro W hS; (try dsimp only at hS); go_simp; try with_reducible rfl)
      try simp only [Act.put, lyA, ly0, ly1]
      refine Gz.one (i := 6) (o := ⟨some 61, .buildSlice 110 1 #[(0, .tmp 60)], 110, _, _, none⟩) (by kernel_rfl) rfl (fun K hK => ?_)
      go_simp
      refine hK.out _ _ (fun hEarly => ((Kept.refl _ _).alloc _).drew) ?_
      clear hK K
      try simp only [Act.put, lyA, ly0, ly1]
      refine Gz.one (i := 7) (o := ⟨some 62, .call { callee := .builtin Builtin.append, args := #[.tmp 59, .tmp 61], argTypes := #[110, 110] }, 110, _, _, none⟩) (by kernel_rfl) rfl (fun K hK => ?_)
      refine step_append_one pageT rfl (.tmp 59) (.tmp 61) rfl w3.heap.size (.slice ap k cp) pq rfl (HR9.out.all (((Kept.refl _ _).alloc _).drew)) (by show w3.heap.size ≤ (w9.alloc _).heap.size; rw [heap_size_alloc]; have := HB9.out; omega) w9.heap.size rfl (p', q) (0, 0) (heap_alloc_new w9 _) (by rw [HPL.out]; omega) (k + 1) (by rw [HPL.out]) ?_
      intro a10 c10 w10 ho10 hg10 hl10
      have k10 : Kept (fun y => (Value.slice ap k cp).ownBlock ≠ some y) w9 w10 := (((Kept.refl _ _).alloc _).drew).grown hg10 (fun x _ e h => h e)
      have e27 := (kept_cell k10 hElt hEo).trans g0
      have f27 := (kept_frozen k10 hElt hEo).trans gf
      refine hK.out _ _ (fun _ => k10) ?_
      clear hK K
      try simp only [Act.put, lyA, ly0, ly1]
      refine Gz.tkT (i := 8) (oi := ⟨some 63, .nilCheck (.tmp 55), 0, _, _, none⟩) (v := ?_) rfl (by kernel_rfl) (fun _ _ _ h => h) (Or.inl ⟨by rfl, ?hy8⟩) k10 ?_
      case hy8 => (intro W hS; (try dsimp only at hS); go_simp; try with_reducible rfl)
      try simp only [Act.put, lyA, ly0, ly1]
      refine Gz.tkT (i := 9) (oi := ⟨some 64, .fieldAddr 112 (.tmp 63) 0, 0, _, _, none⟩) (v := ?_) rfl (by kernel_rfl) (fun _ _ _ h => h) (Or.inl ⟨by rfl, ?hy9⟩) k10 ?_
      case hy9 => (intro W hS; (try dsimp only at hS); go_simp; try with_reducible rfl)
      try simp only [Act.put, lyA, ly0, ly1]
      refine Gz.one (i := 10) (o := ⟨none, .store 110 (.tmp 64) (.tmp 62), 0, _, _, none⟩) (by kernel_rfl) rfl (fun K hK => ?_)
      go_simp
      refine hK.out _ _ (fun hEarly => by cases hEarly) ?_
      clear hK K
      try simp only [Act.put, lyA, ly0, ly1]
      refine Gz.done (by kernel_rfl) ?_ _
      obtain ⟨w11, hw11⟩ : ∃ x, x = w10.setCell ⟨E, 0, none⟩ (.slice a10 (k + 1) c10) := ⟨_, rfl⟩
      have k11 : Kept (· ≠ E) w10 w11 := by rw [hw11]; exact kept_set
      have HE11 : Hid (Bk w11 E 112 [.slice a10 (k + 1) c10, .map (some M)]) := by rw [hw11]; exact Bk.set (HE9.out.kept k10 hEo) 0 _
      have hnn := HN.out
      have hxb := HXB2.out
      have hown : ∀ y, (∃ t cs fr, w9.heap[y]? = some (.cells cs t fr) ∧ (t = 121 ∨ t = 124 ∨ t = 3)) → (Value.slice ap k cp).ownBlock ≠ some y := fun y ⟨t, cs', fr, hc, ht⟩ => HR9.out.ne hc (by rintro rfl; revert ht; decide)
      have hE10 : Bk w10 E 112 [.slice ap k cp, .map (some M)] := HE9.out.kept k10 hEo
      have hev : ∀ y, (∃ t cs fr, w10.heap[y]? = some (.cells cs t fr) ∧ (t = 121 ∨ t = 124 ∨ t = 3)) → y ≠ E := fun y ⟨t, cs', fr, hc, ht⟩ e => by
        have h1 := hE10
        unfold Bk at h1
        rw [e, h1] at hc
        injection hc with hc
        injection hc with _ hc
        subst hc
        revert ht
        decide
      have FB11 : Hid (Bk w11 B 116 (pcell p' q)) := (FB9.out.kept k10 hBo).kept k11 (by omega)
      have HR11 : Hid (Ow pageS 116 w11 w3.heap.size (.slice a10 (k + 1) c10) (pq ++ [(p', q)])) := ho10.kept k11 (fun x hx e => by have := ho10.ge hx; omega)
      have HP11 : Hid (∀ x ∈ pq ++ [(p', q)], Pgv w11 b0 x.1 x.2) := fun x hx => by
        have h1 : Pgv w9 b0 x.1 x.2 := by
          rcases List.mem_append.1 hx with h2 | h2
          · exact HP9.out x h2
          · rw [List.mem_singleton.1 h2]; exact HPV9.out
        exact (h1.kept k10 (fun y _ _ hy => hown y hy)).kept k11 (fun y _ _ hy => hev y hy)
      have HPV11 : Hid (Pgv w11 b0 p' q) := HP11.out (p', q) (by simp)
      have HT11 : Hid (Tmp w11 M n b0 (allR (pq.map (·.1)))) := (HT9.out.kept k10 (fun e => by have := HR9.out.ge e; omega) (fun y _ _ ⟨cs', fr, hc⟩ => hown y ⟨_, cs', fr, hc, .inr (.inr rfl)⟩)).kept k11 (by omega) (fun y _ _ ⟨cs', fr, hc⟩ => hev y ⟨_, cs', fr, hc, .inr (.inr rfl)⟩)
      have HL11 : Hid (Lgm w11 L (k + 1) (pq.map (·.1) ++ [p'])) := by
        obtain ⟨f, hm, hf⟩ := HL9.out
        exact ⟨f, (hm.kept k10 (fun e => by have := HR9.out.ge e; omega)).kept k11 (by omega), hf⟩
      have HK11 : Hid (Kept (fun x => x ≠ E ∧ x ≠ M ∧ x ≠ L ∧ x < w3.heap.size) w3 w11) := (HK9.out.then k10 (fun x hx h e => by have := HR9.out.ge e; omega)).then k11 (fun x hx h => h.1)
      have hbw : b0 ≤ w11.heap.size := by have := HB.out; have := HK11.out.size; omega
      have hcount : n + p'.es.length ≤ 1000000 := by
        have h1 := HNK.out
        have h2 := HPP.out.2.2.2.2
        have h3 := Nat.mul_le_mul_right 4096 hk200
        omega
      have hokp : ∀ x ∈ p'.es, Okr x.1.r := fun x hx => by
        have h1 : x.1 ∈ p'.es.map (·.1) := List.mem_map.2 ⟨x, hx, rfl⟩
        rw [HPP.out.2.2.1] at h1
        exact entG_okr _ _ h1
      have ch := hear_any HE11.out HT11.out hbw HPV11.out hcount hokp (pgs_okr HGr.out)
      obtain ⟨x0, x1, x2, x3, x4, x5⟩ := FB11.out.six
      rw [← hw11]
      unfold pcell at ch
      clear hw11 hown hev hE10 k10 k11 hokp hcount hbw hnn hxb x0A x1A x2A x3A x4A x5A g0A g0 g1 gf e27 f27 FB9 HE9 HR9 HP9 HPV9 HT9 HL9 HK9 ho10 hg10 hl10 hEo hBo hElt hBlt
      go_wp2_with (go_at_call 58; (with_reducible refine Calls.mono ch ?_); rintro e w12 ⟨rfl, ht12, k12⟩; have HT12 : Hid (Tmp w12 M (n + p'.es.length) b0 (allR (pq.map (·.1)) ++ p'.es.map (·.1.r))) := ht12; have K12 : Hid (Kept (· ≠ M) w11 w12) := k12; clear ht12 k12)
      go_roundw
      case rel =>
        have hnn := HN.out
        have hnm : ∀ y, (∃ cs t fr, w11.heap[y]? = some (.cells cs t fr)) → y ≠ M := fun y ⟨cs', t, fr, hc⟩ => HT11.out.ne hc
        refine ⟨k + 1, n + p'.es.length, pq ++ [(p', q)], a10, c10, by have := HI.out; omega, by go_num, by rw [List.length_append, HPL.out]; rfl, ?_, HE11.out.kept K12.out (by omega), HR11.out.kept K12.out (fun x hx e => by have := HR11.out.ge hx; omega), fun x hx => (HP11.out x hx).kept K12.out (fun y _ _ ⟨t, cs', fr, hc, _⟩ => hnm y ⟨cs', t, fr, hc⟩), ?_, ?_, ?_, HK11.out.then K12.out (fun x _ h => h.2.1)⟩
        · have h1 := HNK.out
          have h2 := HPP.out.2.2.2.2
          rw [Nat.succ_mul]
          omega
        · rw [List.map_append, List.map_singleton, allR_snoc]
          exact HT12.out
        · rw [List.map_append, List.map_singleton]
          obtain ⟨f, hm, hf⟩ := HL11.out
          exact ⟨f, hm.kept K12.out (by omega), hf⟩
        · rw [HTK.out, List.map_append, List.map_singleton]
          exact HGr.out.snoc HPP.out.1 HPP.out.2.1 HPP.out.2.2.1 HPP.out.2.2.2.1
      case measure => have := HI.out; simp [intOf]; omega
    · obtain rfl : k = cs.length := by omega
      have i1 : ¬ ((cs.length : Nat) : Int) < (cs.length : Int) := by omega
      have HF : Hid (GE wr E M n w.heap.size pq ap cp ∧ Pgs cs (pq.map (·.1)) ∧ Kept (fun _ => True) w wr) := by
        have hnn := HN.out
        refine ⟨⟨by rw [HPL.out]; exact HEr.out, ?_, ?_, ?_⟩, ?_, KWr.out⟩
        · rw [HPL.out]
          exact HRr.out.low (by omega)
        · rw [← HB.out]; exact HPr.out
        · rw [← HB.out]; exact HTr.out
        · have := HGr.out
          rwa [List.take_length] at this
      clear HEr HRr HPr HTr HLr HGr HKr KWr HPL HNK hk hlt
      go_wp2_with fail
      go_ret
      exact ⟨E, rfl, M, n, pq, ⟨ap, cp, HF.out.1⟩, HF.out.2⟩

end Go.Proofs.Ytmcaoimgmgjjiaa
