/-
  Texts of the proofs, 20 of 52.
-/
import Derived.Test.YtmcaoimgmgjjiaaWI
import Derived.Test.YtmcaoimgmgjjiaaWS
namespace Go.Proofs.Ytmcaoimgmgjjiaa
open Go.RowKit Go.Maps Go.Sort

theorem num_key : Maps.Keyed Try.prog 3 := Maps.int_keyed Try.underlying3
def Fits (z : Int) : Prop := -9223372036854775808 ≤ z ∧ z ≤ 9223372036854775807
theorem num_of {z : Int} (hs : Fits z) : keyOf Try.prog 3 (.int .i64 z) = some (.int .i64 z) :=
  Maps.keyOf_int_mk Try.underlying3 (WalkArith.wf_i64 hs)
theorem numlit_ne {a b : Int} (h : a ≠ b) : (Lit.int .i64 a) ≠ (Lit.int .i64 b) := by
  intro e; simp at e; exact h e
section
variable {α : Type} {C : Cde α}
structure HoldsI (C : Cde α) (D : DataW Unit) (f : Int → Option α) : Prop where
  no : ∀ z : Int, f z = none → Maps.has D (.int .i64 z) = false
  yes : ∀ (z : Int) a, f z = some a → ∀ d, D.atKey (.int .i64 z) d = C.dat a
def MpI (C : Cde α) (w : World) (b n : Nat) (f : Int → Option α) : Prop := ∃ D : DataW Unit, w.ownsMap Try.prog 3 C.R b n D ∧ HoldsI C D f
variable {w w' : World} {b n : Nat} {f : Int → Option α}
theorem MpI.lt (h : MpI C w b n f) : b < w.heap.size := by obtain ⟨D, ho, _⟩ := h; exact ho.lt
theorem MpI.isMap (h : MpI C w b n f) : ∃ es clock, w.heap[b]? = some (.map es clock) := by obtain ⟨D, ⟨es, clock, hb, _⟩, _⟩ := h; exact ⟨es, clock, hb⟩
theorem MpI.kept {p : Nat → Prop} (h : MpI C w b n f) (k : Kept p w w') (hp : p b) : MpI C w' b n f := by
  have hlt := h.lt
  obtain ⟨D, ⟨es, clock, hb, r⟩, hh⟩ := h
  exact ⟨D, ⟨es, clock, (k.block b hlt hp).trans hb, r⟩, hh⟩
theorem MpI.mono {m : Nat} (h : MpI C w b n f) (hm : n ≤ m) : MpI C w b m f := by
  obtain ⟨D, ho, hh⟩ := h; exact ⟨D, ho.mono hm, hh⟩
theorem MpI.made (C : Cde α) (w : World) : MpI C (w.alloc (.map #[] 0)) w.heap.size 0 (fun _ => none) :=
  ⟨.map [], World.ownsMap_made _ _ _ _, fun _ _ => rfl, fun _ _ h => by cases h⟩
theorem MpI.ne (h : MpI C w b n f) {X : Nat} {cs : Array Value} {t : TypeId} {fr : Nat × Nat} (hX : w.heap[X]? = some (.cells cs t fr)) : X ≠ b := fun e => by
  obtain ⟨es, clock, hmm⟩ := h.isMap
  subst e
  rw [hmm] at hX
  cases hX
theorem HoldsI.at {D : DataW Unit} (h : HoldsI C D f) (z : Int) (d : α) : D.atKey (.int .i64 z) (C.dat d) = C.dat ((f z).getD d) ∧ Maps.has D (.int .i64 z) = (f z).isSome := by
  cases hf : f z with
  | none => exact ⟨Maps.atKey_of_not_has (h.no z hf) _, h.no z hf⟩
  | some a => exact ⟨h.yes z a hf _, Maps.has_true_of_atKey (h.yes z a hf)⟩
theorem MpI.look (h : MpI C w b n f) {t e : TypeId} (ht : Try.prog.underlying t = some (.map 3 e)) {d : α} (hd : (zeroValue e).run Try.prog w = .ok (C.enc d) w) {z : Int} (hz : Fits z) :
    (Instr.lookup t (.map (some b)) (.int .i64 z) true).run Try.prog w = .ok (.tuple #[C.enc ((f z).getD d), .bool (f z).isSome]) w := by
  obtain ⟨D, ho, hh⟩ := h
  obtain ⟨v, ps, hr, hv⟩ := ho.look_ok num_key ht hd (C.reads d) (num_of hz)
  rw [(hh.at z d).2] at hr
  rw [(hh.at z d).1] at hv
  obtain ⟨y, rfl, hy⟩ := C.inv _ _ hv
  simp only [Prod.mk.injEq] at hy
  rw [← C.inj _ _ hy.1] at hr
  exact hr
def putI (f : Int → Option α) (x : Int) (a : α) : Int → Option α := fun y => if y = x then some a else f y
theorem HoldsI.put {D : DataW Unit} (hm : Maps.IsMap D) (h : HoldsI C D f) (x : Int) (a : α) : HoldsI C (D.put (.int .i64 x) (C.dat a)) (putI f x a) := by
  have hk : WideAt.IsKeyLit (.int .i64 x) := trivial
  refine ⟨fun y e => ?_, fun y v e d => ?_⟩
  · unfold putI at e
    split at e
    · cases e
    · rename_i hne
      rw [Maps.has_put_other (numlit_ne hne)]
      exact h.no y e
  · unfold putI at e
    split at e
    · rename_i he
      subst he
      cases e
      exact Maps.atKey_put_same hm hk _ _
    · rename_i hne
      rw [Maps.atKey_put_other (numlit_ne hne)]
      exact h.yes y v e d
theorem MpI.store (h : MpI C w b n f) {t e : TypeId} (ht : Try.prog.underlying t = some (.map 3 e)) {x : Int} (hx : Fits x) (hn : n ≤ 1000000) (a : α) :
    ∃ w', (Instr.mapUpdate t (.map (some b)) (.int .i64 x) (C.enc a)).run Try.prog w = .ok () w' ∧ MpI C w' b (n + 1) (putI f x a) ∧ Kept (· ≠ b) w w' ∧ w'.heap.size = w.heap.size := by
  obtain ⟨D, ho, hh⟩ := h
  obtain ⟨w', hr, h1, h2⟩ := ho.store num_key ht (by unfold maxLen; omega) (num_of hx) (C.reads a)
  exact ⟨w', hr, ⟨_, h1, hh.put ho.isMap x a⟩, turned_kept h2, turned_same h2⟩
end

end Go.Proofs.Ytmcaoimgmgjjiaa

namespace Go.Proofs.Ytmcaoimgmgjjiaa
open Go.RowKit Go.Maps Go.Sort

structure Uc where
  g : Int
  bs : List UInt8
  a : Option Addr
  c : Nat
def ccell (x : Uc) : List Value := [.int .i64 x.g, .slice x.a x.bs.length x.c]
def claimS : Shp Uc := ⟨2, ccell, fun _ => rfl, fun p u hu => by
  simp only [ccell, List.mem_cons, List.not_mem_nil, or_false] at hu
  rcases hu with rfl | rfl <;> rfl⟩
structure Cv (w : World) (a : Option Addr) (cs : List Uc) : Prop where
  vw : Vw claimS w a cs
  has : ∀ c ∈ cs, Has w c.a c.bs
  len : ∀ c ∈ cs, (c.bs.length : Int) ≤ 140737488355328
  fit : ∀ c ∈ cs, Fits c.g
theorem Cv.all {w w' : World} {a : Option Addr} {cs : List Uc} (h : Cv w a cs) (k : Kept (fun _ => True) w w') : Cv w' a cs := ⟨h.vw.all k, fun c hc => (h.has c hc).kept k (fun _ _ => trivial), h.len, h.fit⟩

def lgA (g : Int) : List Up → Nat → Option (Nat × Nat) → Option (Nat × Nat)
  | [], _, acc => acc
  | p :: ps, i, acc => lgA g ps (i + 1) (if p.g = g ∧ (∀ m, acc.map (·.2) = some m → m < p.ls.length) then some (i, p.ls.length) else acc)
theorem lgA_snoc (g : Int) (p : Up) : ∀ (ps : List Up) (i : Nat) (acc : Option (Nat × Nat)), lgA g (ps ++ [p]) i acc = if p.g = g ∧ (∀ m, (lgA g ps i acc).map (·.2) = some m → m < p.ls.length) then some (i + ps.length, p.ls.length) else lgA g ps i acc
  | [], i, acc => rfl
  | q :: ps, i, acc => by
    rw [List.cons_append, lgA, lgA, lgA_snoc g p ps]
    simp only [List.length_cons]
    rw [show i + 1 + ps.length = i + (ps.length + 1) by omega]
def lg (ps : List Up) (g : Int) : Option (Nat × Nat) := lgA g ps 0 none
theorem lg_snoc (ps : List Up) (p : Up) (g : Int) : lg (ps ++ [p]) g = if p.g = g ∧ (∀ m, (lg ps g).map (·.2) = some m → m < p.ls.length) then some (ps.length, p.ls.length) else lg ps g := by
  unfold lg
  rw [lgA_snoc, Nat.zero_add]
theorem lgA_ok (g : Int) : ∀ (ps qs : List Up) (acc : Option (Nat × Nat)), (∀ o m, acc = some (o, m) → ∃ h : o < (qs ++ ps).length, (qs ++ ps)[o].ls.length = m ∧ (qs ++ ps)[o].g = g) → ∀ o m, lgA g ps qs.length acc = some (o, m) → ∃ h : o < (qs ++ ps).length, (qs ++ ps)[o].ls.length = m ∧ (qs ++ ps)[o].g = g
  | [], qs, acc, h, o, m, e => h o m e
  | p :: ps, qs, acc, h, o, m, e => by
    rw [lgA] at e
    have e2 : qs ++ p :: ps = (qs ++ [p]) ++ ps := by simp
    rw [show qs.length + 1 = (qs ++ [p]).length by simp] at e
    simp only [e2] at h ⊢
    refine lgA_ok g ps (qs ++ [p]) _ (fun o' m' e' => ?_) o m e
    split at e'
    · rename_i hc
      cases e'
      refine ⟨by simp, ?_⟩
      have : (qs ++ [p] ++ ps)[qs.length]'(by simp) = p := by simp
      rw [this]
      exact ⟨rfl, hc.1⟩
    · exact h o' m' e'
theorem lg_ok (ps : List Up) (g : Int) (o m : Nat) (h : lg ps g = some (o, m)) : ∃ hh : o < ps.length, ps[o].ls.length = m ∧ ps[o].g = g := by
  have := lgA_ok g ps [] none (fun _ _ e => by cases e) o m h
  simpa using this
def lgI (ps : List Up) (g : Int) : Int := match lg ps g with
  | none => -1
  | some (o, _) => (o : Int)
structure Pgs (cs : List Uc) (ps : List Up) : Prop where
  len : ps.length = cs.length
  grp : ∀ i (h1 : i < ps.length) (h2 : i < cs.length), ps[i].g = cs[i].g
  dec : ∀ i (h1 : i < ps.length) (h2 : i < cs.length), IsDec cs[i].bs ps[i].ls ps[i].y ps[i].z
  ent : ∀ i (h1 : i < ps.length), ps[i].es.map (·.1) = entG (txs ps[i].ls) []
  lo : ∀ i (h1 : i < ps.length), ps[i].lo = lgI (ps.take i) ps[i].g
theorem Pgs.nil : Pgs [] [] := ⟨rfl, fun _ h => by simp at h, fun _ h => by simp at h, fun _ h => by simp at h, fun _ h => by simp at h⟩
theorem Pgs.snoc {cs : List Uc} {ps : List Up} {c : Uc} {p : Up} (h : Pgs cs ps) (h1 : p.g = c.g) (h2 : IsDec c.bs p.ls p.y p.z) (h3 : p.es.map (·.1) = entG (txs p.ls) []) (h4 : p.lo = lgI ps p.g) : Pgs (cs ++ [c]) (ps ++ [p]) := by
  have hl := h.len
  have key : ∀ i, i < (ps ++ [p]).length → (i < ps.length ∧ i < cs.length) ∨ (i = ps.length ∧ i = cs.length) := fun i hi => by
    rw [List.length_append, List.length_singleton] at hi
    omega
  refine ⟨by simp [hl], fun i q1 q2 => ?_, fun i q1 q2 => ?_, fun i q1 => ?_, fun i q1 => ?_⟩
  · rcases key i q1 with ⟨a, b⟩ | ⟨a, b⟩
    · rw [List.getElem_append_left a, List.getElem_append_left b]; exact h.grp i a b
    · simp only [List.getElem_append_right (show ps.length ≤ i by omega), List.getElem_append_right (show cs.length ≤ i by omega), List.getElem_singleton]; exact h1
  · rcases key i q1 with ⟨a, b⟩ | ⟨a, b⟩
    · rw [List.getElem_append_left a, List.getElem_append_left b]; exact h.dec i a b
    · simp only [List.getElem_append_right (show ps.length ≤ i by omega), List.getElem_append_right (show cs.length ≤ i by omega), List.getElem_singleton]; exact h2
  · rcases key i q1 with ⟨a, b⟩ | ⟨a, b⟩
    · rw [List.getElem_append_left a]; exact h.ent i a
    · simp only [List.getElem_append_right (show ps.length ≤ i by omega), List.getElem_singleton]; exact h3
  · rcases key i q1 with ⟨a, b⟩ | ⟨a, b⟩
    · rw [List.getElem_append_left a, List.take_append_of_le_length (by omega)]; exact h.lo i a
    · subst a
      rw [List.take_left]
      simp only [List.getElem_append_right (Nat.le_refl _), Nat.sub_self, List.getElem_singleton]
      exact h4
def allR (ps : List Up) : List Ur := ps.flatMap fun p => p.es.map (·.1.r)
theorem allR_snoc (ps : List Up) (p : Up) : allR (ps ++ [p]) = allR ps ++ p.es.map (·.1.r) := by simp [allR]
theorem pgs_okr {cs : List Uc} {ps : List Up} (h : Pgs cs ps) : ∀ r ∈ allR ps, Okr r := fun r hr => by
  obtain ⟨p, hp, hr⟩ := List.mem_flatMap.1 hr
  obtain ⟨x, hx, rfl⟩ := List.mem_map.1 hr
  obtain ⟨i, hi, rfl⟩ := List.getElem_of_mem hp
  have h1 : x.1 ∈ ps[i].es.map (·.1) := List.mem_map.2 ⟨x, hx, rfl⟩
  rw [h.ent i hi] at h1
  exact entG_okr _ _ h1
def pageS : Shp (Up × Ua) := ⟨6, fun p => pcell p.1 p.2, fun _ => rfl, fun p u hu => by
  simp only [pcell, List.mem_cons, List.not_mem_nil, or_false] at hu
  rcases hu with rfl | rfl | rfl | rfl | rfl | rfl <;> rfl⟩
theorem pageT : ElT 110 116 pageS.n 80 (.agg #[.int .i64 0, .slice none 0 0, .int .i64 0, .int .i64 0, .slice none 0 0, .int .i64 0]) :=
  ⟨Try.underlying110, by kernel_rfl, by simp [Value.cells, pageS], by decide, by decide⟩
def Lgm (w : World) (L n : Nat) (ps : List Up) : Prop := ∃ f : Int → Option Int, MpI codeI w L n f ∧ ∀ g, f g = (lg ps g).map fun q => (q.1 : Int)

end Go.Proofs.Ytmcaoimgmgjjiaa
