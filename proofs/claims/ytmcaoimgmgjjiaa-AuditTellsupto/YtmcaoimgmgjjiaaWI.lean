/-
  Texts of the proofs, 9 of 52.
-/
import Derived.Test.YtmcaoimgmgjjiaaWB
import Derived.Maps.OwnSet
import Derived.Maps.RangeWalk
import Derived.Sort.KeysCollected
import Derived.Test.YtmcaoimgmgjjiaaWH
import Derived.Test.YtmcaoimgmgjjiaaWE
import Derived.Test.YtmcaoimgmgjjiaaWG
namespace Go.Proofs.Ytmcaoimgmgjjiaa
open Go.RowKit Go.Maps Go.Sort

structure Cde (α : Type) where
  enc : α → Value
  dat : α → DataW Unit
  R : Value → Option (DataW Unit × List MemPlace)
  reads : ∀ x, R (enc x) = some (dat x, [])
  inv : ∀ v z, R v = some z → ∃ x, v = enc x ∧ z = (dat x, [])
  inj : ∀ x y, dat x = dat y → x = y

theorem text_keyed : Maps.Keyed Try.prog 9 := Maps.string_keyed Try.underlying9
theorem text_keyOf {x : List UInt8} (h : x.length ≤ 9223372036854775807) : keyOf Try.prog 9 (.string ⟨x.toArray⟩) = some (.string x) := by
  have := WideMaps.keyOf_string_mk (P := Try.prog) (k := 9) Try.underlying9 (s := ⟨x.toArray⟩) (by simp [ByteArray.size, maxLen]; omega)
  simpa using this
theorem turned_kept {w w' : World} {b : Nat} (h : w.mapTurned w' b) : Kept (· ≠ b) w w' := by
  have g := h.grown
  exact ⟨g.os, g.tape, g.output, g.size, fun k hk hne => g.block k hk (fun e => hne (by cases e; rfl))⟩
theorem turned_same {w w' : World} {b : Nat} (h : w.mapTurned w' b) : w'.heap.size = w.heap.size := by
  obtain ⟨es, clock, es', clock', hb, rfl⟩ := h
  simp [ChangeMaps.setBlock]
theorem strlit_ne {a b : List UInt8} (h : a ≠ b) : (Lit.string a) ≠ (Lit.string b) := by
  intro e; simp at e; exact h e

section
variable {α : Type} {C : Cde α}

structure Holds (C : Cde α) (D : DataW Unit) (f : List UInt8 → Option α) : Prop where
  no : ∀ x, f x = none → Maps.has D (.string x) = false
  yes : ∀ x a, f x = some a → ∀ d, D.atKey (.string x) d = C.dat a
def Mp (C : Cde α) (w : World) (b n : Nat) (f : List UInt8 → Option α) : Prop := ∃ D : DataW Unit, w.ownsMap Try.prog 9 C.R b n D ∧ Holds C D f

variable {w w' : World} {b n : Nat} {mb : Option Nat} {f : List UInt8 → Option α}

theorem Mp.lt (h : Mp C w b n f) : b < w.heap.size := by obtain ⟨D, ho, _⟩ := h; exact ho.lt
theorem Mp.isMap (h : Mp C w b n f) : ∃ es clock, w.heap[b]? = some (.map es clock) := by obtain ⟨D, ⟨es, clock, hb, _⟩, _⟩ := h; exact ⟨es, clock, hb⟩
theorem Mp.kept {p : Nat → Prop} (h : Mp C w b n f) (k : Kept p w w') (hp : p b) : Mp C w' b n f := by
  have hlt := h.lt
  obtain ⟨D, ⟨es, clock, hb, r⟩, hh⟩ := h
  exact ⟨D, ⟨es, clock, (k.block b hlt hp).trans hb, r⟩, hh⟩
theorem Mp.made (C : Cde α) (w : World) : Mp C (w.alloc (.map #[] 0)) w.heap.size 0 (fun _ => none) :=
  ⟨.map [], World.ownsMap_made _ _ _ _, fun _ _ => rfl, fun _ _ h => by cases h⟩
theorem Holds.at {D : DataW Unit} (h : Holds C D f) (x : List UInt8) (z : α) : D.atKey (.string x) (C.dat z) = C.dat ((f x).getD z) ∧ Maps.has D (.string x) = (f x).isSome := by
  cases hf : f x with
  | none => exact ⟨Maps.atKey_of_not_has (h.no x hf) _, h.no x hf⟩
  | some a => exact ⟨h.yes x a hf _, Maps.has_true_of_atKey (h.yes x a hf)⟩
theorem Mp.look1 (h : Mp C w b n f) {t e : TypeId} (ht : Try.prog.underlying t = some (.map 9 e)) {z : α} (hz : (zeroValue e).run Try.prog w = .ok (C.enc z) w) {x : List UInt8} (hx : x.length ≤ 9223372036854775807) :
    (Instr.lookup t (.map (some b)) (.string ⟨x.toArray⟩) false).run Try.prog w = .ok (C.enc ((f x).getD z)) w := by
  obtain ⟨D, ho, hh⟩ := h
  obtain ⟨v, ps, hr, hv⟩ := ho.lookup text_keyed ht hz (C.reads z) (text_keyOf hx)
  rw [(hh.at x z).1] at hv
  obtain ⟨y, rfl, hy⟩ := C.inv _ _ hv
  simp only [Prod.mk.injEq] at hy
  rw [← C.inj _ _ hy.1] at hr
  exact hr

def putM (f : List UInt8 → Option α) (x : List UInt8) (a : α) : List UInt8 → Option α := fun y => if y = x then some a else f y
def cutM (f : List UInt8 → Option α) (x : List UInt8) : List UInt8 → Option α := fun y => if y = x then none else f y

theorem Holds.put {D : DataW Unit} (hm : Maps.IsMap D) (h : Holds C D f) (x : List UInt8) (a : α) : Holds C (D.put (.string x) (C.dat a)) (putM f x a) := by
  have hk : WideAt.IsKeyLit (.string x) := trivial
  refine ⟨fun y e => ?_, fun y v e d => ?_⟩
  · unfold putM at e
    split at e
    · cases e
    · rename_i hne
      rw [Maps.has_put_other (strlit_ne hne)]
      exact h.no y e
  · unfold putM at e
    split at e
    · rename_i he
      subst he
      cases e
      exact Maps.atKey_put_same hm hk _ _
    · rename_i hne
      rw [Maps.atKey_put_other (strlit_ne hne)]
      exact h.yes y v e d
theorem Mp.store (h : Mp C w b n f) {t e : TypeId} (ht : Try.prog.underlying t = some (.map 9 e)) {x : List UInt8} (hx : x.length ≤ 9223372036854775807) (hn : n ≤ 1000000) (a : α) :
    ∃ w', (Instr.mapUpdate t (.map (some b)) (.string ⟨x.toArray⟩) (C.enc a)).run Try.prog w = .ok () w' ∧ Mp C w' b (n + 1) (putM f x a) ∧ Kept (· ≠ b) w w' ∧ w'.heap.size = w.heap.size := by
  obtain ⟨D, ho, hh⟩ := h
  obtain ⟨w', hr, h1, h2⟩ := ho.store text_keyed ht (by unfold maxLen; omega) (text_keyOf hx) (C.reads a)
  exact ⟨w', hr, ⟨_, h1, hh.put ho.isMap x a⟩, turned_kept h2, turned_same h2⟩
def Count {α : Type} (f : List UInt8 → Option α) (k : Nat) : Prop := ∃ ks : List (List UInt8), ks.Nodup ∧ ks.length = k ∧ ∀ x, x ∈ ks ↔ f x ≠ none
def Mo (C : Cde α) (w : World) (mb : Option Nat) (n : Nat) (f : List UInt8 → Option α) : Prop := (mb = none ∧ ∀ x, f x = none) ∨ ∃ b, mb = some b ∧ Mp C w b n f
end

end Go.Proofs.Ytmcaoimgmgjjiaa

namespace Go.Proofs.Ytmcaoimgmgjjiaa
open Go.RowKit Go.Maps Go.Sort

structure Ue where
  r : Ur
  ah : K4
def kin (es : List Ue) (tx : List UInt8) : K4 := ⟨es.any fun e => decide (e.r.tx = tx) && (e.r.k == 1), es.any fun e => decide (e.r.tx = tx) && (e.r.k == 2), es.any fun e => decide (e.r.tx = tx) && (e.r.k == 3), es.any fun e => decide (e.r.tx = tx) && (e.r.k == 4)⟩
theorem kin_snoc (es : List Ue) (x : Ue) (tx : List UInt8) : kin (es ++ [x]) tx = if x.r.tx = tx then (kin es tx).put x.r.k else kin es tx := by
  by_cases h : x.r.tx = tx
  · rw [if_pos h]
    simp [kin, K4.put, h]
  · rw [if_neg h]
    simp [kin, h]
def entO : List (Option Ur) → List Ue → List Ue
  | [], es => es
  | none :: _, es => es
  | some r :: ts, es => entO ts (es ++ [⟨r, kin es r.tx⟩])
def entG (ts : List (List UInt8)) (es : List Ue) : List Ue := entO (ts.map rec?) es
theorem entG_nil (es : List Ue) : entG [] es = es := rfl
theorem entG_none {t : List UInt8} {ts : List (List UInt8)} {es : List Ue} (h : rec? t = none) : entG (t :: ts) es = es := by
  unfold entG
  rw [List.map_cons, h]
  rfl
theorem entG_some {t : List UInt8} {ts : List (List UInt8)} {es : List Ue} {r : Ur} (h : rec? t = some r) : entG (t :: ts) es = entG ts (es ++ [⟨r, kin es r.tx⟩]) := by
  unfold entG
  rw [List.map_cons, h]
  rfl

abbrev Uz := Ue × (Option Addr × Nat)
def ecell (p : Uz) : List Value := [.int .i64 (p.1.r.k : Nat), .string ⟨p.1.r.tx.toArray⟩, .slice p.2.1 p.1.r.gs.length p.2.2, .string ⟨p.1.r.bd.toArray⟩, .int .i64 (p.1.ah.val : Nat)]
def entS : Shp Uz := ⟨5, ecell, fun _ => rfl, fun p u hu => by
  simp only [ecell, List.mem_cons, List.not_mem_nil, or_false] at hu
  rcases hu with rfl | rfl | rfl | rfl | rfl <;> rfl⟩
theorem entT : ElT 114 124 entS.n 72 (.agg #[.int .i64 0, .string .empty, .slice none 0 0, .string .empty, .int .i64 0]) :=
  ⟨Try.underlying114, by kernel_rfl, by simp [Value.cells, entS], by decide, by decide⟩
def Eg (w : World) (b : Nat) (xs : List Uz) : Prop := ∀ p ∈ xs, Its w b (.slice p.2.1 p.1.r.gs.length p.2.2) p.1.r.gs
theorem Eg.kept {q : Nat → Prop} {w w' : World} {b : Nat} {xs : List Uz} (h : Eg w b xs) (k : Kept q w w') (hq : ∀ x, b ≤ x → x < w.heap.size → (∃ cs fr, w.heap[x]? = some (.cells cs 3 fr)) → q x) : Eg w' b xs := fun p hp => (h p hp).kept k (fun x hx => by
  refine hq x (World.ownsRow.lt (h p hp) x hx).1 (World.ownsRow.lt (h p hp) x hx).2 ?_
  rcases (h p hp).2 with ⟨e, _⟩ | ⟨g, cap, cur, e, _, hg, _⟩
  · rw [e] at hx; cases hx
  · rw [e] at hx; cases hx; exact ⟨_, _, hg⟩)
theorem Eg.all {w w' : World} {b : Nat} {xs : List Uz} (h : Eg w b xs) (k : Kept (fun _ => True) w w') : Eg w' b xs := h.kept k (fun _ _ _ _ => trivial)
theorem Eg.nil (w : World) (b : Nat) : Eg w b [] := fun p hp => by cases hp
theorem Eg.low {w : World} {b c : Nat} {xs : List Uz} (h : Eg w b xs) (hc : c ≤ b) : Eg w c xs := fun p hp => World.ownsRow.mono (h p hp) hc
theorem Eg.snoc {w : World} {b : Nat} {xs : List Uz} (h : Eg w b xs) {x : Uz} (hx : Its w b (.slice x.2.1 x.1.r.gs.length x.2.2) x.1.r.gs) : Eg w b (xs ++ [x]) := fun p hp => by
  rcases List.mem_append.1 hp with h1 | h1
  · exact h p h1
  · rw [List.mem_singleton.1 h1]; exact hx

def intDu (n : Int) : DataW Unit := .lit (.int .i64 n)
def intRu : Value → Option (DataW Unit × List MemPlace)
  | .int .i64 n => some (intDu n, [])
  | _ => none
theorem intRu_inv (v : Value) (z : DataW Unit × List MemPlace) (h : intRu v = some z) : ∃ x : Int, v = .int .i64 x ∧ z = (intDu x, []) := by
  unfold intRu at h
  split at h
  · exact ⟨_, rfl, by simpa using h.symm⟩
  · cases h
def codeI : Cde Int := ⟨Value.int .i64, intDu, intRu, fun _ => rfl, intRu_inv, fun x y h => by simpa [intDu] using h⟩
theorem zeroKinds (w : World) : (zeroValue 82).run Try.prog w = .ok (codeI.enc 0) w := by kernel_rfl
def Ahd (w : World) (A n : Nat) (es : List Ue) : Prop := ∃ f : List UInt8 → Option Int, Mp codeI w A n f ∧ ∀ tx, (f tx).getD 0 = ((kin es tx).val : Int)
section
variable {w w' : World} {A n : Nat} {es : List Ue}
theorem Ahd.kept {p : Nat → Prop} (h : Ahd w A n es) (k : Kept p w w') (hp : p A) : Ahd w' A n es := by
  obtain ⟨f, hm, hf⟩ := h
  exact ⟨f, hm.kept k hp, hf⟩
theorem Ahd.lt (h : Ahd w A n es) : A < w.heap.size := by obtain ⟨f, hm, _⟩ := h; exact hm.lt
theorem Ahd.look (h : Ahd w A n es) {tx : List UInt8} (hx : tx.length ≤ 9223372036854775807) : (Instr.lookup 146 (.map (some A)) (.string ⟨tx.toArray⟩) false).run Try.prog w = .ok (.int .i64 ((kin es tx).val : Nat)) w := by
  obtain ⟨f, hm, hf⟩ := h
  have := hm.look1 Try.underlying146 (zeroKinds w) hx
  rw [hf tx] at this
  exact this
theorem Ahd.store (h : Ahd w A n es) (x : Ue) (hx : x.r.tx.length ≤ 9223372036854775807) (hn : n ≤ 1000000) :
    ∃ w', (Instr.mapUpdate 146 (.map (some A)) (.string ⟨x.r.tx.toArray⟩) (.int .i64 (((kin es x.r.tx).put x.r.k).val : Nat))).run Try.prog w = .ok () w' ∧ Ahd w' A (n + 1) (es ++ [x]) ∧ Kept (· ≠ A) w w' ∧ w'.heap.size = w.heap.size := by
  obtain ⟨f, hm, hf⟩ := h
  obtain ⟨w', hr, h1, h2, h3⟩ := hm.store Try.underlying146 hx hn (((kin es x.r.tx).put x.r.k).val : Nat)
  refine ⟨w', hr, ⟨_, h1, fun tx => ?_⟩, h2, h3⟩
  unfold putM
  rw [kin_snoc]
  by_cases e : tx = x.r.tx
  · subst e
    rw [if_pos rfl, if_pos rfl]
    rfl
  · rw [if_neg e, if_neg (fun q => e q.symm)]
    exact hf tx
end

end Go.Proofs.Ytmcaoimgmgjjiaa

namespace Go.Proofs.Ytmcaoimgmgjjiaa
open Go.RowKit

def putN (bs : List UInt8) (o x : Nat) : Nat → List UInt8
  | 0 => bs
  | k + 1 => (putN bs o x k).set (o + k) (UInt8.ofNat (x / 256 ^ (3 - k)))
theorem putN_length (bs : List UInt8) (o x k : Nat) : (putN bs o x k).length = bs.length := by
  induction k with
  | zero => rfl
  | succ k ih => simp [putN, ih]
theorem putN_four (l r : List UInt8) (a b c d : UInt8) (x : Nat) : putN (l ++ [a, b, c, d] ++ r) l.length x 4 = l ++ bytesOf x 4 ++ r := by
  simp only [putN, bytesOf, Nat.add_zero]
  rw [List.append_assoc, List.append_assoc]
  have s : ∀ (k : Nat) (m : List UInt8) (y : UInt8), (l ++ m).set (l.length + k) y = l ++ m.set k y := fun k m y => by
    rw [List.set_append_right _ _ (by omega), Nat.add_sub_cancel_left]
  have s0 : ∀ (m : List UInt8) (y : UInt8), (l ++ m).set l.length y = l ++ m.set 0 y := fun m y => s 0 m y
  rw [s0, s, s, s]
  rfl

theorem byte_mod (x d : Nat) (z : Int) (h : z = ((x / d % 256 : Nat) : Int)) : z = ((UInt8.ofNat (x / d)).toNat : Int) := by
  rw [UInt8.toNat_ofNat', h]

set_option maxHeartbeats 1000000 in
theorem putWord_any {w : World} {b t o n cap : Nat} {bs : List UInt8} (x : Nat) (hx : x < 4294967296) (ha : Ar w b t (cells bs)) (ho : o + 4 ≤ bs.length) (hn : 4 ≤ n) :
    Calls Try.prog 97 #[.slice (some ⟨b, o, none⟩) n cap, .int .u32 x] w fun e w' => e = .returned (.tuple #[]) ∧ Ar w' b t (cells (putN bs o x 4)) ∧ Kept (· ≠ b) w w' ∧ w'.heap.size = w.heap.size := by
  have hn' : (4 : Int) ≤ (n : Int) := by omega
  go_enter Try.func97, Try.ntmps97
  go_wp2
  go_loopw [5] (fun ti wr => ∃ k : Nat, k ≤ 4 ∧ ti = .int .i64 k ∧ Ar wr b t (cells (putN bs o x k)) ∧ Kept (· ≠ b) w wr ∧ Hid (wr.heap.size = w.heap.size)) (fun ti _ => 4 - (intOf ti).toNat)
  case atStart => exact ⟨0, by omega, rfl, ha, Kept.refl _ _, rfl⟩
  case round =>
    clear ha
    obtain ⟨k, hk, rfl, ar, kr, sr⟩ := hrel
    by_cases hlk : k < 4
    · have hc : ∃ y, wr.cell? ⟨b, o + k, none⟩ = some y := ⟨_, by rw [ar.cell, cells_getElem _ _ (by rw [putN_length]; omega)]⟩
      obtain ⟨y, hc⟩ := hc
      have hf := ar.free (o + k)
      have HS : Hid (∀ z : UInt8, Ar (wr.setCell ⟨b, o + k, none⟩ (.int .u8 z.toNat)) b t (cells ((putN bs o x k).set (o + k) z))) := fun z => by
        have := ar.set (o + k) (.int .u8 z.toNat)
        rwa [cells_set] at this
      have HP : Hid (putN bs o x (k + 1) = (putN bs o x k).set (o + k) (UInt8.ofNat (x / 256 ^ (3 - k)))) := rfl
      have HZ : Hid (∀ u, (wr.setCell ⟨b, o + k, none⟩ u).heap.size = wr.heap.size) := fun u => by simp [World.setCell]
      clear ar
      obtain rfl | rfl | rfl | rfl : k = 0 ∨ k = 1 ∨ k = 2 ∨ k = 3 := by omega
      · rw [Nat.add_zero] at hc hf
        go_wp2
        go_roundw
        case rel =>
          refine ⟨1, by omega, by go_num, ?_, kr.setCell (by simp) _, (HZ.out _).trans sr⟩
          rw [HP.out, byte_mod x (256 ^ (3 - 0)) ((x : Int) / 16777216) (by simp; omega)]
          exact HS.out _
        case measure => simp [intOf]
      · go_wp2
        go_roundw
        case rel =>
          refine ⟨2, by omega, by go_num, ?_, kr.setCell (by simp) _, (HZ.out _).trans sr⟩
          rw [HP.out, byte_mod x (256 ^ (3 - 1)) ((x : Int) / 65536 % 256) (by simp)]
          exact HS.out _
        case measure => simp [intOf]
      · go_wp2
        go_roundw
        case rel =>
          refine ⟨3, by omega, by go_num, ?_, kr.setCell (by simp) _, (HZ.out _).trans sr⟩
          rw [HP.out, byte_mod x (256 ^ (3 - 2)) ((x : Int) / 256 % 256) (by simp)]
          exact HS.out _
        case measure => simp [intOf]
      · go_wp2
        go_roundw
        case rel =>
          refine ⟨4, by omega, by go_num, ?_, kr.setCell (by simp) _, (HZ.out _).trans sr⟩
          rw [HP.out, byte_mod x (256 ^ (3 - 3)) ((x : Int) % 256) (by simp)]
          exact HS.out _
        case measure => simp [intOf]
    · have hkl : ¬ (k : Int) < 4 := by omega
      obtain rfl : k = 4 := by omega
      go_wp2
      go_end0
      exact ⟨rfl, ar, kr, sr⟩

end Go.Proofs.Ytmcaoimgmgjjiaa

namespace Go.Proofs.Ytmcaoimgmgjjiaa
open Go.RowKit

def padSize (n : Nat) : Nat := if n + 9 > 64 then 128 else 64
def padEnd (last : List UInt8) (n : Nat) : List UInt8 := last ++ [128] ++ List.replicate (padSize last.length - last.length - 9) 0 ++ bytesOf (8 * n) 8 ++ List.replicate (128 - padSize last.length) 0

theorem ofNat_mod (a b : Nat) (h : a % 256 = b % 256) : UInt8.ofNat a = UInt8.ofNat b := by
  apply UInt8.toNat.inj
  rw [UInt8.toNat_ofNat', UInt8.toNat_ofNat', h]
theorem bytesOf_eight (x : Nat) : bytesOf x 8 = bytesOf (x / 4294967296) 4 ++ bytesOf (x % 4294967296) 4 := by
  show [_, _, _, _, _, _, _, _] = [_, _, _, _, _, _, _, _]
  have e : ∀ k : Nat, x / 4294967296 / 256 ^ k = x / 256 ^ (k + 4) := fun k => by
    rw [Nat.div_div_eq_div_mul, show (4294967296 : Nat) = 256 ^ 4 from rfl, ← Nat.pow_add, Nat.add_comm]
  rw [e 3, e 2, e 1, e 0]
  rw [ofNat_mod (x / 256 ^ 3) (x % 4294967296 / 256 ^ 3) (by simp; omega), ofNat_mod (x / 256 ^ 2) (x % 4294967296 / 256 ^ 2) (by simp; omega), ofNat_mod (x / 256 ^ 1) (x % 4294967296 / 256 ^ 1) (by simp; omega), ofNat_mod (x / 256 ^ 0) (x % 4294967296 / 256 ^ 0) (by simp)]
theorem pad_put (last : List UInt8) (n : Nat) (hl : last.length < 64) :
    putN (putN ((last ++ List.replicate (128 - last.length) 0).set last.length 128) (padSize last.length - 8) (8 * n / 4294967296) 4) (padSize last.length - 4) (8 * n % 4294967296) 4 = padEnd last n := by
  have hs : padSize last.length = 64 ∧ last.length + 9 ≤ 64 ∨ padSize last.length = 128 := by
    unfold padSize; split <;> omega
  obtain ⟨z, hz⟩ : ∃ z, padSize last.length = last.length + 9 + z := ⟨padSize last.length - last.length - 9, by omega⟩
  obtain ⟨y, hy⟩ : ∃ y, 128 = padSize last.length + y := ⟨128 - padSize last.length, by omega⟩
  have e1 : (last ++ List.replicate (128 - last.length) (0 : UInt8)).set last.length 128 = (last ++ [128] ++ List.replicate z 0) ++ [0, 0, 0, 0] ++ ([0, 0, 0, 0] ++ List.replicate y 0) := by
    rw [show 128 - last.length = (z + (4 + (4 + y))) + 1 by omega, List.replicate_succ, List.set_append_right _ _ (Nat.le_refl _), Nat.sub_self, List.set_cons_zero, ← List.replicate_append_replicate, ← List.replicate_append_replicate, ← List.replicate_append_replicate]
    simp [List.replicate]
  have l1 : (last ++ [128] ++ List.replicate z (0 : UInt8)).length = padSize last.length - 8 := by simp; omega
  rw [e1, ← l1, putN_four]
  have e2 : (last ++ [128] ++ List.replicate z (0 : UInt8)) ++ bytesOf (8 * n / 4294967296) 4 ++ ([0, 0, 0, 0] ++ List.replicate y 0) = ((last ++ [128] ++ List.replicate z (0 : UInt8)) ++ bytesOf (8 * n / 4294967296) 4) ++ [0, 0, 0, 0] ++ List.replicate y 0 := by simp
  have l2 : ((last ++ [128] ++ List.replicate z (0 : UInt8)) ++ bytesOf (8 * n / 4294967296) 4).length = padSize last.length - 4 := by simp [bytesOf_length]; omega
  rw [e2, ← l2, putN_four]
  unfold padEnd
  rw [bytesOf_eight, show padSize last.length - last.length - 9 = z by omega, show 128 - padSize last.length = y by omega]
  simp

theorem copy_arr (W : World) (b t m : Nat) (xs bs : List UInt8) (ao : Option Addr) (cap : Nat) (ha : Ar W b t (cells xs)) (hx : xs.length = m) (hm : bs.length ≤ m) (hs : Has W ao bs) :
    ∃ W', (Builtin.copy_ #[25, 25] 3 #[.slice (some ⟨b, 0, none⟩) m m, .slice ao bs.length cap]).run Try.prog W = .ok (.int .i64 bs.length) W' ∧
      Ar W' b t (cells (bs ++ xs.drop bs.length)) ∧ Kept (· ≠ b) W W' ∧ W'.heap.size = W.heap.size := by
  by_cases h0 : 0 < bs.length
  · obtain ⟨ad, rfl, hcell⟩ := hs h0
    have hrun := run_copy_row (P := Try.prog) W 25 25 3 5 b 0 m m ad bs.length cap (cells xs).toArray t (cells bs) Try.underlying25 Try.infoSize ha (by rw [cells_length]; exact (Nat.min_eq_left hm).symm) (Has.src hcell) (by simp [cells_length]; omega) (cells_one bs)
    refine ⟨_, ?_, setRow_heap W b _ (cells (bs ++ xs.drop bs.length)).toArray t _ ha, (Kept.refl _ _).setRow (by simp) _, by simp [World.setRow]⟩
    rw [hrun]
    simp [cells, List.map_drop]
    rfl
  · have hn : bs = [] := List.eq_nil_of_length_eq_zero (by omega)
    subst hn
    exact ⟨W, run_copy_none (P := Try.prog) W 25 25 3 5 _ _ _ _ _ _ Try.underlying25 Try.infoSize (by simp), by simpa using ha, Kept.refl _ _, rfl⟩

theorem zeros_b (n : Nat) : List.replicate n (Value.int .u8 0) = cells (List.replicate n 0) := by simp [cells]

set_option maxRecDepth 100000 in
set_option maxHeartbeats 1000000 in
theorem padded_any {w : World} {ao : Option Addr} {cap n : Nat} {last : List UInt8} (hh : Has w ao last) (hl : last.length < 64) (hn : n ≤ 140737488355328) :
    Calls Try.prog 96 #[.slice ao last.length cap, .int .u64 n] w fun e w' => e = .returned (.tuple #[.agg (cells (padEnd last n)).toArray, .int .i64 (padSize last.length : Nat)]) ∧ Kept (fun _ => True) w w' := by
  have HH : Hid (Has w ao last) := hh
  clear hh
  go_enter Try.func96, Try.ntmps96
  go_wp2_with (first
    | ((with_reducible refine w_alloc (d := some 4) arr128 ?_); intro w1 a4 k1 s1)
    | ((with_reducible refine w_alloc (d := some 6) arr128 ?_); intro w2 a6 k2 s2))
  rw [zeros_b] at a4 a6
  have a4' := a4.kept k2 trivial
  obtain ⟨w3, hrun, a6', k3, s3⟩ := copy_arr w2 w1.heap.size 156 128 (List.replicate 128 0) last ao cap a6 (by simp) (by omega) (HH.out.kept (k1.trans k2) (fun _ _ => trivial))
  have q1 := s1.out
  have q2 := s2.out
  have a4w := a4'.kept k3 (by omega)
  have K03 : Kept (fun _ => True) w w3 := (k1.trans k2).then k3 (fun i hi _ => by omega)
  have d1 : w.heap.size < w1.heap.size := by omega
  have d2 : w1.heap.size < w3.heap.size := by omega
  rw [List.drop_replicate] at a6'
  clear a4 a6 a4' k1 k2 k3 s1 s2 s3 q1 q2 HH
  rw [hrun]
  clear hrun
  generalize w1.heap.size = B6 at *
  obtain ⟨B4, hB⟩ : ∃ B, B = w.heap.size := ⟨_, rfl⟩
  rw [← hB] at a4w d1 ⊢
  have HB : Hid (B4 = w.heap.size) := hB
  clear hB
  have ll : (last ++ List.replicate (128 - last.length) (0 : UInt8)).length = 128 := by simp; omega
  obtain ⟨y, hcell⟩ : ∃ y, w3.cell? ⟨B6, last.length, none⟩ = some y := ⟨_, by rw [a6'.cell, cells_getElem _ _ (by omega)]⟩
  have hf := a6'.free last.length
  have a6s := a6'.set last.length (.int .u8 128)
  rw [show Value.int .u8 128 = .int .u8 ((128 : UInt8).toNat : Int) from rfl, cells_set] at a6s
  have K3s : Kept (fun _ => True) w (w3.setCell ⟨B6, last.length, none⟩ (.int .u8 ((128 : UInt8).toNat : Int))) := K03.then ((Kept.refl (· ≠ B6) w3).setCell (by simp) _) (fun i hi _ => by have := HB.out; omega)
  have a4s := a4w.kept ((Kept.refl (· ≠ B6) w3).setCell (ad := ⟨B6, last.length, none⟩) (by simp) (.int .u8 ((128 : UInt8).toNat : Int))) (by omega)
  have HA : Hid (Ar (w3.setCell ⟨B6, last.length, none⟩ (.int .u8 128)) B6 156 (cells ((last ++ List.replicate (128 - last.length) 0).set last.length 128)) ∧ Ar (w3.setCell ⟨B6, last.length, none⟩ (.int .u8 128)) B4 156 (cells (List.replicate 128 0)) ∧ Kept (fun _ => True) w (w3.setCell ⟨B6, last.length, none⟩ (.int .u8 128))) := ⟨a6s, a4s, K3s⟩
  have HP := pad_put last n hl
  have hll : (last.length : Int) < 64 := by omega
  clear a6' a6s a4w a4s K3s K03
  have pl : ((last ++ List.replicate (128 - last.length) 0).set last.length (128 : UInt8)).length = 128 := by rw [List.length_set, ll]
  generalize (last ++ List.replicate (128 - last.length) 0).set last.length (128 : UInt8) = E0 at *
  by_cases hbig : (64 : Int) < (last.length : Int) + 1 + 8
  · have hps : padSize last.length = 128 := by unfold padSize; rw [if_pos (by omega)]
    rw [hps] at HP
    have HS : Hid (padSize last.length = 128) := hps
    clear hps
    generalize hW4 : w3.setCell ⟨B6, last.length, none⟩ (.int .u8 128) = w4 at HA
    have c1 : Calls Try.prog 97 #[.slice (some ⟨B6, 120, none⟩) 8 8, .int .u32 ((n : Int) * 8 / 4294967296)] w4 fun e w' => e = .returned (.tuple #[]) ∧ Ar w' B6 156 (cells (putN E0 120 (8 * n / 4294967296) 4)) ∧ Kept (· ≠ B6) w4 w' ∧ w'.heap.size = w4.heap.size := by
      have := putWord_any (n := 8) (cap := 8) (o := 120) (8 * n / 4294967296) (by omega) HA.out.1 (by omega) (by omega)
      rwa [show ((8 * n / 4294967296 : Nat) : Int) = (n : Int) * 8 / 4294967296 by omega] at this
    go_wp2_with fail
    refine Calls.mono c1 ?_
    rintro e w5 ⟨rfl, a5, k5, s5⟩
    clear c1 hcell hf s5
    have c2 : Calls Try.prog 97 #[.slice (some ⟨B6, 124, none⟩) 4 4, .int .u32 ((n : Int) * 8 % 4294967296)] w5 fun e w' => e = .returned (.tuple #[]) ∧ Ar w' B6 156 (cells (putN (putN E0 120 (8 * n / 4294967296) 4) 124 (8 * n % 4294967296) 4)) ∧ Kept (· ≠ B6) w5 w' ∧ w'.heap.size = w5.heap.size := by
      have := putWord_any (n := 4) (cap := 4) (o := 124) (8 * n % 4294967296) (by omega) a5 (by rw [putN_length]; omega) (by omega)
      rwa [show ((8 * n % 4294967296 : Nat) : Int) = (n : Int) * 8 % 4294967296 by omega] at this
    go_wp2_with fail
    refine Calls.mono c2 ?_
    rintro e w6 ⟨rfl, a6, k6, s6⟩
    rw [HP] at a6
    have lp : (cells (padEnd last n)).length = 128 := by rw [← HP, cells_length, putN_length, putN_length, pl]
    have op := cells_one (padEnd last n)
    have a4x := (HA.out.2.1.kept k5 (by omega)).kept k6 (by omega)
    have K06 : Kept (fun _ => True) w w6 := (HA.out.2.2.then k5 (fun i hi _ => by have := HB.out; omega)).then k6 (fun i hi _ => by have := HB.out; omega)
    clear c2 a5 s6 HP HA k5 k6
    obtain ⟨xs, hxs⟩ : ∃ xs, xs = cells (padEnd last n) := ⟨_, rfl⟩
    rw [← hxs] at a6 lp op
    have HX : Hid (xs = cells (padEnd last n)) := hxs
    clear hxs
    go_wp2_with (first
      | ((with_reducible apply w_load (d := some 35) (b := B6) (xs := xs) arr128); (case hx => rfl); (case ha => exact a6); (case hl => exact lp))
      | ((with_reducible apply w_store (x := .tmp 4) (b := B4) (xs := xs) (old := cells (List.replicate 128 0)) arr128); (case hx => rfl); (case hy => rfl); (case ha => exact a4x); (case ho => simp [cells]); (case hl => exact lp); (case h1 => exact op); intro w9 a9 k9 s9))
    refine bodyPost_ret (results_ar2 (p := 4) (q := 5) arr128 rfl _ _ rfl a9 lp) rfl ⟨?_, K06.then k9 (fun i hi _ => by have := HB.out; omega)⟩
    rw [HX.out, HS.out]
    rfl
  · have hps : padSize last.length = 64 := by unfold padSize; rw [if_neg (by omega)]
    rw [hps] at HP
    have HS : Hid (padSize last.length = 64) := hps
    clear hps
    generalize hW4 : w3.setCell ⟨B6, last.length, none⟩ (.int .u8 128) = w4 at HA
    have c1 : Calls Try.prog 97 #[.slice (some ⟨B6, 56, none⟩) 72 72, .int .u32 ((n : Int) * 8 / 4294967296)] w4 fun e w' => e = .returned (.tuple #[]) ∧ Ar w' B6 156 (cells (putN E0 56 (8 * n / 4294967296) 4)) ∧ Kept (· ≠ B6) w4 w' ∧ w'.heap.size = w4.heap.size := by
      have := putWord_any (n := 72) (cap := 72) (o := 56) (8 * n / 4294967296) (by omega) HA.out.1 (by omega) (by omega)
      rwa [show ((8 * n / 4294967296 : Nat) : Int) = (n : Int) * 8 / 4294967296 by omega] at this
    go_wp2_with fail
    refine Calls.mono c1 ?_
    rintro e w5 ⟨rfl, a5, k5, s5⟩
    clear c1 hcell hf s5
    have c2 : Calls Try.prog 97 #[.slice (some ⟨B6, 60, none⟩) 68 68, .int .u32 ((n : Int) * 8 % 4294967296)] w5 fun e w' => e = .returned (.tuple #[]) ∧ Ar w' B6 156 (cells (putN (putN E0 56 (8 * n / 4294967296) 4) 60 (8 * n % 4294967296) 4)) ∧ Kept (· ≠ B6) w5 w' ∧ w'.heap.size = w5.heap.size := by
      have := putWord_any (n := 68) (cap := 68) (o := 60) (8 * n % 4294967296) (by omega) a5 (by rw [putN_length]; omega) (by omega)
      rwa [show ((8 * n % 4294967296 : Nat) : Int) = (n : Int) * 8 % 4294967296 by omega] at this
    go_wp2_with fail
    refine Calls.mono c2 ?_
    rintro e w6 ⟨rfl, a6, k6, s6⟩
    rw [HP] at a6
    have lp : (cells (padEnd last n)).length = 128 := by rw [← HP, cells_length, putN_length, putN_length, pl]
    have op := cells_one (padEnd last n)
    have a4x := (HA.out.2.1.kept k5 (by omega)).kept k6 (by omega)
    have K06 : Kept (fun _ => True) w w6 := (HA.out.2.2.then k5 (fun i hi _ => by have := HB.out; omega)).then k6 (fun i hi _ => by have := HB.out; omega)
    clear c2 a5 s6 HP HA k5 k6
    obtain ⟨xs, hxs⟩ : ∃ xs, xs = cells (padEnd last n) := ⟨_, rfl⟩
    rw [← hxs] at a6 lp op
    have HX : Hid (xs = cells (padEnd last n)) := hxs
    clear hxs
    go_wp2_with (first
      | ((with_reducible apply w_load (d := some 35) (b := B6) (xs := xs) arr128); (case hx => rfl); (case ha => exact a6); (case hl => exact lp))
      | ((with_reducible apply w_store (x := .tmp 4) (b := B4) (xs := xs) (old := cells (List.replicate 128 0)) arr128); (case hx => rfl); (case hy => rfl); (case ha => exact a4x); (case ho => simp [cells]); (case hl => exact lp); (case h1 => exact op); intro w9 a9 k9 s9))
    refine bodyPost_ret (results_ar2 (p := 4) (q := 5) arr128 rfl _ _ rfl a9 lp) rfl ⟨?_, K06.then k9 (fun i hi _ => by have := HB.out; omega)⟩
    rw [HX.out, HS.out]
    rfl

end Go.Proofs.Ytmcaoimgmgjjiaa
