/-
  Slices of Asks that came in; rows of Wants that are cut short; texts that are gathered beside a table.
-/
import Derived.Test.YtkinpgkckbocpaaKNum
import Derived.Deep.CutRange
namespace Go.Proofs.Ytkinpgkckbocpaa
open Go.RowKit

theorem Try.infoWant : (Try.prog.info? 27).map (fun i => (i.size, i.bytes)) = some (2, 24) := by kernel_rfl
theorem Try.elemWant : Try.prog.elem 28 = 27 := by kernel_rfl
theorem size_want (w0 : World) : (sizeOf (Try.prog.elem 28)).run Try.prog w0 = .ok 2 w0 := by
  rw [Try.elemWant]
  kernel_rfl
theorem Wn.take {w : World} {ao : Option Addr} {n cap : Nat} {l : List (List UInt8 × Bool)} (h : Wn w (.slice ao n cap) l) (m : Nat) : Wn w (.slice ao (l.take m).length cap) (l.take m) := by
  obtain ⟨ao', cap', e, h⟩ := h
  cases e
  refine ⟨ao, cap, rfl, fun h0 => ?_⟩
  obtain ⟨b, off, e, hc⟩ := h (by simp at h0; omega)
  refine ⟨b, off, e, fun i hi => ?_⟩
  have hi' : i < l.length := by simp at hi; omega
  rw [List.getElem_take]
  exact hc i hi'
theorem slice_want (ao : Option Addr) (n cap k : Nat) (hk : k ≤ cap) (hn : ao = none → cap = 0) (w0 : World) :
    (Instr.slice 28 (.slice ao n cap) none (some (.int .i64 (k : Int))) none).run Try.prog w0 = .ok (.slice ao k cap) w0 := by
  rw [run_slice_h (P := Try.prog) w0 28 ao n cap (by rw [Try.elemWant]; exact Try.underlying28) .i64 k (by omega) (by omega), size_want]
  cases ao with
  | none =>
    have h0 := hn rfl
    subst h0
    obtain rfl : k = 0 := by omega
    rfl
  | some ad =>
    clear hn
    simp only [Result.andThen, sliced]
    by_cases hc : cap = 0
    · subst hc
      obtain rfl : k = 0 := by omega
      simp 
    · simp [Addr.add]
/-- What 'if len(l) > m { l = l[:m] }' leaves. -/
theorem want_cut {w : World} {ao : Option Addr} {cap : Nat} {l : List (List UInt8 × Bool)} (m : Nat) (h : Wn w (.slice ao l.length cap) l) (hn : ao = none → cap = 0) (hcap : l.length ≤ cap) :
    ∃ l' : List (List UInt8 × Bool), l'.length ≤ m ∧ l' = l.take m ∧ Wn w (.slice ao l'.length cap) l' ∧ (((m : Int) < (l.length : Int) ∧ ∀ w0, (Instr.slice 28 (.slice ao l.length cap) none (some (.int .i64 (m : Int))) none).run Try.prog w0 = .ok (.slice ao l'.length cap) w0) ∨ (¬ (m : Int) < (l.length : Int) ∧ l' = l)) := by
  by_cases hl : (m : Int) < (l.length : Int)
  · have e : (l.take m).length = m := by simp; omega
    exact ⟨l.take m, by omega, rfl, h.take m, .inl ⟨hl, fun w0 => by rw [e]; exact slice_want ao l.length cap m (by omega) hn w0⟩⟩
  · exact ⟨l, by omega, by rw [List.take_of_length_le (by omega)], h, .inr ⟨hl, rfl⟩⟩

/-- One Ask, plainly, and where its Wants lie. -/
structure AskK where
  kind : Int
  x : List UInt8
  l : List (List UInt8 × Bool)
  wa : Option Addr
  wc : Nat
/-- What holds of an Ask that came in. -/
structure AskOk (w : World) (z : AskK) : Prop where
  wn : Wn w (.slice z.wa z.l.length z.wc) z.l
  nil : z.wa = none → z.wc = 0
  cap : z.l.length ≤ z.wc
  short : z.x.length ≤ 9223372036854775807
  shorts : ∀ y ∈ z.l, y.1.length ≤ 9223372036854775807
/-- A slice of len Asks. -/
def IsAsks (w : World) (a : Option Addr) (len : Nat) : Prop := ∀ i, i < len → ∃ b off, ∃ z : AskK, a = some ⟨b, off, none⟩ ∧ w.cell? ⟨b, off + i * 3, none⟩ = some (.int .i64 z.kind) ∧ w.cell? ⟨b, off + i * 3 + 1, none⟩ = some (.string ⟨z.x.toArray⟩) ∧ w.cell? ⟨b, off + i * 3 + 2, none⟩ = some (.slice z.wa z.l.length z.wc) ∧ AskOk w z
theorem AskOk.all {w w' : World} {z : AskK} (h : AskOk w z) (k : Kept (fun _ => True) w w') : AskOk w' z := ⟨h.wn.all k, h.nil, h.cap, h.short, h.shorts⟩
theorem ask_at {w w' : World} {a : Option Addr} {len i : Nat} (h : IsAsks w a len) (hi : i < len) (k : Kept (fun _ => True) w w') : ∃ b off, ∃ z : AskK, a = some ⟨b, off, none⟩ ∧ w'.cell? ⟨b, off + i * 3, none⟩ = some (.int .i64 z.kind) ∧ w'.cell? ⟨b, off + i * 3 + 1, none⟩ = some (.string ⟨z.x.toArray⟩) ∧ w'.cell? ⟨b, off + i * 3 + 2, none⟩ = some (.slice z.wa z.l.length z.wc) ∧ AskOk w z := by
  obtain ⟨b, off, z, e, c0, c1, c2, hz⟩ := h i hi
  exact ⟨b, off, z, e, cell_kept k c0 trivial, cell_kept k c1 trivial, cell_kept k c2 trivial, hz⟩

theorem own_typeK {w : World} {b e sz n : Nat} {v : Value} {xs : List Value} (h : w.ownsRow b e sz v n xs) {B : Nat} {cs : Array Value} {t : TypeId} {fr : Nat × Nat} (hB : w.heap[B]? = some (.cells cs t fr)) (ht : t ≠ e) : v.ownBlock ≠ some B := by
  intro hv
  rcases h.2 with ⟨rfl, _⟩ | ⟨g, cap, cur, rfl, _, hh, _⟩
  · simp [Value.ownBlock] at hv
  · obtain rfl : g = B := by simpa [Value.ownBlock] using hv
    rw [hB] at hh
    simp at hh
    exact ht hh.2.1
/-- An Ask in a variable. -/
def Xk (w : World) (X : Nat) (kind : Int) (x : List UInt8) (wa : Option Addr) (m wc : Nat) : Prop := w.heap[X]? = some (.cells #[.int .i64 kind, .string ⟨x.toArray⟩, .slice wa m wc] 43 (0, 0))
theorem Xk.cells {w : World} {X : Nat} {kind : Int} {x : List UInt8} {wa : Option Addr} {m wc : Nat} (h : Xk w X kind x wa m wc) : w.cell? ⟨X, 0, none⟩ = some (.int .i64 kind) ∧ w.cell? ⟨X, 1, none⟩ = some (.string ⟨x.toArray⟩) ∧ w.cell? ⟨X, 2, none⟩ = some (.slice wa m wc) ∧ w.frozen? ⟨X, 2, none⟩ = false := by
  unfold Xk at h
  exact ⟨by simp [World.cell?, h], by simp [World.cell?, h], by simp [World.cell?, h], by simp [World.frozen?, h]⟩
theorem Xk.calm {w w' : World} {X : Nat} {kind : Int} {x : List UInt8} {wa : Option Addr} {m wc : Nat} (h : Xk w X kind x wa m wc) (k : Calm w w') : Xk w' X kind x wa m wc := k.cells h
theorem Xk.set {w : World} {X : Nat} {kind : Int} {x : List UInt8} {wa : Option Addr} {m wc : Nat} (h : Xk w X kind x wa m wc) (m' : Nat) : Xk (w.setCell ⟨X, 2, none⟩ (.slice wa m' wc)) X kind x wa m' wc := by
  unfold Xk at *
  rw [heap_setCell_same w X 2 _ _ _ h]
  rfl

/-- A table, and texts that are gathered beside it. -/
structure AlK (w0 w : World) (T n : Nat) (B : Lab → Option Nat) (h : Lk) (v4 v5 : Value) (ts ns : List (List UInt8)) : Prop where
  tm : TM w0 w T n B h
  t4 : Txs w w0.heap.size v4 ts
  t5 : Txs w w0.heap.size v5 ns
  ap : ∀ k, v4.ownBlock = some k → v5.ownBlock ≠ some k
  sh4 : ∀ y ∈ ts, y.length ≤ 9223372036854775807
  sh5 : ∀ y ∈ ns, y.length ≤ 9223372036854775807

section
variable {w0 w w' : World} {T n m : Nat} {B B' : Lab → Option Nat} {h h' : Lk} {v4 v5 : Value} {ts ns : List (List UInt8)}
theorem AlK.all (a : AlK w0 w T n B h v4 v5 ts ns) (k : Kept (fun _ => True) w w') : AlK w0 w' T n B h v4 v5 ts ns :=
  ⟨a.tm.all k, a.t4.kept k (fun _ _ => trivial), a.t5.kept k (fun _ _ => trivial), a.ap, a.sh4, a.sh5⟩
theorem AlK.step (a : AlK w0 w T n B h v4 v5 ts ns) (t : TM w0 w' T m B' h') (k : Calm w w') : AlK w0 w' T m B' h' v4 v5 ts ns :=
  ⟨t, k.txs a.t4, k.txs a.t5, a.ap, a.sh4, a.sh5⟩
theorem txs_not {base : Nat} {v : Value} {ss : List (List UInt8)} (a : Txs w base v ss) {b : Nat} {es : Array MapEntry} {clock : Nat} (hb : w.heap[b]? = some (.map es clock)) : v.ownBlock ≠ some b := by
  intro hv
  rcases a.2 with ⟨rfl, _⟩ | ⟨g, cap, cur, rfl, _, hh, _⟩
  · simp [Value.ownBlock] at hv
  · obtain rfl : g = b := by simpa [Value.ownBlock] using hv
    rw [hb] at hh
    simp at hh
/-- A text is appended to one of the two rows, or to another one that is none of theirs. -/
theorem TM.row (t : TM w0 w T n B h) {v : Value} {ss : List (List UInt8)} (a : Txs w w0.heap.size v ss) {o : Obj} (g : (w.alloc o).grownBy w' v.ownBlock) : TM w0 w' T n B h ∧ Kept (fun k => v.ownBlock ≠ some k) w w' := by
  have k0 : Kept (fun _ => True) w (w.alloc o) := (Kept.refl _ _).alloc o
  have t0 := t.all k0
  have a0 : Txs (w.alloc o) w0.heap.size v ss := a.kept k0 (fun _ _ => trivial)
  have k1 : Kept (fun k => v.ownBlock ≠ some k) (w.alloc o) w' := (Kept.refl _ _).grown g (fun _ _ e q => q e)
  obtain ⟨H, D, _, _, hs⟩ := t0.tb.self
  refine ⟨t0.beside k1 (own_typeK a0 hs (by decide)) (fun b es clock hb => txs_not a0 hb) (fun i hi e => ?_), (k0.mono (fun _ _ _ => trivial)).trans k1⟩
  have := (World.ownsRow.lt a0 i e).1
  omega
theorem AlK.more4 (a : AlK w0 w T n B h v4 v5 ts ns) {o : Obj} {v4' : Value} {y : List UInt8} (hy : y.length ≤ 9223372036854775807) (t : Txs w' w0.heap.size v4' (ts ++ [y])) (g : (w.alloc o).grownBy w' v4.ownBlock) (at4 : v4'.ownBlock = v4.ownBlock ∨ v4'.ownBlock = some (w.alloc o).heap.size) : AlK w0 w' T n B h v4' v5 (ts ++ [y]) ns := by
  obtain ⟨tm, k⟩ := a.tm.row a.t4 g
  have h5 := a.t5.kept k (fun k e h4 => a.ap k h4 e)
  refine ⟨tm, t, h5, fun k hk e => ?_, fun z hz => ?_, a.sh5⟩
  · rcases at4 with h4 | h4
    · rw [h4] at hk
      exact a.ap k hk e
    · rw [h4] at hk
      have := (World.ownsRow.lt a.t5 k e).2
      simp at hk
      omega
  · rcases List.mem_append.1 hz with hz | hz
    · exact a.sh4 z hz
    · simp at hz
      rw [hz]
      exact hy
theorem AlK.more5 (a : AlK w0 w T n B h v4 v5 ts ns) {o : Obj} {v5' : Value} {y : List UInt8} (hy : y.length ≤ 9223372036854775807) (t : Txs w' w0.heap.size v5' (ns ++ [y])) (g : (w.alloc o).grownBy w' v5.ownBlock) (at5 : v5'.ownBlock = v5.ownBlock ∨ v5'.ownBlock = some (w.alloc o).heap.size) : AlK w0 w' T n B h v4 v5' ts (ns ++ [y]) := by
  obtain ⟨tm, k⟩ := a.tm.row a.t5 g
  have h4 := a.t4.kept k (fun k e h5 => a.ap k e h5)
  refine ⟨tm, h4, t, fun k hk e => ?_, a.sh4, fun z hz => ?_⟩
  · rcases at5 with h5 | h5
    · rw [h5] at e
      exact a.ap k hk e
    · rw [h5] at e
      have := (World.ownsRow.lt a.t4 k hk).2
      simp at e
      omega
  · rcases List.mem_append.1 hz with hz | hz
    · exact a.sh5 z hz
    · simp at hz
      rw [hz]
      exact hy
theorem AlK.xk4 (a : AlK w0 w T n B h v4 v5 ts ns) {o : Obj} (g : (w.alloc o).grownBy w' v4.ownBlock) {X : Nat} {kind : Int} {x : List UInt8} {wa : Option Addr} {m wc : Nat} (hx : Xk w X kind x wa m wc) : Xk w' X kind x wa m wc := by
  obtain ⟨_, k⟩ := a.tm.row a.t4 g
  exact (k.block X (lt_of_block hx) (own_typeK a.t4 hx (by decide))).trans hx
theorem AlK.xk5 (a : AlK w0 w T n B h v4 v5 ts ns) {o : Obj} (g : (w.alloc o).grownBy w' v5.ownBlock) {X : Nat} {kind : Int} {x : List UInt8} {wa : Option Addr} {m wc : Nat} (hx : Xk w X kind x wa m wc) : Xk w' X kind x wa m wc := by
  obtain ⟨_, k⟩ := a.tm.row a.t5 g
  exact (k.block X (lt_of_block hx) (own_typeK a.t5 hx (by decide))).trans hx
end

end Go.Proofs.Ytkinpgkckbocpaa
