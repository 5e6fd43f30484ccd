/-
  Events and replies that came in, of a bulk that is bounded.
-/
import Derived.Test.YtllopkebamlgeaaSArgs
import Derived.Test.YtllopkebamlgeaaHiRow
import Derived.Deep.Slices
import Derived.Lib.SmallJoins
namespace Go.Proofs.Ytllopkebamlgeaa
open Go.RowKit Go.Deep Go.Joins Go.WideShapes Go.ChangeShapes Go.ChangeAt

theorem ibulk_elem {H : Type} {x : DataW H} : ∀ {l : List (DataW H)}, x ∈ l → Rows.uptoBulk x ≤ Rows.uptoBulkAll l
  | y :: l, h => by
    simp only [Rows.uptoBulkAll]
    rcases List.mem_cons.1 h with rfl | h
    · omega
    · have := ibulk_elem h
      omega
theorem ibulk_len {H : Type} : ∀ (l : List (DataW H)), l.length ≤ Rows.uptoBulkAll l
  | [] => by simp
  | x :: l => by
    have h1 := ibulk_len l
    have h2 : 1 ≤ Rows.uptoBulk x := by unfold Rows.uptoBulk; split <;> omega
    simp only [Rows.uptoBulkAll, List.length_cons]
    omega
theorem bulk_mem {H : Type} {l : List (DataW H)} (hk : Rows.uptoSmall H l = true) : Rows.uptoBulkAll l ≤ 1048576 := of_decide_eq_true hk
/-- A slice of structs, whatever they are. -/
theorem open_vw {α : Type} {S : Shp α} {H : Type} {enc : TypeId × Value → H} {W : World} {t e : TypeId} {fuel : Nat} {v : Value} {z : DataW H × List MemPlace} {Q : α → Nat → Prop} (hQ : ∀ x m n, Q x m → m ≤ n → Q x n)
    (hu : Try.prog.underlying t = some (.slice e)) (hce : Try.prog.cellsOf e = S.n) (hpos : 0 < S.n)
    (hel : ∀ (fuel : Nat) (vs : List Value) (y : DataW H × List MemPlace), vs.length = S.n → DataW.trod enc Try.prog W 0 (fun _ => true) true fuel e vs = some y → ∃ x : α, vs = S.cell x ∧ Q x (Rows.uptoBulk y.1))
    (h : DataW.trod enc Try.prog W 0 (fun _ => true) true fuel t [v] = some z) :
    ∃ (a : Option Addr) (cap : Nat) (xs : List α), v = .slice a xs.length cap ∧ Vw S W a xs ∧ xs.length ≤ cap ∧ (a = none → cap = 0) ∧ xs.length ≤ Rows.uptoBulk z.1 ∧ ∀ x ∈ xs, Q x (Rows.uptoBulk z.1) := by
  rcases open_slice hu h with ⟨hcs, hx⟩ | ⟨x, len, cap, m, n, D, Pl, hcs, _, hl, hm, hmm, hx, hels⟩
  · simp only [List.cons.injEq, and_true] at hcs
    exact ⟨none, 0, [], hcs, Vw.nil _ _, Nat.le_refl _, fun _ => rfl, Nat.zero_le _, fun _ h => by cases h⟩
  · simp only [List.cons.injEq, and_true] at hcs
    simp only [if_true] at hmm
    subst hmm
    rw [hce] at hels
    have hz : z.1 = .slice ((List.range len).map D) ((List.range (m - len)).map fun j => D (len + j)) := by rw [hx]
    have hbl : len ≤ Rows.uptoBulk z.1 := by
      have h1 := ibulk_len ((List.range len).map D)
      rw [List.length_map, List.length_range] at h1
      rw [hz]
      simp only [Rows.uptoBulk]
      omega
    have key : ∀ i, i < len → ∃ y : α, (∀ j u, (S.cell y)[j]? = some u → W.cell? (x.add (i * S.n + j)) = some u) ∧ Q y (Rows.uptoBulk z.1) := by
      intro i hi
      obtain ⟨cs', h1, h2⟩ := hels i (by omega)
      obtain ⟨_, hl5, hc5⟩ := World.cells?_some h1
      obtain ⟨y, rfl, hq⟩ := hel _ _ _ hl5 h2
      refine ⟨y, fun j u hj => ?_, hQ _ _ _ hq ?_⟩
      · have hjl : j < S.n := by have := (List.getElem?_eq_some_iff.1 hj).1; rwa [S.len] at this
        have q := hc5 j hjl
        simp only [add_add] at q
        rw [q]
        exact hj
      · rw [hz]
        have := ibulk_elem (show D i ∈ (List.range len).map D from List.mem_map.2 ⟨i, List.mem_range.2 hi, rfl⟩)
        simp only [Rows.uptoBulk]
        omega
    rcases Nat.eq_zero_or_pos len with h0 | h0
    · subst h0
      exact ⟨some x, m, [], hcs, Vw.nil _ _, Nat.zero_le _, (fun e => by cases e), Nat.zero_le _, (fun _ h => by cases h)⟩
    obtain ⟨f, hf⟩ : ∃ f : Nat → α, ∀ i, i < len → (∀ j u, (S.cell (f i))[j]? = some u → W.cell? (x.add (i * S.n + j)) = some u) ∧ Q (f i) (Rows.uptoBulk z.1) := by
      classical
      refine ⟨fun i => if hi : i < len then Classical.choose (key i hi) else Classical.choose (key 0 h0), fun i hi => ?_⟩
      simp only [dif_pos hi]
      exact Classical.choose_spec (key i hi)
    have hcell0 : 0 < (S.cell (f 0)).length := by rw [S.len]; exact hpos
    have w0 := (hf 0 h0).1 0 _ (List.getElem?_eq_getElem hcell0)
    obtain ⟨b, off, spot⟩ := x
    have hspot : spot = none := by simpa [Addr.add] using World.cell?_spot w0
    subst hspot
    rw [add_plain] at w0
    refine ⟨_, m, (List.range len).map f, by rw [hcs, List.length_map, List.length_range], ⟨fun _ => ⟨b, off, rfl, World.block_lt_of_cell? W _ w0, fun i hi => ?_⟩⟩, by rw [List.length_map, List.length_range]; exact hl, (fun e => by cases e), by rw [List.length_map, List.length_range]; exact hbl, fun y hy => ?_⟩
    · have hi' : i < len := by simpa using hi
      simp only [List.getElem_map, List.getElem_range]
      intro j u hu
      have := (hf i hi').1 j u hu
      rw [add_plain] at this
      rw [Nat.add_assoc]
      exact this
    · obtain ⟨i, hi, rfl⟩ := List.mem_map.1 hy
      exact (hf i (List.mem_range.1 hi)).2
/-- What is looked at, flat. -/
theorem vw_fl {α : Type} {S : Shp α} {w : World} {a : Option Addr} {cap : Nat} {xs : List α} (hpos : 0 < S.n) (h : Vw S w a xs) (hc : a = none → cap = 0) (hn : xs.length ≤ 281474976710656) : Fl w (.slice a xs.length cap) xs.length S.n (S.row xs) := by
  refine ⟨a, cap, rfl, row_length xs, hn, hc, fun h0 => ?_⟩
  obtain ⟨b, off, rfl, hb, hr⟩ := h.row h0
  refine ⟨b, off, rfl, hb, fun j u hu => ?_⟩
  have hjl : j < xs.length * S.n := by have := (List.getElem?_eq_some_iff.1 hu).1; rwa [row_length] at this
  have hi : j / S.n < xs.length := (Nat.div_lt_iff_lt_mul hpos).2 hjl
  have hr' : j % S.n < S.n := Nat.mod_lt _ hpos
  have ej : j / S.n * S.n + j % S.n = j := by rw [Nat.mul_comm]; exact Nat.div_add_mod j S.n
  have h1 := row_get (S := S) xs (j / S.n) hi (j % S.n) hr'
  rw [ej, hu] at h1
  have h2 := hr (j / S.n) hi (j % S.n) u h1.symm
  rw [Nat.add_assoc, ej] at h2
  exact h2
theorem four_ofi {α : Type} {l : List α} (h : l.length = 4) : ∃ a b c d, l = [a, b, c, d] := by
  match l, h with
  | [a, b, c, d], _ => exact ⟨a, b, c, d, rfl⟩
theorem seven_ofi {α : Type} {l : List α} (h : l.length = 7) : ∃ a b c d e f g, l = [a, b, c, d, e, f, g] := by
  match l, h with
  | [a, b, c, d, e, f, g], _ => exact ⟨a, b, c, d, e, f, g, rfl⟩
theorem trod_rec4i {H : Type} {enc : TypeId × Value → H} {W : World} {t : TypeId} {f0 f1 f2 f3 : Field} {fuel : Nat} {cs : List Value} {x : DataW H × List MemPlace} (ht : Try.prog.underlying t = some (.struct #[f0, f1, f2, f3])) (h : DataW.trod enc Try.prog W 0 (fun _ => true) true fuel t cs = some x) :
    ∃ y0 y1 y2 y3 n, x.1 = .agg [y0.1, y1.1, y2.1, y3.1] ∧ DataW.trod enc Try.prog W 0 (fun _ => true) true n f0.type ((cs.drop f0.offset).take (Try.prog.cellsOf f0.type)) = some y0 ∧
      DataW.trod enc Try.prog W 0 (fun _ => true) true n f1.type ((cs.drop f1.offset).take (Try.prog.cellsOf f1.type)) = some y1 ∧ DataW.trod enc Try.prog W 0 (fun _ => true) true n f2.type ((cs.drop f2.offset).take (Try.prog.cellsOf f2.type)) = some y2 ∧
      DataW.trod enc Try.prog W 0 (fun _ => true) true n f3.type ((cs.drop f3.offset).take (Try.prog.cellsOf f3.type)) = some y3 := by
  obtain ⟨xs, n, _, rfl, hl, hlen, hf⟩ := DataW.trod_struct ht h
  match xs, hlen with
  | [y0, y1, y2, y3], _ => exact ⟨y0, y1, y2, y3, n, by simp, by simpa using hf 0 f0 rfl, by simpa using hf 1 f1 rfl, by simpa using hf 2 f2 rfl, by simpa using hf 3 f3 rfl⟩
/-- Operations, texts: how they lie. -/
def opnS : Shp (Int × ByteArray × ByteArray × Int) := ⟨4, fun x => [.int .i64 x.1, .string x.2.1, .string x.2.2.1, .int .i64 x.2.2.2], fun _ => rfl, fun x u hu => by
  simp only [List.mem_cons, List.not_mem_nil, or_false] at hu
  rcases hu with rfl | rfl | rfl | rfl <;> rfl⟩
def txtS : Shp (List UInt8) := ⟨1, fun x => [.string ⟨x.toArray⟩], fun _ => rfl, fun x u hu => by
  simp only [List.mem_cons, List.not_mem_nil, or_false] at hu
  rw [hu]
  rfl⟩
theorem Try.cellsOpi : Try.prog.cellsOf 52 = 4 := by kernel_rfl
theorem Try.cellsTexti : Try.prog.cellsOf 9 = 1 := by kernel_rfl
theorem Try.cellsEventi : Try.prog.cellsOf 31 = 7 := by kernel_rfl
theorem Try.cellsReplyi : Try.prog.cellsOf 29 = 4 := by kernel_rfl
/-- A slice that may be cloned. -/
def Cln (W : World) (a : Option Addr) (n cap sz : Nat) : Prop := ∃ cs, Fl W (.slice a n cap) n sz cs ∧ ∀ u ∈ cs, u.oneCell' = true
set_option maxRecDepth 100000 in
theorem open_opn {H : Type} {enc : TypeId × Value → H} {W : World} {fuel : Nat} {v : Value} {z : DataW H × List MemPlace} (h : DataW.trod enc Try.prog W 0 (fun _ => true) true fuel 26 [v] = some z) :
    ∃ (a : Option Addr) (n cap : Nat), v = .slice a n cap ∧ (n ≤ 1048576 → Cln W a n cap 4) ∧ n ≤ Rows.uptoBulk z.1 := by
  obtain ⟨a, cap, xs, rfl, hv, _, hn, hl, _⟩ := open_vw (S := opnS) (Q := fun _ _ => True) (fun _ _ _ _ _ => trivial) Try.underlying26 Try.cellsOpi (by decide) (fun fuel vs y hl h => by
    obtain ⟨v0, v1, v2, v3, rfl⟩ := four_ofi hl
    obtain ⟨y0, y1, y2, y3, k, _, g0, g1, g2, g3⟩ := trod_rec4i Try.underlying52 h
    have e0 : DataW.trod enc Try.prog W 0 (fun _ => true) true k 3 [v0] = some y0 := g0
    have e1 : DataW.trod enc Try.prog W 0 (fun _ => true) true k 9 [v1] = some y1 := g1
    have e2 : DataW.trod enc Try.prog W 0 (fun _ => true) true k 9 [v2] = some y2 := g2
    have e3 : DataW.trod enc Try.prog W 0 (fun _ => true) true k 3 [v3] = some y3 := g3
    obtain ⟨z0, q0, rfl, _⟩ := DataW.trod_int Try.underlying3 e0
    obtain ⟨s1, q1, rfl, _⟩ := DataW.trod_string Try.underlying9 e1
    obtain ⟨s2, q2, rfl, _⟩ := DataW.trod_string Try.underlying9 e2
    obtain ⟨z3, q3, rfl, _⟩ := DataW.trod_int Try.underlying3 e3
    simp only [List.cons.injEq, and_true] at q0 q1 q2 q3
    subst q0 q1 q2 q3
    exact ⟨(z0, s1, s2, z3), rfl, trivial⟩) h
  exact ⟨a, xs.length, cap, rfl, fun hs => ⟨_, vw_fl (S := opnS) (by decide) hv hn (by omega), row_one (S := opnS) xs⟩, hl⟩
set_option maxRecDepth 100000 in
theorem open_txt {H : Type} {enc : TypeId × Value → H} {W : World} {fuel : Nat} {v : Value} {z : DataW H × List MemPlace} (h : DataW.trod enc Try.prog W 0 (fun _ => true) true fuel 27 [v] = some z) :
    ∃ (a : Option Addr) (cap : Nat) (ts : List (List UInt8)), v = .slice a ts.length cap ∧ Vw txtS W a ts ∧ ts.length ≤ cap ∧ (a = none → cap = 0) ∧ ts.length ≤ Rows.uptoBulk z.1 := by
  obtain ⟨a, cap, xs, rfl, hv, hc, hn, hl, _⟩ := open_vw (S := txtS) (Q := fun _ _ => True) (fun _ _ _ _ _ => trivial) Try.underlying27 Try.cellsTexti (by decide) (fun fuel vs y hl h => by
    obtain ⟨v0, rfl⟩ : ∃ v0, vs = [v0] := by
      match vs, hl with
      | [v0], _ => exact ⟨v0, rfl⟩
    obtain ⟨⟨⟨s1⟩⟩, q1, rfl, _⟩ := DataW.trod_string Try.underlying9 h
    exact ⟨s1, q1, trivial⟩) h
  exact ⟨a, cap, xs, rfl, hv, hc, hn, hl⟩
theorem fits_wf {n : Int} (h : (Lit.int .i64 n).wf = true) : Fits n := by
  unfold Fits
  simp [Lit.wf, IntKind.min, IntKind.max, IntKind.bits, IntKind.signed] at h
  omega
set_option maxRecDepth 100000 in
theorem open_reply {H : Type} {enc : TypeId × Value → H} {W : World} {fuel : Nat} {vs : List Value} {z : DataW H × List MemPlace} (hl : vs.length = 4) (h : DataW.trod enc Try.prog W 0 (fun _ => true) true fuel 29 vs = some z) :
    ∃ (out : Int) (a : Option Addr) (cap : Nat) (ts : List (List UInt8)) (ix why : Int), vs = [.int .i64 out, .slice a ts.length cap, .int .i64 ix, .int .i64 why] ∧ Vw txtS W a ts ∧ ts.length ≤ cap ∧ (a = none → cap = 0) ∧ ts.length ≤ Rows.uptoBulk z.1 ∧ Fits out ∧ Fits ix ∧ Fits why := by
  obtain ⟨v0, v1, v2, v3, rfl⟩ := four_ofi hl
  obtain ⟨y0, y1, y2, y3, k, hz, g0, g1, g2, g3⟩ := trod_rec4i Try.underlying29 h
  have e0 : DataW.trod enc Try.prog W 0 (fun _ => true) true k 3 [v0] = some y0 := g0
  have e1 : DataW.trod enc Try.prog W 0 (fun _ => true) true k 27 [v1] = some y1 := g1
  have e2 : DataW.trod enc Try.prog W 0 (fun _ => true) true k 3 [v2] = some y2 := g2
  have e3 : DataW.trod enc Try.prog W 0 (fun _ => true) true k 23 [v3] = some y3 := g3
  obtain ⟨z0, q0, rfl, f0⟩ := DataW.trod_int Try.underlying3 e0
  obtain ⟨a, cap, ts, rfl, h1, h2, h3, h4⟩ := open_txt e1
  obtain ⟨z2, q2, rfl, f2⟩ := DataW.trod_int Try.underlying3 e2
  obtain ⟨z3, q3, rfl, f3⟩ := DataW.trod_int Try.underlying23 e3
  simp only [List.cons.injEq, and_true] at q0 q2 q3
  subst q0 q2 q3
  exact ⟨z0, a, cap, ts, z2, z3, rfl, h1, h2, h3, by rw [hz]; simp only [Rows.uptoBulk, Rows.uptoBulkAll]; omega, fits_wf f0, fits_wf f2, fits_wf f3⟩
set_option maxRecDepth 100000 in
theorem open_event {H : Type} {enc : TypeId × Value → H} {W : World} {fuel : Nat} {vs : List Value} {z : DataW H × List MemPlace} (hl : vs.length = 7) (h : DataW.trod enc Try.prog W 0 (fun _ => true) true fuel 31 vs = some z) : ∃ x : Ev, vs = evc x ∧ (Rows.uptoBulk z.1 ≤ 1048576 → EvOk W x) := by
  obtain ⟨v0, v1, v2, v3, v4, v5, v6, rfl⟩ := seven_ofi hl
  obtain ⟨y0, y1, y2, y3, k, hz, g0, g1, g2, g3⟩ := trod_rec4i Try.underlying31 h
  have e0 : DataW.trod enc Try.prog W 0 (fun _ => true) true k 3 [v0] = some y0 := g0
  have e1 : DataW.trod enc Try.prog W 0 (fun _ => true) true k 3 [v1] = some y1 := g1
  have e2 : DataW.trod enc Try.prog W 0 (fun _ => true) true k 26 [v2] = some y2 := g2
  have e3 : DataW.trod enc Try.prog W 0 (fun _ => true) true k 29 [v3, v4, v5, v6] = some y3 := g3
  obtain ⟨z0, q0, rfl, f0⟩ := DataW.trod_int Try.underlying3 e0
  obtain ⟨z1, q1, rfl, f1⟩ := DataW.trod_int Try.underlying3 e1
  obtain ⟨oa, on, oc, rfl, ho1, ho2⟩ := open_opn e2
  obtain ⟨out, ta, tc, ts, ix, why, q3, ht1, _, ht3, ht4, _⟩ := open_reply rfl e3
  simp only [List.cons.injEq, and_true] at q0 q1 q3
  obtain ⟨rfl, rfl, rfl, rfl⟩ := q3
  subst q0 q1
  refine ⟨⟨z0, z1, oa, on, oc, out, ta, ts.length, tc, ix, why⟩, rfl, fun hb => ?_⟩
  rw [hz] at hb
  simp only [Rows.uptoBulk, Rows.uptoBulkAll] at hb
  exact ⟨ho1 (by omega), ⟨_, vw_fl (S := txtS) (by decide) ht1 ht3 (by omega), row_one (S := txtS) ts⟩, ⟨by show on ≤ _; omega, by show ts.length ≤ _; omega⟩, fits_wf f1⟩
set_option maxRecDepth 100000 in
/-- Events in a slice. -/
theorem open_events {H : Type} {enc : TypeId × Value → H} {W : World} {a : Option Addr} {len cap : Nat} {d : DataW H} {p : List MemPlace} (h : DataW.Trod enc Try.prog W 0 (fun _ => true) true 32 (.slice a len cap) d p) (hb : Rows.uptoBulk d ≤ 1048576) :
    ∃ es : List Ev, es.length = len ∧ Vw evS W a es ∧ (∀ e ∈ es, EvOk W e) ∧ len ≤ cap ∧ (a = none → cap = 0) ∧ len ≤ 1048576 := by
  obtain ⟨fuel, hf⟩ := h
  have hf' : DataW.trod enc Try.prog W 0 (fun _ => true) true fuel 32 [.slice a len cap] = some (d, p) := by simpa [Value.cells] using hf
  obtain ⟨a', cap', es, e, hv, hc, hn, hl, hq⟩ := open_vw (S := evS) (Q := fun x n => n ≤ 1048576 → EvOk W x) (fun x m n hx hmn hn => hx (by omega)) Try.underlying32 Try.cellsEventi (by decide) (fun fuel vs y hl h => open_event hl h) hf'
  injection e with e1 e2 e3
  subst e1 e2 e3
  exact ⟨es, rfl, hv, fun e he => hq e he hb, hc, hn, by have : es.length ≤ Rows.uptoBulk d := hl; omega⟩
set_option maxRecDepth 100000 in
/-- A reply by value. -/
theorem open_rep {H : Type} {enc : TypeId × Value → H} {W : World} {base : Nat} {v : Value} {d : DataW H} {p : List MemPlace} (hv : Value.okWide Try.prog W .any base 29 v) (h : DataW.Trod enc Try.prog W 0 (fun _ => true) true 29 v d p) (hb : Rows.uptoBulk d ≤ 1048576) :
    ∃ (out : Int) (a : Option Addr) (cap : Nat) (ts : List (List UInt8)) (ix why : Int), v = .agg #[.int .i64 out, .slice a ts.length cap, .int .i64 ix, .int .i64 why] ∧ Vw txtS W a ts ∧ ts.length ≤ cap ∧ (a = none → cap = 0) ∧ ts.length ≤ 1048576 ∧ Fits out ∧ Fits ix ∧ Fits why := by
  obtain ⟨cs, rfl, hsz⟩ := okWide_struct Try.underlying29 hv
  obtain ⟨fuel, hf⟩ := h
  have hf' : DataW.trod enc Try.prog W 0 (fun _ => true) true fuel 29 cs.toList = some (d, p) := by simpa [Value.cells] using hf
  obtain ⟨out, a, cap, ts, ix, why, e, h1, h2, h3, h4, h5⟩ := open_reply (by rw [Array.length_toList, hsz]; exact Try.cellsReplyi) hf'
  refine ⟨out, a, cap, ts, ix, why, ?_, h1, h2, h3, by have : ts.length ≤ Rows.uptoBulk d := h4; omega, h5⟩
  rw [← e]

end Go.Proofs.Ytllopkebamlgeaa
