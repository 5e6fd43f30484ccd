/-
  A proposer in memory; New, Ballot, Seen, Begin, mine, isNode, asked.
-/
import Derived.Test.YtpgoedpodfidjaaPPlain
import Derived.Test.YtpgoedpodfidjaaB3
import Derived.Laws.OwnMore
namespace Go.Proofs.Ytpgoedpodfidjaa
open Go.RowKit

/-- A proposer in block P, its places in the slice v of length n. -/
structure Po (w : World) (P : Nat) (v : Value) (n : Nat) (x : Pr) : Prop where
  self : w.heap[P]? = some (.cells #[.int .i64 x.me, .int .i64 x.nodes, .int .i64 x.seen, .int .i64 x.b.r, .int .i64 x.b.n, .int .i64 x.frm, .int .u64 x.prom, v] 66 (0, 0))
  row : w.ownsRow 0 75 8 v n (prow x.pl n)
  top : ∀ s, n ≤ s → x.pl s = zeroPl
  small : n ≤ 512
  ok : x.Ok

theorem ocell {w : World} {b : Nat} {x0 x1 x2 x3 x4 x5 x6 x7 : Value} {t : TypeId} (h : w.heap[b]? = some (.cells #[x0, x1, x2, x3, x4, x5, x6, x7] t (0, 0))) :
    w.cell? ⟨b, 0, none⟩ = some x0 ∧ w.cell? ⟨b, 1, none⟩ = some x1 ∧ w.cell? ⟨b, 2, none⟩ = some x2 ∧ w.cell? ⟨b, 3, none⟩ = some x3 ∧ w.cell? ⟨b, 4, none⟩ = some x4 ∧ w.cell? ⟨b, 5, none⟩ = some x5 ∧ w.cell? ⟨b, 6, none⟩ = some x6 ∧ w.cell? ⟨b, 7, none⟩ = some x7 ∧ ∀ j, w.frozen? ⟨b, j, none⟩ = false := by
  refine ⟨by simp [World.cell?, h], by simp [World.cell?, h], by simp [World.cell?, h], by simp [World.cell?, h], by simp [World.cell?, h], by simp [World.cell?, h], by simp [World.cell?, h], by simp [World.cell?, h], fun j => by simp [World.frozen?, h]⟩

section
variable {w w' : World} {P n : Nat} {v : Value} {x : Pr}
theorem Po.lt (h : Po w P v n x) : P < w.heap.size := lt_of_block h.self
theorem Po.ne (h : Po w P v n x) : v.ownBlock ≠ some P := by
  intro e
  rcases h.row.2 with ⟨rfl, _⟩ | ⟨g, cap, cur, rfl, _, hg, _⟩
  · simp [Value.ownBlock] at e
  · simp [Value.ownBlock] at e
    subst e
    rw [h.self] at hg
    simp at hg
theorem Po.kept {q : Nat → Prop} (h : Po w P v n x) (k : Kept q w w') (hp : q P) (hv : ∀ i, v.ownBlock = some i → q i) : Po w' P v n x := by
  refine ⟨(k.block P h.lt hp).trans h.self, ?_, h.top, h.small, h.ok⟩
  refine ⟨h.row.1, ?_⟩
  rcases h.row.2 with h0 | ⟨g, cap, cur, rfl, hb, hh, rest⟩
  · exact .inl h0
  · exact .inr ⟨g, cap, cur, rfl, hb, (k.block g (lt_of_block hh) (hv g rfl)).trans hh, rest⟩
theorem Po.all (h : Po w P v n x) (k : Kept (fun _ => True) w w') : Po w' P v n x := h.kept k trivial (fun _ _ => trivial)
theorem Po.rowKept {q : Nat → Prop} (h : Po w P v n x) (k : Kept q w w') (hv : ∀ i, v.ownBlock = some i → q i) : w'.ownsRow 0 75 8 v n (prow x.pl n) := by
  refine ⟨h.row.1, ?_⟩
  rcases h.row.2 with h0 | ⟨g, cap, cur, rfl, hb, hh, rest⟩
  · exact .inl h0
  · exact .inr ⟨g, cap, cur, rfl, hb, (k.block g (lt_of_block hh) (hv g rfl)).trans hh, rest⟩
/-- A store into the proposer's own cells. -/
theorem po_set {cs : Array Value} {t : TypeId} (h : w.heap[P]? = some (.cells cs t (0, 0))) (j : Nat) (u : Value) : (w.setCell ⟨P, j, none⟩ u).heap[P]? = some (.cells (cs.setIfInBounds j u) t (0, 0)) := heap_setCell_same w P j cs t u h
end

set_option maxHeartbeats 400000 in
theorem pnew_any {w : World} {me nodes : Int} (h1 : 1 ≤ nodes) (h5 : nodes ≤ 5) (hm : 0 ≤ me) (hn : me < nodes) :
    Calls Try.prog 8 #[.int .i64 me, .int .i64 nodes] w fun e w' => ∃ P, e = .returned (.tuple #[.pointer (some ⟨P, 0, none⟩), .int .i64 0]) ∧ Po w' P (.slice none 0 0) 0 (Pr.new me nodes.toNat) ∧ Kept (fun _ => True) w w' ∧ P = w.heap.size := by
  go_enter Try.func8, Try.ntmps8
  go_wp2
  go_ret2
  refine ⟨w.heap.size, rfl, ⟨?_, World.ownsRow_nil _ _ _ _, fun _ _ => rfl, by omega, ⟨?_, ?_, ?_, ?_, ?_, ?_, ?_⟩⟩, (Kept.refl _ _).alloc _, rfl⟩
  · rw [heap_alloc_new]
    simp [Pr.new, Int.toNat_of_nonneg (show 0 ≤ nodes by omega)]
  all_goals simp [Pr.new, zeroPl]
  all_goals omega
theorem pnew_bad {w : World} {me nodes : Int} (h : nodes < 1 ∨ 5 < nodes ∨ me < 0 ∨ nodes ≤ me) :
    Calls Try.prog 8 #[.int .i64 me, .int .i64 nodes] w fun e w' => e = .returned (.tuple #[.pointer none, .int .i64 1]) ∧ w' = w := by
  by_cases h1 : nodes < 1
  · go_enter Try.func8, Try.ntmps8
    go_wp2
    go_ret2
    exact ⟨rfl, rfl⟩
  by_cases h2 : 5 < nodes
  · go_enter Try.func8, Try.ntmps8
    go_wp2
    go_ret2
    exact ⟨rfl, rfl⟩
  by_cases h3 : me < 0
  · go_enter Try.func8, Try.ntmps8
    go_wp2
    go_ret2
    exact ⟨rfl, rfl⟩
  · have h4 : nodes ≤ me := by omega
    go_enter Try.func8, Try.ntmps8
    go_wp2
    go_ret2
    exact ⟨rfl, rfl⟩

set_option maxHeartbeats 400000 in
theorem pballot_any {w : World} {P n : Nat} {v : Value} {x : Pr} (h : Po w P v n x) :
    Calls Try.prog 9 #[.pointer (some ⟨P, 0, none⟩)] w fun e w' => e = .returned (.agg #[.int .i64 x.b.r, .int .i64 x.b.n]) ∧ Kept (fun _ => True) w w' := by
  obtain ⟨c0, c1, c2, c3, c4, c5, c6, c7, cf⟩ := ocell h.self
  have lt := h.lt
  clear h
  go_enter Try.func9, Try.ntmps9
  go_wp2
  refine bodyPost_ret (results_bal rfl _ _ rfl (heap_alloc_new _ _)) rfl ⟨rfl, (Kept.refl _ _).alloc _⟩

theorem Po.seenSet {w : World} {P n : Nat} {v : Value} {x : Pr} (h : Po w P v n x) {r z : Int} (hz : z = (x.sees r).seen) : Po (w.setCell ⟨P, 2, none⟩ (.int .i64 z)).drew P v n (x.sees r) := by
  subst hz
  have k2 : Kept (· ≠ P) w (w.setCell ⟨P, 2, none⟩ (.int .i64 (x.sees r).seen)).drew := ((Kept.refl _ _).setCell (by simp) _).drew
  exact ⟨po_set h.self 2 _, h.rowKept k2 (fun i hi e => h.ne (e ▸ hi)), h.top, h.small, h.ok.sees r⟩

set_option maxHeartbeats 1000000 in
theorem pseen_any {w : World} {P n : Nat} {v : Value} {x : Pr} (h : Po w P v n x) (r nd : Int) :
    Calls Try.prog 10 #[.pointer (some ⟨P, 0, none⟩), .agg #[.int .i64 r, .int .i64 nd]] w fun e w' => e = .returned (.tuple #[]) ∧ Po w' P v n (x.sees r) ∧ Kept (· ≠ P) w w' := by
  have H : Hid (Po w P v n x) := h
  have lt := h.lt
  clear h
  go_enter Try.func10, Try.ntmps10
  go_wp2_with fail
  have k1 : Kept (fun _ => True) w (w.alloc (.cells #[.int .i64 r, .int .i64 nd] 27)) := (Kept.refl _ _).alloc _
  have hb := heap_alloc_new w (.cells #[.int .i64 r, .int .i64 nd] 27)
  have H1 : Hid (Po _ P v n x) := H.out.all k1
  generalize w.alloc (.cells #[.int .i64 r, .int .i64 nd] 27) = w1 at *
  generalize w.heap.size = B at *
  obtain ⟨c0, c1, c2, c3, c4, c5, c6, c7, cf⟩ := ocell H1.out.self
  obtain ⟨d0, d1⟩ := bcell hb
  go_region
  go_wp2
  all_goals
    go_end0
    exact ⟨rfl, H1.out.seenSet (by show _ = max x.seen (min r 1073741824); omega), ((k1.mono (fun _ _ _ => trivial)).setCell (by simp) _).drew⟩

theorem Po.begun {w : World} {P n : Nat} {v : Value} {x : Pr} (h : Po w P v n x) {a z y : Int} (ha : a ≤ 9223372036854775807) (hz : z = min (x.seen + 1) 1073741824) (hy : y = max a 0) (W : World)
    (hW : W = (((((((w.setCell ⟨P, 2, none⟩ (.int .i64 z)).setCell ⟨P, 3, none⟩ (.int .i64 z)).setCell ⟨P, 4, none⟩ (.int .i64 x.me)).setCell ⟨P, 5, none⟩ (.int .i64 y)).setCell ⟨P, 6, none⟩ (.int .u64 0)).setCell ⟨P, 7, none⟩ (.slice none 0 0)).alloc (.cells #[.int .i64 z, .int .i64 x.me] 27)).drew) :
    Po W P (.slice none 0 0) 0 (x.begins a) ∧ Kept (· ≠ P) w W ∧ W.heap[w.heap.size]? = some (.cells #[.int .i64 z, .int .i64 x.me] 27 (0, 0)) := by
  subst hW
  have e1 := po_set (po_set (po_set (po_set (po_set (po_set h.self 2 (.int .i64 z)) 3 (.int .i64 z)) 4 (.int .i64 x.me)) 5 (.int .i64 y)) 6 (.int .u64 0)) 7 (.slice none 0 0)
  have k1 : Kept (· ≠ P) w ((((((w.setCell ⟨P, 2, none⟩ (.int .i64 z)).setCell ⟨P, 3, none⟩ (.int .i64 z)).setCell ⟨P, 4, none⟩ (.int .i64 x.me)).setCell ⟨P, 5, none⟩ (.int .i64 y)).setCell ⟨P, 6, none⟩ (.int .u64 0)).setCell ⟨P, 7, none⟩ (.slice none 0 0)) := ((((((Kept.refl _ _).setCell (by simp) _).setCell (by simp) _).setCell (by simp) _).setCell (by simp) _).setCell (by simp) _).setCell (by simp) _
  have hs : ((((((w.setCell ⟨P, 2, none⟩ (.int .i64 z)).setCell ⟨P, 3, none⟩ (.int .i64 z)).setCell ⟨P, 4, none⟩ (.int .i64 x.me)).setCell ⟨P, 5, none⟩ (.int .i64 y)).setCell ⟨P, 6, none⟩ (.int .u64 0)).setCell ⟨P, 7, none⟩ (.slice none 0 0)).heap.size = w.heap.size := by simp [World.setCell]
  generalize (((((w.setCell ⟨P, 2, none⟩ (.int .i64 z)).setCell ⟨P, 3, none⟩ (.int .i64 z)).setCell ⟨P, 4, none⟩ (.int .i64 x.me)).setCell ⟨P, 5, none⟩ (.int .i64 y)).setCell ⟨P, 6, none⟩ (.int .u64 0)).setCell ⟨P, 7, none⟩ (.slice none 0 0) = w1 at *
  have k2 : Kept (fun _ => True) w1 (w1.alloc (.cells #[.int .i64 z, .int .i64 x.me] 27)).drew := ((Kept.refl _ _).alloc _).drew
  refine ⟨⟨?_, World.ownsRow_nil _ _ _ _, fun _ _ => rfl, by omega, h.ok.begins ha⟩, k1.trans (k2.mono (fun _ _ _ => trivial)), ?_⟩
  · refine (k2.block P (lt_of_block e1) trivial).trans (e1.trans ?_)
    subst hz hy
    rw [max_zero a]
    rfl
  · rw [← hs]
    exact heap_alloc_new w1 _

set_option maxHeartbeats 1000000 in
theorem pbegin_any {w : World} {P n : Nat} {v : Value} {x : Pr} (h : Po w P v n x) (a : Int) (ha : a ≤ 9223372036854775807) :
    Calls Try.prog 11 #[.pointer (some ⟨P, 0, none⟩), .int .i64 a] w fun e w' => e = .returned (.agg #[.int .i64 (x.begins a).b.r, .int .i64 (x.begins a).b.n]) ∧ Po w' P (.slice none 0 0) 0 (x.begins a) ∧ Kept (· ≠ P) w w' := by
  have H : Hid (Po w P v n x) := h
  have lt := h.lt
  have s0 := h.ok.seen0
  have s1 := h.ok.seen1
  clear h
  obtain ⟨c0, c1, c2, c3, c4, c5, c6, c7, cf⟩ := ocell H.out.self
  by_cases hs : 1073741824 < x.seen + 1
  · by_cases h0 : a < 0
    · go_enter Try.func11, Try.ntmps11
      go_wp2_with fail
      go_region
      go_wp2
      obtain ⟨b1, b2, b3⟩ := H.out.begun (a := a) (z := 1073741824) (y := 0) ha (by omega) (by omega) _ rfl
      refine bodyPost_ret (results_bal rfl _ _ rfl b3) rfl ⟨?_, b1, b2⟩
      simp [Pr.begins]
      omega
    · go_enter Try.func11, Try.ntmps11
      go_wp2_with fail
      go_region
      go_wp2
      obtain ⟨b1, b2, b3⟩ := H.out.begun (a := a) (z := 1073741824) (y := a) ha (by omega) (by omega) _ rfl
      refine bodyPost_ret (results_bal rfl _ _ rfl b3) rfl ⟨?_, b1, b2⟩
      simp [Pr.begins]
      omega
  · by_cases h0 : a < 0
    · go_enter Try.func11, Try.ntmps11
      go_wp2_with fail
      go_region
      go_wp2
      obtain ⟨b1, b2, b3⟩ := H.out.begun (a := a) (z := (x.seen + 1)) (y := 0) ha (by omega) (by omega) _ rfl
      refine bodyPost_ret (results_bal rfl _ _ rfl b3) rfl ⟨?_, b1, b2⟩
      simp [Pr.begins]
      omega
    · go_enter Try.func11, Try.ntmps11
      go_wp2_with fail
      go_region
      go_wp2
      obtain ⟨b1, b2, b3⟩ := H.out.begun (a := a) (z := (x.seen + 1)) (y := a) ha (by omega) (by omega) _ rfl
      refine bodyPost_ret (results_bal rfl _ _ rfl b3) rfl ⟨?_, b1, b2⟩
      simp [Pr.begins]
      omega

set_option maxHeartbeats 1000000 in
theorem mine_any {w : World} {P n : Nat} {v : Value} {x : Pr} (h : Po w P v n x) (b : Bl) :
    Calls Try.prog 25 #[.pointer (some ⟨P, 0, none⟩), .agg #[.int .i64 b.r, .int .i64 b.n]] w fun e w' => e = .returned (.bool (x.mine b)) ∧ Kept (fun _ => True) w w' := by
  have H : Hid (Po w P v n x) := h
  have lt := h.lt
  clear h
  go_enter Try.func25, Try.ntmps25
  go_wp2_with fail
  have k1 : Kept (fun _ => True) w (w.alloc (.cells #[.int .i64 b.r, .int .i64 b.n] 27)) := (Kept.refl _ _).alloc _
  have hb := heap_alloc_new w (.cells #[.int .i64 b.r, .int .i64 b.n] 27)
  have H1 : Hid (Po _ P v n x) := H.out.all k1
  generalize w.alloc (.cells #[.int .i64 b.r, .int .i64 b.n] 27) = w1 at *
  generalize w.heap.size = B at *
  obtain ⟨c0, c1, c2, c3, c4, c5, c6, c7, cf⟩ := ocell H1.out.self
  obtain ⟨d0, d1⟩ := bcell hb
  clear c0 c1 c2 c5 c6 c7 cf hb
  obtain ⟨r, nd⟩ := b
  obtain ⟨xr, xn, hx⟩ : ∃ xr xn, x.b = ⟨xr, xn⟩ := ⟨_, _, rfl⟩
  simp only [hx] at c3 c4
  have hx' : Hid (x.b = ⟨xr, xn⟩) := hx
  clear hx
  by_cases e1 : r = xr
  · by_cases e2 : nd = xn
    · subst e1 e2
      by_cases e3 : r = 0
      · by_cases e4 : nd = 0
        · subst e3 e4
          go_quiet (fail)
          go_wp2
          go_ret
          exact ⟨by simp [Pr.mine], k1.drewN _⟩
        · subst e3
          have q1 : (nd == 0) = false := by simpa using e4
          go_quiet (fail)
          go_wp2
          go_ret
          exact ⟨by simp [Pr.mine, hx'.out, e4], k1.drewN _⟩
      · have q1 : (r == 0) = false := by simpa using e3
        go_quiet (fail)
        go_wp2
        go_ret
        exact ⟨by simp [Pr.mine, hx'.out, e3], k1.drewN _⟩
    · subst e1
      have q1 : (nd == xn) = false := by simpa using e2
      go_quiet (fail)
      go_wp2
      go_ret
      exact ⟨by simp [Pr.mine, hx'.out, e2], k1.drewN _⟩
  · have q1 : (r == xr) = false := by simpa using e1
    go_quiet (fail)
    go_wp2
    go_ret
    exact ⟨by simp [Pr.mine, hx'.out, e1], k1.drewN _⟩

set_option maxHeartbeats 400000 in
theorem isNode_any {w : World} {P n : Nat} {v : Value} {x : Pr} (h : Po w P v n x) (k : Int) :
    Calls Try.prog 26 #[.pointer (some ⟨P, 0, none⟩), .int .i64 k] w fun e w' => e = .returned (.bool (x.isNode k)) ∧ w' = w := by
  obtain ⟨c0, c1, c2, c3, c4, c5, c6, c7, cf⟩ := ocell h.self
  have lt := h.lt
  clear h
  by_cases h0 : 0 ≤ k
  · go_enter Try.func26, Try.ntmps26
    go_wp2
    go_ret
    exact ⟨by simp [Pr.isNode, h0]; try omega, rfl⟩
  · go_enter Try.func26, Try.ntmps26
    go_wp2
    go_ret
    exact ⟨by simp [Pr.isNode]; try omega, rfl⟩

set_option maxHeartbeats 400000 in
theorem asked_any {w : World} {P n : Nat} {v : Value} {x : Pr} (h : Po w P v n x) (k : Int) :
    Calls Try.prog 31 #[.pointer (some ⟨P, 0, none⟩), .int .i64 k] w fun e w' => e = .returned (.bool (x.asked k)) ∧ w' = w := by
  obtain ⟨c0, c1, c2, c3, c4, c5, c6, c7, cf⟩ := ocell h.self
  have lt := h.lt
  clear h
  by_cases h0 : (x.frm : Int) ≤ k
  · go_enter Try.func31, Try.ntmps31
    go_wp2
    go_ret
    exact ⟨by simp [Pr.asked, h0]; try omega, rfl⟩
  · go_enter Try.func31, Try.ntmps31
    go_wp2
    go_ret
    exact ⟨by simp [Pr.asked]; try omega, rfl⟩

set_option maxHeartbeats 400000 in
theorem has_any {w : World} {m k : Nat} (hm : m < 32) (hk : k < 5) :
    Calls Try.prog 27 #[.int .u64 m, .int .i64 k] w fun e w' => e = .returned (.bool (m.testBit k)) ∧ w' = w := by
  have hb := has_bit m hm k hk
  go_enter Try.func27, Try.ntmps27
  go_wp2
  go_ret
  exact ⟨rfl, rfl⟩

set_option maxHeartbeats 400000 in
theorem add_any {w : World} {P j m k : Nat} {cs : Array Value} {t : TypeId} (hP : w.heap[P]? = some (.cells cs t (0, 0))) (hj : cs[j]? = some (.int .u64 m)) (hm : m < 32) (hk : k < 5) :
    Calls Try.prog 28 #[.pointer (some ⟨P, j, none⟩), .int .i64 k] w fun e w' => e = .returned (.tuple #[]) ∧ w' = (w.setCell ⟨P, j, none⟩ (.int .u64 (m ||| 2 ^ k : Nat))).drew := by
  have hb := add_bit m hm k hk
  have hw : IntKind.u64.wrap (2 ^ k) = 2 ^ k := wrap_bit k hk
  have c : w.cell? ⟨P, j, none⟩ = some (.int .u64 m) := by simp [World.cell?, hP, hj]
  have cf : w.frozen? ⟨P, j, none⟩ = false := by simp [World.frozen?, hP]
  have lt := lt_of_block hP
  clear hP hj
  go_enter Try.func28, Try.ntmps28
  go_wp2_with fail
  go_region
  go_wp2
  go_end0
  exact ⟨rfl, rfl⟩

end Go.Proofs.Ytpgoedpodfidjaa
