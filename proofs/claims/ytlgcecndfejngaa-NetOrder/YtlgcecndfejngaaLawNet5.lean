/-
  NetOrder: whatever the texts: true, and nothing old is written.
-/
import Derived.Test.YtlgcecndfejngaaNW
import Derived.Deep.CutRange
import Derived.Deep.RegionHeld
namespace Go.Proofs.Ytlgcecndfejngaa
open Go.RowKit

/-- A slice of texts. -/
def IsStrs (w : World) (a : Option Addr) (ss : List (List UInt8)) : Prop :=
  (0 < ss.length → ∃ b off, a = some ⟨b, off, none⟩ ∧ b < w.heap.size ∧ ∀ i (h : i < ss.length), w.cell? ⟨b, off + i, none⟩ = some (.string ⟨(ss[i]).toArray⟩)) ∧ ∀ s ∈ ss, s.length ≤ 140737488355328

theorem IsStrs.take {w : World} {a : Option Addr} {ss : List (List UInt8)} (h : IsStrs w a ss) (n : Nat) : IsStrs w a (ss.take n) := by
  refine ⟨fun h0 => ?_, fun s hs => h.2 s (List.mem_of_mem_take hs)⟩
  obtain ⟨b, off, e, hb, hc⟩ := h.1 (by rw [List.length_take] at h0; omega)
  refine ⟨b, off, e, hb, fun i hi => ?_⟩
  rw [hc i (by rw [List.length_take] at hi; omega)]
  simp

theorem Try.elemStr : Try.prog.elem 54 = 9 := by kernel_rfl
theorem Try.infoStr : (Try.prog.info? 9).map (fun i => (i.zero, i.size, i.bytes)) = some (some (.string ⟨#[]⟩), 1, 16) := by kernel_rfl
theorem size_str (w0 : World) : (sizeOf (Try.prog.elem 54)).run Try.prog w0 = .ok 1 w0 := by
  obtain ⟨i, hi, hz0, hz1, hz2⟩ := info_parts Try.infoStr
  rw [Try.elemStr]
  simp [sizeOf, typeInfo, hi, hz1]

/-- The first fifty. -/
theorem cut_fifty {w : World} {a : Option Addr} {cap : Nat} {ss : List (List UInt8)} (h : IsStrs w a ss) (hc : ss.length ≤ cap) : ∃ S, IsStrs w a S ∧ S.length ≤ 50 ∧ (((50 : Int) < (ss.length : Int) ∧ ∀ w0, (Instr.slice 54 (.slice a ss.length cap) none (some (.int .i64 50)) none).run Try.prog w0 = .ok (.slice a S.length cap) w0) ∨ (¬ (50 : Int) < (ss.length : Int) ∧ S = ss)) := by
  by_cases hl : 50 < ss.length
  · refine ⟨ss.take 50, h.take 50, by simp; omega, .inl ⟨by omega, fun w0 => ?_⟩⟩
    rw [run_slice_h (P := Try.prog) w0 54 a ss.length cap Try.underlying54 .i64 50 (by omega) (by omega), size_str]
    have e : (ss.take 50).length = 50 := by simp; omega
    rw [e]
    cases a <;> simp [Result.andThen, sliced, Addr.add]
  · exact ⟨ss, h, by omega, .inr ⟨by omega, rfl⟩⟩

/-- The message of the text j. -/
def ordAt (S : List (List UInt8)) (j : Nat) : Ms := ⟨((j % 2 : Nat) : Int), 1, S.getD j []⟩

/-- The first of what is left. -/
theorem first_drop {ps : List (Ms × Value)} {M : List Ms} {i : Nat} {m : Ms} (h : ps.map Prod.fst = M.drop i) (hm : M[i]? = some m) : ∃ u rest, ps = (m, u) :: rest ∧ rest.map Prod.fst = M.drop (i + 1) := by
  have hi : i < M.length := (List.getElem?_eq_some_iff.1 hm).1
  have e : M.drop i = m :: M.drop (i + 1) := by
    rw [List.drop_eq_getElem_cons hi]
    congr 1
    exact (List.getElem?_eq_some_iff.1 hm).2
  rw [e] at h
  match ps, h with
  | p :: rest, h =>
    simp only [List.map_cons, List.cons.injEq] at h
    exact ⟨p.2, rest, by rw [← h.1], h.2⟩

/-- The last of what is left. -/
theorem last_take {ps : List (Ms × Value)} {M : List Ms} {n : Nat} {m : Ms} (h : ps.map Prod.fst = M.take (n + 1)) (hm : M[n]? = some m) : ∃ u, ps.length = n + 1 ∧ ps[n]? = some (m, u) ∧ (ps.eraseIdx n).map Prod.fst = M.take n := by
  have hn : n < M.length := (List.getElem?_eq_some_iff.1 hm).1
  have hl : ps.length = n + 1 := by
    have := congrArg List.length h
    rw [List.length_map, List.length_take] at this
    omega
  have hg : (ps[n]'(by omega)).1 = m := by
    have := congrArg (fun l => l[n]?) h
    simp [hm] at this
    obtain ⟨x, hx⟩ := this
    rw [List.getElem?_eq_getElem (by omega)] at hx
    have := Option.some.inj hx
    rw [this]
  refine ⟨(ps[n]'(by omega)).2, hl, by rw [List.getElem?_eq_getElem (by omega), ← hg], ?_⟩
  rw [List.eraseIdx_eq_take_drop_succ, List.drop_eq_nil_of_le (by omega), List.append_nil, List.map_take, h, List.take_take]
  congr 1
  omega

set_option maxRecDepth 100000 in
set_option maxHeartbeats 2000000 in
theorem netOrder_any {w : World} {a : Option Addr} {cap : Nat} {ss : List (List UInt8)} (h : IsStrs w a ss) (hc : ss.length ≤ cap) (behind : Bool) :
    Calls Try.prog 7 #[.slice a ss.length cap, .bool behind] w fun e w' => e = .returned (.bool true) ∧ Kept (fun _ => True) w w' := by
  obtain ⟨S, hS, hl, hs⟩ := cut_fifty h hc
  have HS : Hid (IsStrs w a S) := hS
  clear h hc hS
  go_enter Try.func7, Try.ntmps7
  go_wp2_with fail
  refine Calls.mono (new_ok 2 (by decide) (by decide)) ?_
  rintro e w1 ⟨rfl, d1, k1⟩
  have m1 : Hid (Own1 w w1 w.heap.size (fun x => x = w.heap.size) (.slice none 0 0) [] 2 0) := Own1.new d1 k1
  clear d1 k1
  generalize (fun x => x = w.heap.size) = F1 at *
  obtain ⟨B, hB⟩ : ∃ B, B = w.heap.size := ⟨_, rfl⟩
  rw [← hB] at m1 ⊢
  clear hB
  go_upto_if 25 with fail
  go_cut [0] from 23 to 27 (fun s wx => s = .slice a S.length cap ∧ w1 = wx)
  case first =>
    rcases hs with ⟨gB, hs⟩ | ⟨gB, rfl⟩
    all_goals (go_wp2_with fail; go_meet; exact ⟨rfl, rfl⟩)
  case rest =>
  obtain ⟨rfl, rfl⟩ := hcut
  clear hs
  go_wp2
  go_loopw [7] (fun t wr => ∃ (k : Nat) (F : Nat → Prop) (v : Value) (ps : List (Ms × Value)), k ≤ S.length ∧ t = .int .i64 k ∧ Own1 w wr B F v ps 2 k ∧ ps.map Prod.fst = (List.range k).map (ordAt S)) (fun t _ => S.length - (intOf t).toNat)
  case atStart => exact ⟨0, F1, _, [], Nat.zero_le _, rfl, m1.out, rfl⟩
  case round =>
    clear m1
    obtain ⟨k, F, v, ps, hk, rfl, hm, hps⟩ := hrel
    have m : Hid (Own1 w wr B F v ps 2 k) := hm
    have HP : Hid (ps.map Prod.fst = (List.range k).map (ordAt S)) := hps
    have hlen : Hid (ps.length = k) := by show _ = _; simpa using congrArg List.length hps
    clear hm hps
    by_cases hlt : k < S.length
    · obtain ⟨lb, lo, rfl, hlb, hcell⟩ := HS.out.1 (by omega)
      have q1 : wr.cell? ⟨lb, lo + k, none⟩ = some (.string ⟨(S[k]).toArray⟩) := (kept_cell m.out.kept hlb trivial).trans (hcell k hlt)
      obtain ⟨T, hT⟩ : ∃ T, T = S[k] := ⟨_, rfl⟩
      have lT : T.length ≤ 140737488355328 := by rw [hT]; exact HS.out.2 _ (List.getElem_mem hlt)
      rw [← hT] at q1
      have HT : Hid (S.getD k [] = T) := by show _ = _; rw [hT]; simp [List.getD, List.getElem?_eq_getElem hlt]
      obtain ⟨cp, w2, cv, hh2, k2, -, -⟩ := conv_str wr T
      have m2 : Hid (Own1 w w2 B F v ps 2 k) := m.out.ahead k2
      obtain ⟨r, hr⟩ : ∃ r : Nat, r = k % 2 := ⟨_, rfl⟩
      have hr1 : Int.tmod (k : Int) 2 = (r : Int) := by rw [hr]; exact Int.ofNat_tmod k 2
      have hr2 : (k : Int) % 2 = (r : Int) := by omega
      have hr3 : IntKind.i64.wrap (r : Int) = r := by simp [IntKind.wrap, IntKind.bits, IntKind.signed]; omega
      have c := send_any (cap := cp) m2.out.net (r : Int) 1 ⟨by omega, by omega⟩ (by decide) (by have := hlen.out; omega) (by simp [IntKind.wrap, IntKind.bits, IntKind.signed]; omega) hh2 (by simp) lT
      have HR : Hid (r = k % 2) := hr
      have g1 : (k : Int) < (S.length : Int) := by omega
      have g0 : (0 : Int) ≤ (k : Int) := by omega
      clear hh2 k2 hT hcell hr
      go_wp2_with fail
      refine Calls.mono c ?_
      rintro e w3 ⟨rfl, F', v', u, s3⟩
      clear c cv q1 hr1 hr2 hr3
      have m3 : Hid (Own1 w w3 B F' v' (ps ++ [(⟨(r : Int), 1, T⟩, u)]) 2 (k + 1)) := m2.out.step s3
      clear s3 m2 m
      go_wp2
      go_roundw
      case rel => exact ⟨k + 1, F', v', _, by omega, by go_num, by have := m3.out; exact_mod_cast this, by rw [List.map_append, HP.out, List.range_succ, List.map_append, HR.out, ← HT.out]; rfl⟩
      case measure => simp [intOf]; omega
    · have g1 : ¬ ((k : Int) < (S.length : Int)) := by omega
      obtain rfl : k = S.length := by omega
      obtain ⟨M, hM⟩ : ∃ M, M = (List.range S.length).map (ordAt S) := ⟨_, rfl⟩
      have HM : Hid (M = (List.range S.length).map (ordAt S)) := hM
      have HP2 : Hid (ps.map Prod.fst = M) := by show _ = _; rw [hM]; exact HP.out
      have lM : Hid (M.length = S.length) := by show _ = _; rw [hM]; simp
      have gM : Hid (∀ i (h : i < S.length), M[i]? = some ⟨((i % 2 : Nat) : Int), 1, S[i]⟩) := fun i h => by
        rw [hM]
        simp [h, ordAt, List.getD]
      clear hM HP hlen HM
      cases behind with
      | false =>
        go_wp2
        go_loopw [8] (fun t wr => ∃ (i : Nat) (v : Value) (ps : List (Ms × Value)), i ≤ S.length ∧ t = .int .i64 i ∧ Own1 w wr B F v ps 2 S.length ∧ ps.map Prod.fst = M.drop i) (fun t _ => S.length - (intOf t).toNat)
        case atStart => exact ⟨0, v, ps, Nat.zero_le _, rfl, m.out, HP2.out⟩
        case round =>
          clear m HP2
          obtain ⟨i, v, ps, hi, rfl, hm, hps⟩ := hrel
          have m : Hid (Own1 w wr B F v ps 2 S.length) := hm
          have HP : Hid (ps.map Prod.fst = M.drop i) := hps
          clear hm hps
          by_cases hlt : i < S.length
          · obtain ⟨u, rest, hps, hrest⟩ := first_drop HP.out (gM.out i hlt)
            subst hps
            have HR : Hid (rest.map Prod.fst = M.drop (i + 1)) := hrest
            obtain ⟨lb, lo, rfl, hlb, hcell⟩ := HS.out.1 (by omega)
            have q1 : w.cell? ⟨lb, lo + i, none⟩ = some (.string ⟨(S[i]).toArray⟩) := hcell i hlt
            obtain ⟨T, hT⟩ : ∃ T, T = S[i] := ⟨_, rfl⟩
            rw [← hT] at q1 m
            obtain ⟨r, hr⟩ : ∃ r : Nat, r = i % 2 := ⟨_, rfl⟩
            rw [← hr] at m
            have hr1 : Int.tmod (i : Int) 2 = (r : Int) := by rw [hr]; exact Int.ofNat_tmod i 2
            have hr2 : (i : Int) % 2 = (r : Int) := by omega
            have hr3 : IntKind.i64.wrap (r : Int) = r := by simp [IntKind.wrap, IntKind.bits, IntKind.signed]; omega
            have c := take_any (p := (⟨(r : Int), 1, T⟩, u)) m.out.net 0 (by unfold I64; decide) (by simp [spot])
            have g1 : (i : Int) < (S.length : Int) := by omega
            have g0 : (0 : Int) ≤ (i : Int) := by omega
            rw [show spot 0 (((⟨(r : Int), 1, T⟩ : Ms), u) :: rest).length = 0 by simp [spot]] at c
            have K0 : Hid (Kept (fun _ => True) w wr) := m.out.kept
            clear hT hcell hrest HP
            go_wp2_with fail
            refine Calls.mono c ?_
            rintro e w3 ⟨ao, ac, v3, rfl, o3, s3⟩
            clear c hr
            have m3 : Hid (Own1 w (w3.alloc (.cells #[.int .i64 r, .int .i64 1, .slice ao T.length ac] 30)) B F v3 rest 2 S.length) := (m.out.step s3).ahead ((Kept.refl _ _).alloc _)
            have hx := heap_alloc_new w3 (.cells #[.int .i64 r, .int .i64 1, .slice ao T.length ac] 30)
            have o4 := own_kept o3 ((Kept.refl (fun _ => True) w3).alloc (.cells #[.int .i64 r, .int .i64 1, .slice ao T.length ac] 30)) (fun _ _ => trivial)
            clear o3 s3 m
            go_wp2_with fail
            generalize w3.alloc (.cells #[.int .i64 r, .int .i64 1, .slice ao T.length ac] 30) = w4 at *
            generalize w3.heap.size = X at *
            obtain ⟨x0, x1, x2, -, -, -⟩ := three_cell hx
            have xlt := lt_of_block hx
            have hX0 : ∀ W, Kept (fun _ => True) w4 W → W.cell? ⟨X, 0, none⟩ = some (.int .i64 r) := fun W k => (kept_cell k xlt trivial).trans x0
            have hX1 : ∀ W, Kept (fun _ => True) w4 W → W.cell? ⟨X, 1, none⟩ = some (.int .i64 1) := fun W k => (kept_cell k xlt trivial).trans x1
            have hX2 : ∀ W, Kept (fun _ => True) w4 W → W.cell? ⟨X, 2, none⟩ = some (.slice ao T.length ac) := fun W k => (kept_cell k xlt trivial).trans x2
            have hXc : ∀ W, Kept (fun _ => True) w4 W → (convert 27 9 (.slice ao T.length ac)).run Try.prog W = .ok (.string ⟨T.toArray⟩) W := fun W k => conv_own (own_kept o4 k (fun _ _ => trivial))
            have hL : ∀ W, Kept (fun _ => True) w4 W → W.cell? ⟨lb, lo + i, none⟩ = some (.string ⟨T.toArray⟩) := fun W k => (kept_cell (m3.out.kept.trans k) hlb trivial).trans q1
            have kd1 : Kept (fun _ => True) w4 w4.drew := (Kept.refl _ _).drew
            clear x0 x1 x2 hx o4 q1 xlt
            go_region_held (fun W => Kept (fun _ => True) w4 W) (assumption) (fail)
            all_goals
              go_wp2_with fail
              go_roundw
              case rel => exact ⟨i + 1, _, rest, by omega, by go_num, m3.out.ahead kd1, HR.out⟩
              case measure => simp [intOf]; omega
          · have g1 : ¬ ((i : Int) < (S.length : Int)) := by omega
            obtain rfl : ps = [] := by
              have := congrArg List.length HP.out
              rw [List.length_map] at this
              exact List.eq_nil_of_length_eq_zero (by simp at this; have := lM.out; omega)
            have c := pending_any m.out.net
            simp only [List.length_nil] at c
            go_wp2_with fail
            refine Calls.mono c ?_
            rintro e w5 ⟨rfl, L, qs, hL⟩
            clear c
            have m5 : Hid (Own1 w w5 B F v [] 2 S.length) := m.out.ahead hL.kept
            clear hL m
            have c := sent_any m5.out.net.nt
            go_wp2_with fail
            refine Calls.mono c ?_
            rintro e w5 ⟨rfl, rfl⟩
            clear c
            go_wp2_with fail
            refine Calls.mono (known_any _) ?_
            rintro e w7 ⟨rfl, k7⟩
            go_wp2
            go_ret
            exact ⟨rfl, m5.out.kept.trans k7⟩
      | true =>
        go_wp2
        go_loopw [8] (fun t wr => ∃ (i : Nat) (v : Value) (ps : List (Ms × Value)), i ≤ S.length ∧ t = .int .i64 i ∧ Own1 w wr B F v ps 2 S.length ∧ ps.map Prod.fst = M.take (S.length - i)) (fun t _ => S.length - (intOf t).toNat)
        case atStart => exact ⟨0, v, ps, Nat.zero_le _, rfl, m.out, by rw [Nat.sub_zero, ← lM.out, List.take_length]; exact HP2.out⟩
        case round =>
          clear m HP2
          obtain ⟨i, v, ps, hi, rfl, hm, hps⟩ := hrel
          have m : Hid (Own1 w wr B F v ps 2 S.length) := hm
          have HP : Hid (ps.map Prod.fst = M.take (S.length - i)) := hps
          clear hm hps
          by_cases hlt : i < S.length
          · obtain ⟨n1, hn1⟩ : ∃ n1, S.length - i = n1 + 1 := ⟨S.length - i - 1, by omega⟩
            have hn : n1 < S.length := by omega
            have HP' : ps.map Prod.fst = M.take (n1 + 1) := by rw [← hn1]; exact HP.out
            obtain ⟨u, hpl, hp, hrest⟩ := last_take HP' (gM.out n1 hn)
            have HR : Hid ((ps.eraseIdx n1).map Prod.fst = M.take (S.length - (i + 1))) := by show _ = _; rw [hrest]; congr 1; omega
            obtain ⟨lb, lo, rfl, hlb, hcell⟩ := HS.out.1 (by omega)
            have q1 : w.cell? ⟨lb, lo + n1, none⟩ = some (.string ⟨(S[n1]).toArray⟩) := hcell n1 hn
            obtain ⟨T, hT⟩ : ∃ T, T = S[n1] := ⟨_, rfl⟩
            rw [← hT] at q1 hp
            obtain ⟨r, hr⟩ : ∃ r : Nat, r = n1 % 2 := ⟨_, rfl⟩
            rw [← hr] at hp
            have hr1 : Int.tmod (n1 : Int) 2 = (r : Int) := by rw [hr]; exact Int.ofNat_tmod n1 2
            have hr2 : (n1 : Int) % 2 = (r : Int) := by omega
            have hr3 : IntKind.i64.wrap (r : Int) = r := by simp [IntKind.wrap, IntKind.bits, IntKind.signed]; omega
            have c := pending_any m.out.net
            rw [hpl] at c
            have g1 : (i : Int) < (S.length : Int) := by omega
            have g0 : (0 : Int) ≤ (i : Int) := by omega
            have e1 : ((n1 : Int) + 1) - 1 = (n1 : Int) := by omega
            have e2 : (S.length : Int) - 1 - (i : Int) = (n1 : Int) := by omega
            have e3 : IntKind.i64.wrap (n1 : Int) = (n1 : Int) := by simp [IntKind.wrap, IntKind.bits, IntKind.signed]; omega
            have e4 : IntKind.i64.wrap ((S.length : Int) - 1) = (S.length : Int) - 1 := by simp [IntKind.wrap, IntKind.bits, IntKind.signed]; omega
            have g2 : (n1 : Int) < (S.length : Int) := by omega
            have g3 : (0 : Int) ≤ (n1 : Int) := by omega
            have HP3 : Hid (ps[spot (n1 : Int) ps.length]? = some ((⟨(r : Int), 1, T⟩ : Ms), u)) := by
              show _ = _
              rw [show spot (n1 : Int) ps.length = n1 by rw [hpl]; unfold spot; rw [if_neg (by omega), Int.toNat_natCast]; exact Nat.mod_eq_of_lt (by omega)]
              exact hp
            have HI : Hid (I64 (n1 : Int)) := by show I64 _; unfold I64; omega
            have HE : Hid (spot (n1 : Int) ps.length = n1) := by show _ = _; rw [hpl]; unfold spot; rw [if_neg (by omega), Int.toNat_natCast]; exact Nat.mod_eq_of_lt (by omega)
            clear hT hcell hrest HP HP' hp hn1 hn
            go_wp2_with fail
            refine Calls.mono c ?_
            rintro e wp ⟨rfl, Lp, qs, hLp⟩
            clear c
            have mp : Hid (Own1 w wp B F v ps 2 S.length) := m.out.ahead hLp.kept
            clear m hLp
            have c := take_any (p := (⟨(r : Int), 1, T⟩, u)) mp.out.net (n1 : Int) HI.out HP3.out
            rw [HE.out] at c
            go_wp2_with fail
            refine Calls.mono c ?_
            rintro e w3 ⟨ao, ac, v3, rfl, o3, s3⟩
            clear c hr
            have m3 : Hid (Own1 w (w3.alloc (.cells #[.int .i64 r, .int .i64 1, .slice ao T.length ac] 30)) B F v3 (ps.eraseIdx n1) 2 S.length) := (mp.out.step s3).ahead ((Kept.refl _ _).alloc _)
            have hx := heap_alloc_new w3 (.cells #[.int .i64 r, .int .i64 1, .slice ao T.length ac] 30)
            have o4 := own_kept o3 ((Kept.refl (fun _ => True) w3).alloc (.cells #[.int .i64 r, .int .i64 1, .slice ao T.length ac] 30)) (fun _ _ => trivial)
            clear o3 s3 mp
            go_wp2_with fail
            generalize w3.alloc (.cells #[.int .i64 r, .int .i64 1, .slice ao T.length ac] 30) = w4 at *
            generalize w3.heap.size = X at *
            obtain ⟨x0, x1, x2, -, -, -⟩ := three_cell hx
            have xlt := lt_of_block hx
            have hX0 : ∀ W, Kept (fun _ => True) w4 W → W.cell? ⟨X, 0, none⟩ = some (.int .i64 r) := fun W k => (kept_cell k xlt trivial).trans x0
            have hX1 : ∀ W, Kept (fun _ => True) w4 W → W.cell? ⟨X, 1, none⟩ = some (.int .i64 1) := fun W k => (kept_cell k xlt trivial).trans x1
            have hX2 : ∀ W, Kept (fun _ => True) w4 W → W.cell? ⟨X, 2, none⟩ = some (.slice ao T.length ac) := fun W k => (kept_cell k xlt trivial).trans x2
            have hXc : ∀ W, Kept (fun _ => True) w4 W → (convert 27 9 (.slice ao T.length ac)).run Try.prog W = .ok (.string ⟨T.toArray⟩) W := fun W k => conv_own (own_kept o4 k (fun _ _ => trivial))
            have hL : ∀ W, Kept (fun _ => True) w4 W → W.cell? ⟨lb, lo + n1, none⟩ = some (.string ⟨T.toArray⟩) := fun W k => (kept_cell (m3.out.kept.trans k) hlb trivial).trans q1
            have kd1 : Kept (fun _ => True) w4 w4.drew := (Kept.refl _ _).drew
            clear x0 x1 x2 hx o4 q1 xlt
            go_region_held (fun W => Kept (fun _ => True) w4 W) (assumption) (fail)
            all_goals
              go_wp2_with fail
              go_roundw
              case rel => exact ⟨i + 1, _, _, by omega, by go_num, m3.out.ahead kd1, HR.out⟩
              case measure => simp [intOf]; omega
          · have g1 : ¬ ((i : Int) < (S.length : Int)) := by omega
            obtain rfl : ps = [] := by
              have := congrArg List.length HP.out
              rw [List.length_map] at this
              exact List.eq_nil_of_length_eq_zero (by simp at this; have := lM.out; omega)
            have c := pending_any m.out.net
            simp only [List.length_nil] at c
            go_wp2_with fail
            refine Calls.mono c ?_
            rintro e w5 ⟨rfl, L, qs, hL⟩
            clear c
            have m5 : Hid (Own1 w w5 B F v [] 2 S.length) := m.out.ahead hL.kept
            clear hL m
            have c := sent_any m5.out.net.nt
            go_wp2_with fail
            refine Calls.mono c ?_
            rintro e w5 ⟨rfl, rfl⟩
            clear c
            go_wp2_with fail
            refine Calls.mono (known_any _) ?_
            rintro e w7 ⟨rfl, k7⟩
            go_wp2
            go_ret
            exact ⟨rfl, m5.out.kept.trans k7⟩

end Go.Proofs.Ytlgcecndfejngaa
