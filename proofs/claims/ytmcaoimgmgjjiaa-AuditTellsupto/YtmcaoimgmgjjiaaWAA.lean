/-
  Texts of the proofs, 27 of 52.
-/
import Derived.Test.YtmcaoimgmgjjiaaWM
import Derived.Test.YtmcaoimgmgjjiaaWD
import Derived.Test.YtmcaoimgmgjjiaaWA
import Derived.Maps.AppendAt
import Derived.Laws.AppendOwnNone
import Derived.Deep.Onto
import Derived.Test.YtmcaoimgmgjjiaaWL
import Derived.BigRegion
namespace Go.Proofs.Ytmcaoimgmgjjiaa
open Go.RowKit

theorem byte0 (n : Int) : IntKind.u8.wrap n = ((byteAt (u64 n) 0).toNat : Int) := by
  rw [byteAt_toNat]
  simp [u64, IntKind.wrap, IntKind.bits, IntKind.signed]; omega
theorem byte1 (n : Int) : IntKind.u8.wrap (n / 256) = ((byteAt (u64 n) 1).toNat : Int) := by
  rw [byteAt_toNat]
  simp [u64, IntKind.wrap, IntKind.bits, IntKind.signed]; omega
theorem byte2 (n : Int) : IntKind.u8.wrap (n / 65536) = ((byteAt (u64 n) 2).toNat : Int) := by
  rw [byteAt_toNat]
  simp [u64, IntKind.wrap, IntKind.bits, IntKind.signed]; omega
theorem byte3 (n : Int) : IntKind.u8.wrap (n / 16777216) = ((byteAt (u64 n) 3).toNat : Int) := by
  rw [byteAt_toNat]
  simp [u64, IntKind.wrap, IntKind.bits, IntKind.signed]; omega

theorem own_up {w1 w2 : World} {b n n1 : Nat} {v v1 : Value} {xs xs1 : List Value} (h : w2.ownsRow 0 5 1 v n xs) (h1 : w1.ownsRow b 5 1 v1 n1 xs1) (hB : b ≤ w1.heap.size) (hat : v1.ownBlock = v.ownBlock ∨ ∃ g, v.ownBlock = some g ∧ w1.heap.size ≤ g) : w2.ownsRow b 5 1 v n xs := by
  refine ⟨h.1, ?_⟩
  rcases h.2 with h0 | ⟨g, cap, cur, rfl, _, rest⟩
  · exact .inl h0
  · refine .inr ⟨g, cap, cur, rfl, ?_, rest⟩
    rcases hat with e | ⟨g', e, hg'⟩
    · exact (h1.lt g e).1
    · have : g = g' := by simpa [Value.ownBlock] using e
      omega

set_option maxHeartbeats 400000 in
theorem rfour_any {w : World} {v : Value} {bs : List UInt8} (n : Int) (h : Sl w v bs) (hb : bs.length + 4 ≤ 140737488355328) :
    Calls Try.prog 55 #[v, .int .i64 n] w fun e w' => ∃ r, e = .returned r ∧ w'.ownsRow w.heap.size 5 1 r (bs ++ enc (u64 n) 4).length (cells (bs ++ enc (u64 n) 4)) ∧ Kept (fun _ => True) w w' := by
  obtain ⟨ao, cap, rfl, hn, hh⟩ := h
  have HN : Hid (ao = none → cap = 0) := hn
  have HH : Hid (Has w ao bs) := hh
  have HW0 := byte0 n
  have HW1 := byte1 n
  have HW2 := byte2 n
  have HW3 := byte3 n
  clear hn hh
  go_enter Try.func55, Try.ntmps55
  go_wp2_with (first
    | (at_builtin; refine wpList_append_has rfl (.tmp 5) (.tmp 6) rfl w.heap.size (.slice (some ⟨w.heap.size, 0, none⟩) 0 0) 0 [] rfl (own_new w _ (Nat.le_refl _)) (by simp) ao bs.length cap rfl bs rfl HN.out (HH.out.kept ((Kept.refl (fun _ => True) w).alloc _) (fun _ _ => trivial)) (by omega) ?_; intro a1 c1 w1 ho1 hg1 hl1; simp only [Nat.zero_add, List.nil_append] at ho1 hl1)
    | (at_builtin; refine wpList_append_has rfl (.tmp 7) (.tmp 19) rfl w.heap.size (.slice a1 bs.length c1) bs.length (cells bs) rfl (ho1.alloc _) (by have := hg1.size; simp at this ⊢; omega) _ 4 4 rfl [byteAt (u64 n) 3, byteAt (u64 n) 2, byteAt (u64 n) 1, byteAt (u64 n) 0] rfl (by simp) (has_row (heap_alloc_new w1 _)) (by omega) ?_; intro a2 c2 w2 ho2 hg2 hl2))
  go_ret
  refine ⟨_, rfl, ?_, ?_⟩
  · rw [cells_append]
    simpa [enc, List.length_append] using ho2
  · exact fresh_two hg1 hg2 hl1

set_option maxHeartbeats 400000 in
theorem rtext_any {w : World} {v : Value} {bs : List UInt8} (s : ByteArray) (h : Sl w v bs) (hb : bs.length + 4 + s.size ≤ 140737488355328) :
    Calls Try.prog 50 #[v, .string s] w fun e w' => ∃ r, e = .returned r ∧ w'.ownsRow w.heap.size 5 1 r (bs ++ enc (u64 s.size) 4 ++ s.data.toList).length (cells (bs ++ enc (u64 s.size) 4 ++ s.data.toList)) ∧ Kept (fun _ => True) w w' := by
  have c := rfour_any s.size h (by omega)
  have HL : Hid ((bs ++ enc (u64 s.size) 4).length + s.size ≤ 140737488355328) := by
    show _ ≤ _
    simp [enc_length]; omega
  generalize bs ++ enc (u64 s.size) 4 = cur at *
  go_enter Try.func50, Try.ntmps50
  go_wp2_with (first
    | (go_at_call 55; refine Calls.mono c ?_; rintro e w1 ⟨r, rfl, h1, h2⟩; obtain ⟨ao, cap, rfl⟩ := own_shape h1)
    | (at_builtin; refine wpList_append_str rfl _ _ rfl (.slice ao cur.length cap) cur.length (cells cur) rfl (h1.mono (Nat.zero_le _)) s rfl HL.out ?_; intro a2 c2 w2 ho hgr hat))
  go_ret
  refine ⟨_, rfl, ?_, ?_⟩
  · rw [cells_append, List.length_append]
    exact own_up ho h1 h2.size hat
  · exact h2.grown hgr (fun k hk e => by have := (h1.lt k e).1; omega)

end Go.Proofs.Ytmcaoimgmgjjiaa

namespace Go.Proofs.Ytmcaoimgmgjjiaa
open Go.RowKit

theorem rturn_eq (x n : Nat) (hx : x < 4294967296) : bits BinOp.or .u32 ((x : Int) / 2 ^ n) ((x : Int) * 2 ^ (32 - n) % 4294967296) = ((rotr x n : Nat) : Int) := by
  have e1 : (x : Int) / 2 ^ n = ((x / 2 ^ n : Nat) : Int) := by simp
  have e2 : (x : Int) * 2 ^ (32 - n) % 4294967296 = ((x * 2 ^ (32 - n) % 4294967296 : Nat) : Int) := by simp
  rw [e1, e2, u32_or_nat _ _ (div_lt32 _ hx) (Nat.mod_lt _ (by decide))]
  rfl

set_option maxHeartbeats 1000000 in
theorem rturn_any {w : World} (x n : Nat) (hx : x < 4294967296) (h0 : 0 < n) (h1 : n < 32) :
    Calls Try.prog 93 #[.int .u32 x, .int .u64 n] w fun e w' => e = .returned (.int .u32 (rotr x n : Nat)) ∧ w' = w := by
  have hr := rturn_eq x n hx
  go_enter Try.func93, Try.ntmps93
  go_wp2
  go_ret
  exact ⟨rfl, rfl⟩

set_option maxRecDepth 100000 in
set_option maxHeartbeats 400000 in
theorem rconst_any {w : World} : Calls Try.prog 92 #[] w fun e w' => e = .returned (.agg (wcells kOf).toArray) ∧ Kept (fun _ => True) w w' := by
  obtain ⟨ks, HK, lk, lk', ok, bk⟩ := ks_any
  have e : kOf = ks := HK.out.symm
  rw [e]
  clear e bk
  go_enter Try.func92, Try.ntmps92
  go_wp2_with (first
    | ((with_reducible refine w_alloc (d := some 0) arr64 ?_); intro w3 a5 k3 s3)
    | (with_reducible refine w_build ks lk (by rw [HK.out]; kernel_rfl) ?_)
    | ((with_reducible apply w_store (x := .tmp 0) (b := w.heap.size) (xs := wcells ks) (old := List.replicate 64 (.int .u32 0)) arr64); (case hx => rfl); (case hy => rfl); (case ha => exact a5); (case ho => simp); (case hl => exact lk'); (case h1 => exact ok); intro w4 a6 k4 s4))
  refine bodyPost_ret (results_ar (p := 0) arr64 rfl _ _ rfl a6 lk') rfl ⟨rfl, k3.then k4 (fun i hi _ => by omega)⟩

end Go.Proofs.Ytmcaoimgmgjjiaa

namespace Go.Proofs.Ytmcaoimgmgjjiaa
open Go.RowKit

theorem own_grown {b : Nat} {a w w' : World} {v : Value} {n : Nat} {xs : List Value} (h : w.ownsRow b 5 1 v n xs) (hk : Kept (fun _ => True) a w) (hb : a.heap.size ≤ b) (hg : w.grownBy w' v.ownBlock) : Kept (fun _ => True) a w' :=
  hk.grown hg (fun k hk e _ => by have := (h.lt k e).1; omega)
theorem quiet_two {P : Program} {f : FuncId} {args : Array Value} {w : World} {k n : Nat} {v : Value} (h : Calls P f args (w.drewN (k + n)) fun e w' => e = .returned v ∧ w' = w.drewN (k + n)) : Calls P f args (w.drewN (k + n)) fun e w'' => e = .returned v ∧ ∃ m, w'' = w.drewN (k + m) :=
  h.mono fun _ _ ⟨he, hm⟩ => ⟨he, n, hm⟩
theorem out4_get (ws : List Nat) (a r : Nat) (ha : a < ws.length) (hr : r < 4) : (out4 ws)[4 * a + r]? = some (UInt8.ofNat (ws.getD a 0 / 256 ^ (3 - r))) := by
  induction ws generalizing a with
  | nil => simp at ha
  | cons x ws ih =>
    have e : out4 (x :: ws) = bytesOf x 4 ++ out4 ws := by simp [out4]
    rw [e]
    cases a with
    | zero =>
      rw [List.getElem?_append_left (by rw [bytesOf_length]; omega)]
      match r, hr with
      | 0, _ => rfl
      | 1, _ => rfl
      | 2, _ => rfl
      | 3, _ => rfl
    | succ a =>
      rw [List.getElem?_append_right (by rw [bytesOf_length]; omega), bytesOf_length, show 4 * (a + 1) + r - 4 = 4 * a + r by omega, ih a (by simpa using ha)]
      rfl
def sliceLen : Value → Nat
  | .slice _ n _ => n
  | _ => 0
theorem bytesOf_take (x j : Nat) (h : j < 8) : (bytesOf x 8).take (j + 1) = (bytesOf x 8).take j ++ [UInt8.ofNat (x / 256 ^ (7 - j))] := by
  match j, h with
  | 0, _ => rfl
  | 1, _ => rfl
  | 2, _ => rfl
  | 3, _ => rfl
  | 4, _ => rfl
  | 5, _ => rfl
  | 6, _ => rfl
  | 7, _ => rfl

def loopIn (n : Nat) : Code → Option Code
  | .block m c => if m = n then (match c with | .loop b => some b | _ => none) else loopIn n c
  | .seq a b => match loopIn n a with
    | some c => some c
    | none => loopIn n b
  | .loop c => loopIn n c
  | .cond _ a b => match loopIn n a with
    | some c => some c
    | none => loopIn n b
  | _ => none

theorem wp_tail {n : Nat} {K : Act → World → Prop} {R : Ending → World → Prop} {Q : Exit → Act → World → Prop} {c : Code} {a : Act} {w : World} (h : Code.wp Try.prog c (Exit.inBlock n (Exit.then K (bodyPost Try.prog Try.f82 R))) a w)
    (hr : ∀ a w, bodyPost Try.prog Try.f82 R .ret a w → Q .ret a w) (hp : ∀ ch a w, bodyPost Try.prog Try.f82 R (.panic ch) a w → Q (.panic ch) a w) (ho : ∀ a w, bodyPost Try.prog Try.f82 R .outgrown a w → Q .outgrown a w) :
    Code.wp Try.prog c (Exit.inBlock n (Exit.then K Q)) a w := by
  refine Code.wp_mono ?_ h
  intro e a w hq
  cases e with
  | normal => exact hq
  | exit m =>
    by_cases hm : m = n
    · subst hm
      simpa [Exit.inBlock, Exit.then] using hq
    · simp [Exit.inBlock, Exit.then, hm, bodyPost] at hq
  | goto l => exact hq.elim
  | ret => exact hr a w hq
  | panic ch => exact hp ch a w hq
  | outgrown => exact ho a w hq

end Go.Proofs.Ytmcaoimgmgjjiaa

namespace Go.Proofs.Ytmcaoimgmgjjiaa
open Go.RowKit

set_option maxRecDepth 100000 in
set_option maxHeartbeats 8000000 in
theorem rsha_words {P : List UInt8} {nb k D B9 qc : Nat} {w9 : World} {K : Act → World → Prop} {R : Ending → World → Prop} {c0 c1 c2 c3 c5 c6 c7 c11 c12 c13 c14 c15 c16 c17 c18 c19 c20 c21 c22 c23 c24 c25 c26 c27 c28 c29 c30 c31 c32 c33 c34 c35 c36 c37 c38 c39 c40 c41 c42 c43 c44 c45 c46 c47 c48 c49 c50 c51 c52 c53 c54 c55 c56 c57 c58 c59 c60 c61 c62 c63 c64 c65 c66 c67 c68 c69 c70 c71 c72 c73 c74 c75 c76 c77 c78 c79 c80 c81 c82 c83 c84 c85 c86 c87 c88 c89 c90 c91 c92 c93 c94 c95 c96 c97 c98 c99 c100 c101 c102 c103 c104 c105 c106 c107 c108 c109 c110 c111 c112 c113 c114 c115 c116 c117 c118 c119 c120 c121 c122 c123 c124 c125 c126 c127 c128 c129 c130 c131 c132 c133 c134 c135 c136 c137 c138 c139 c140 c141 c142 c143 c144 c145 c146 c147 c148 c149 c150 c151 c152 c153 c154 c155 c156 c157 c158 c159 c160 c161 c162 c163 c164 c165 c166 c167 c168 c169 c170 c171 c172 c173 c174 c175 c176 c177 c178 c179 c180 c181 c182 c183 c184 c185 c186 c187 c188 c189 c190 c191 c192 c193 c194 c195 c196 c197 c198 c199 c200 c201 c202 c203 c204 c205 c206 c207 c208 c209 c210 c211 c212 c213 c214 c215 c216 c217 c218 c219 c220 c221 c222 c223 c224 c225 c226 c227 c228 c229 c230 c231 c232 c233 c234 c235 c236 c237 c238 c239 c240 c241 c242 c243 c244 c245 c246 c247 c248 c249 c250 c251 c252 c253 c254 c255 c256 c257 c258 c259 c260 c261 c262 c263 c264 c265 c266 c267 c268 c269 c270 c271 c272 c273 c274 c275 c276 c277 c278 c279 c280 c281 c282 c283 : Value}
    (lP : P.length = 64 * nb)
    (hlk : k < nb)
    (hnb2 : nb ≤ 40000)
    (e10 : D < B9)
    (e12 : B9 < w9.heap.size)
    (HP9 : Hid (∀ i (hi : i < P.length), w9.cell? ⟨D, i, none⟩ = some (.int .u8 (P[i]).toNat)))
    (a9 : Ar w9 B9 152 (wcells (List.replicate 64 0)))
    (hexit : ∀ (u10 u61 u62 u63 u64 u65 u66 u67 u68 u69 u70 u71 u72 u73 u74 u75 u76 u77 u78 u79 u80 u81 u82 u83 u84 u85 u86 u87 u88 u89 u90 u91 u92 u93 u94 u95 u96 u97 u98 u99 u100 u101 u102 u103 u104 u105 u106 u107 : Value) (x : World), Hid (Ar x B9 152 (wcells (wordsAt P (64 * k) 16 ++ List.replicate 48 0)) ∧ Kept (· ≠ B9) w9 x) → K ⟨List.toArray (c0 :: c1 :: c2 :: c3 :: .slice (some ⟨D, 0, none⟩) (64 * nb) qc :: c5 :: c6 :: c7 :: .int .i64 (64 * (k : Int)) :: .pointer (some ⟨B9, 0, none⟩) :: u10 :: c11 :: c12 :: c13 :: c14 :: c15 :: c16 :: c17 :: c18 :: c19 :: c20 :: c21 :: c22 :: c23 :: c24 :: c25 :: c26 :: c27 :: c28 :: c29 :: c30 :: c31 :: c32 :: c33 :: c34 :: c35 :: c36 :: c37 :: c38 :: c39 :: c40 :: c41 :: c42 :: c43 :: c44 :: c45 :: c46 :: c47 :: c48 :: c49 :: c50 :: c51 :: c52 :: c53 :: c54 :: c55 :: c56 :: c57 :: c58 :: c59 :: c60 :: u61 :: u62 :: u63 :: u64 :: u65 :: u66 :: u67 :: u68 :: u69 :: u70 :: u71 :: u72 :: u73 :: u74 :: u75 :: u76 :: u77 :: u78 :: u79 :: u80 :: u81 :: u82 :: u83 :: u84 :: u85 :: u86 :: u87 :: u88 :: u89 :: u90 :: u91 :: u92 :: u93 :: u94 :: u95 :: u96 :: u97 :: u98 :: u99 :: u100 :: u101 :: u102 :: u103 :: u104 :: u105 :: u106 :: u107 :: c108 :: c109 :: c110 :: c111 :: c112 :: c113 :: c114 :: c115 :: c116 :: c117 :: c118 :: c119 :: c120 :: c121 :: c122 :: c123 :: c124 :: c125 :: c126 :: c127 :: c128 :: c129 :: c130 :: c131 :: c132 :: c133 :: c134 :: c135 :: c136 :: c137 :: c138 :: c139 :: c140 :: c141 :: c142 :: c143 :: c144 :: c145 :: c146 :: c147 :: c148 :: c149 :: c150 :: c151 :: c152 :: c153 :: c154 :: c155 :: c156 :: c157 :: c158 :: c159 :: c160 :: c161 :: c162 :: c163 :: c164 :: c165 :: c166 :: c167 :: c168 :: c169 :: c170 :: c171 :: c172 :: c173 :: c174 :: c175 :: c176 :: c177 :: c178 :: c179 :: c180 :: c181 :: c182 :: c183 :: c184 :: c185 :: c186 :: c187 :: c188 :: c189 :: c190 :: c191 :: c192 :: c193 :: c194 :: c195 :: c196 :: c197 :: c198 :: c199 :: c200 :: c201 :: c202 :: c203 :: c204 :: c205 :: c206 :: c207 :: c208 :: c209 :: c210 :: c211 :: c212 :: c213 :: c214 :: c215 :: c216 :: c217 :: c218 :: c219 :: c220 :: c221 :: c222 :: c223 :: c224 :: c225 :: c226 :: c227 :: c228 :: c229 :: c230 :: c231 :: c232 :: c233 :: c234 :: c235 :: c236 :: c237 :: c238 :: c239 :: c240 :: c241 :: c242 :: c243 :: c244 :: c245 :: c246 :: c247 :: c248 :: c249 :: c250 :: c251 :: c252 :: c253 :: c254 :: c255 :: c256 :: c257 :: c258 :: c259 :: c260 :: c261 :: c262 :: c263 :: c264 :: c265 :: c266 :: c267 :: c268 :: c269 :: c270 :: c271 :: c272 :: c273 :: c274 :: c275 :: c276 :: c277 :: c278 :: c279 :: c280 :: c281 :: c282 :: c283 :: []), []⟩ x) :
    Code.wp Try.prog (.loop ((Try.f82.body.bind (loopIn 6)).getD .skip)) (Exit.inBlock 6 (Exit.then K (bodyPost Try.prog Try.f82 R))) ⟨List.toArray (c0 :: c1 :: c2 :: c3 :: .slice (some ⟨D, 0, none⟩) (64 * nb) qc :: c5 :: c6 :: c7 :: .int .i64 (64 * (k : Int)) :: .pointer (some ⟨B9, 0, none⟩) :: .int .i64 0 :: c11 :: c12 :: c13 :: c14 :: c15 :: c16 :: c17 :: c18 :: c19 :: c20 :: c21 :: c22 :: c23 :: c24 :: c25 :: c26 :: c27 :: c28 :: c29 :: c30 :: c31 :: c32 :: c33 :: c34 :: c35 :: c36 :: c37 :: c38 :: c39 :: c40 :: c41 :: c42 :: c43 :: c44 :: c45 :: c46 :: c47 :: c48 :: c49 :: c50 :: c51 :: c52 :: c53 :: c54 :: c55 :: c56 :: c57 :: c58 :: c59 :: c60 :: c61 :: c62 :: c63 :: c64 :: c65 :: c66 :: c67 :: c68 :: c69 :: c70 :: c71 :: c72 :: c73 :: c74 :: c75 :: c76 :: c77 :: c78 :: c79 :: c80 :: c81 :: c82 :: c83 :: c84 :: c85 :: c86 :: c87 :: c88 :: c89 :: c90 :: c91 :: c92 :: c93 :: c94 :: c95 :: c96 :: c97 :: c98 :: c99 :: c100 :: c101 :: c102 :: c103 :: c104 :: c105 :: c106 :: c107 :: c108 :: c109 :: c110 :: c111 :: c112 :: c113 :: c114 :: c115 :: c116 :: c117 :: c118 :: c119 :: c120 :: c121 :: c122 :: c123 :: c124 :: c125 :: c126 :: c127 :: c128 :: c129 :: c130 :: c131 :: c132 :: c133 :: c134 :: c135 :: c136 :: c137 :: c138 :: c139 :: c140 :: c141 :: c142 :: c143 :: c144 :: c145 :: c146 :: c147 :: c148 :: c149 :: c150 :: c151 :: c152 :: c153 :: c154 :: c155 :: c156 :: c157 :: c158 :: c159 :: c160 :: c161 :: c162 :: c163 :: c164 :: c165 :: c166 :: c167 :: c168 :: c169 :: c170 :: c171 :: c172 :: c173 :: c174 :: c175 :: c176 :: c177 :: c178 :: c179 :: c180 :: c181 :: c182 :: c183 :: c184 :: c185 :: c186 :: c187 :: c188 :: c189 :: c190 :: c191 :: c192 :: c193 :: c194 :: c195 :: c196 :: c197 :: c198 :: c199 :: c200 :: c201 :: c202 :: c203 :: c204 :: c205 :: c206 :: c207 :: c208 :: c209 :: c210 :: c211 :: c212 :: c213 :: c214 :: c215 :: c216 :: c217 :: c218 :: c219 :: c220 :: c221 :: c222 :: c223 :: c224 :: c225 :: c226 :: c227 :: c228 :: c229 :: c230 :: c231 :: c232 :: c233 :: c234 :: c235 :: c236 :: c237 :: c238 :: c239 :: c240 :: c241 :: c242 :: c243 :: c244 :: c245 :: c246 :: c247 :: c248 :: c249 :: c250 :: c251 :: c252 :: c253 :: c254 :: c255 :: c256 :: c257 :: c258 :: c259 :: c260 :: c261 :: c262 :: c263 :: c264 :: c265 :: c266 :: c267 :: c268 :: c269 :: c270 :: c271 :: c272 :: c273 :: c274 :: c275 :: c276 :: c277 :: c278 :: c279 :: c280 :: c281 :: c282 :: c283 :: []), []⟩ w9 := by
  have hkl : 64 * (k : Int) < 64 * (nb : Int) := by omega
  have hkn : (k : Int) ≤ 40000 := by omega
  conv => arg 2; arg 1; whnf
  go_loopw [10] (fun t x => ∃ i : Nat, i ≤ 16 ∧ t = .int .i64 i ∧ Ar x B9 152 (wcells (wordsAt P (64 * k) i ++ List.replicate (64 - i) 0)) ∧ Kept (· ≠ B9) w9 x) (fun t _ => 16 - (intOf t).toNat)
  case atStart => exact ⟨0, by omega, rfl, a9, Kept.refl _ _⟩
  case round =>
    clear a9
    obtain ⟨i, hi, rfl, ax, kx⟩ := hrel
    by_cases hli : i < 16
    · clear hexit
      have hil : (i : Int) < 16 := by omega
      have hi0 : (0 : Int) ≤ (i : Int) := by omega
      have hb : 64 * k + 4 * i + 3 < P.length := by omega
      have hcx : ∀ j (hj : j < P.length), wr.cell? ⟨D, j, none⟩ = some (.int .u8 (P[j]).toNat) := fun j hj => (kept_cell kx (by omega) (by omega)).trans (HP9.out j hj)
      have c0 := hcx (64 * k + 4 * i) (by omega)
      have c1 := hcx (64 * k + 4 * i + 1) (by omega)
      have c2 := hcx (64 * k + 4 * i + 2) (by omega)
      have c3 := hcx (64 * k + 4 * i + 3) (by omega)
      have hwd : wordAt P (64 * k + 4 * i) = (P[64 * k + 4 * i]).toNat * 16777216 + (P[64 * k + 4 * i + 1]).toNat * 65536 + (P[64 * k + 4 * i + 2]).toNat * 256 + (P[64 * k + 4 * i + 3]).toNat := by
        unfold wordAt
        rw [getD_at P (show 64 * k + 4 * i < P.length by omega), getD_at P (show 64 * k + 4 * i + 1 < P.length by omega), getD_at P (show 64 * k + 4 * i + 2 < P.length by omega), getD_at P hb]
      have y0 := (P[64 * k + 4 * i]).toNat_lt
      have y1 := (P[64 * k + 4 * i + 1]).toNat_lt
      have y2 := (P[64 * k + 4 * i + 2]).toNat_lt
      have y3 := (P[64 * k + 4 * i + 3]).toNat_lt
      have hbits := word_bits _ _ _ _ y0 y1 y2 y3
      rw [← hwd] at hbits
      have ll : (wordsAt P (64 * k) i ++ List.replicate (64 - i) 0).length = 64 := by simp [wordsAt_length]; omega
      have hcell := ax.cell i
      rw [wcells_get _ i (by omega)] at hcell
      have hf := ax.free i
      have HS : Hid (∀ u, Ar (wr.setCell ⟨B9, i, none⟩ u) B9 152 _) := fun u => ax.set i u
      have HE : Hid ((wordsAt P (64 * k) i ++ List.replicate (64 - i) 0).set i (wordAt P (64 * k + 4 * i)) = wordsAt P (64 * k) (i + 1) ++ List.replicate (64 - (i + 1)) 0) := by
        have := fill_set (wordsAt P (64 * k) i) (63 - i) (wordAt P (64 * k + 4 * i))
        rw [wordsAt_length, show 63 - i + 1 = 64 - i by omega] at this
        show _ = _
        rw [this, wordsAt_succ, show 64 - (i + 1) = 63 - i by omega]
      generalize wordAt P (64 * k + 4 * i) = x at *
      generalize (wordsAt P (64 * k) i ++ List.replicate (64 - i) 0)[i] = yy at *
      generalize (P[64 * k + 4 * i]).toNat = b0 at *
      generalize (P[64 * k + 4 * i + 1]).toNat = b1 at *
      generalize (P[64 * k + 4 * i + 2]).toNat = b2 at *
      generalize (P[64 * k + 4 * i + 3]).toNat = b3 at *
      have g0 : 64 * (k : Int) + 4 * (i : Int) = ((64 * k + 4 * i : Nat) : Int) := by omega
      have g3 : 64 * (k : Int) + 4 * (i : Int) + 3 < 64 * (nb : Int) := by omega
      have wr1 : IntKind.i64.wrap (64 * (k : Int) + 4 * (i : Int)) = 64 * (k : Int) + 4 * (i : Int) := by simp [IntKind.wrap, IntKind.bits, IntKind.signed]; omega
      have wr2 : IntKind.i64.wrap (64 * (k : Int) + 4 * (i : Int) + 1) = 64 * (k : Int) + 4 * (i : Int) + 1 := by simp [IntKind.wrap, IntKind.bits, IntKind.signed]; omega
      have wr3 : IntKind.i64.wrap (64 * (k : Int) + 4 * (i : Int) + 2) = 64 * (k : Int) + 4 * (i : Int) + 2 := by simp [IntKind.wrap, IntKind.bits, IntKind.signed]; omega
      have wr4 : IntKind.i64.wrap (64 * (k : Int) + 4 * (i : Int) + 3) = 64 * (k : Int) + 4 * (i : Int) + 3 := by simp [IntKind.wrap, IntKind.bits, IntKind.signed]; omega
      have wr5 : IntKind.i64.wrap (4 * (i : Int)) = 4 * (i : Int) := by simp [IntKind.wrap, IntKind.bits, IntKind.signed]; omega
      clear ax hcx hwd hb ll g0
      go_wp2
      go_region
      all_goals
        go_wp2
        go_roundw
        case rel =>
          refine ⟨i + 1, by omega, by go_num, ?_, kx.drew.setCell (by simp) _⟩
          have := HS.out (.int .u32 x)
          rw [wcells_set, HE.out] at this
          exact this
        case measure => simp [intOf]; omega
    · have hil : ¬ (i : Int) < 16 := by omega
      obtain rfl : i = 16 := by omega
      go_wp2
      first | trivial | exact ⟨ax, kx⟩

end Go.Proofs.Ytmcaoimgmgjjiaa
