/-
  Texts of the proofs, 28 of 52.
-/
import Derived.Test.YtmcaoimgmgjjiaaWAA
import Derived.BigRegion
namespace Go.Proofs.Ytmcaoimgmgjjiaa
open Go.RowKit

set_option maxRecDepth 100000 in
set_option maxHeartbeats 8000000 in
theorem rsha_sched {W : List Nat} {B9 : Nat} {w9 : World} {K : Act → World → Prop} {R : Ending → World → Prop} {c0 c1 c2 c3 c4 c5 c6 c7 c8 c10 c12 c13 c14 c15 c16 c17 c18 c19 c20 c21 c22 c23 c24 c25 c26 c27 c28 c29 c30 c31 c32 c33 c34 c35 c36 c37 c38 c39 c40 c41 c42 c43 c44 c45 c46 c47 c48 c49 c50 c51 c52 c53 c54 c55 c56 c57 c58 c59 c60 c61 c62 c63 c64 c65 c66 c67 c68 c69 c70 c71 c72 c73 c74 c75 c76 c77 c78 c79 c80 c81 c82 c83 c84 c85 c86 c87 c88 c89 c90 c91 c92 c93 c94 c95 c96 c97 c98 c99 c100 c101 c102 c103 c104 c105 c106 c107 c108 c109 c110 c111 c112 c113 c114 c115 c116 c117 c118 c119 c120 c121 c122 c123 c124 c125 c126 c127 c128 c129 c130 c131 c132 c133 c134 c135 c136 c137 c138 c139 c140 c141 c142 c143 c144 c145 c146 c147 c148 c149 c150 c151 c152 c153 c154 c155 c156 c157 c158 c159 c160 c161 c162 c163 c164 c165 c166 c167 c168 c169 c170 c171 c172 c173 c174 c175 c176 c177 c178 c179 c180 c181 c182 c183 c184 c185 c186 c187 c188 c189 c190 c191 c192 c193 c194 c195 c196 c197 c198 c199 c200 c201 c202 c203 c204 c205 c206 c207 c208 c209 c210 c211 c212 c213 c214 c215 c216 c217 c218 c219 c220 c221 c222 c223 c224 c225 c226 c227 c228 c229 c230 c231 c232 c233 c234 c235 c236 c237 c238 c239 c240 c241 c242 c243 c244 c245 c246 c247 c248 c249 c250 c251 c252 c253 c254 c255 c256 c257 c258 c259 c260 c261 c262 c263 c264 c265 c266 c267 c268 c269 c270 c271 c272 c273 c274 c275 c276 c277 c278 c279 c280 c281 c282 c283 : Value}
    (bW : below32 W)
    (lW : W.length = 16)
    (a9 : Ar w9 B9 152 (wcells (W ++ List.replicate 48 0)))
    (hexit : ∀ (u11 u12 u13 u108 u109 u110 u111 u112 u113 u114 u115 u116 u117 u118 u119 u120 u121 u122 u123 u124 u125 u126 u127 u128 u129 u130 u131 u132 u133 u134 u135 u136 u137 u138 u139 u140 u141 u142 u143 u144 u145 u146 u147 u148 u149 u150 u151 u152 u153 u154 u155 u156 u157 u158 u159 u160 : Value) (x : World), Hid (Ar x B9 152 (wcells (sched 48 W)) ∧ Kept (· ≠ B9) w9 x) → K ⟨List.toArray (c0 :: c1 :: c2 :: c3 :: c4 :: c5 :: c6 :: c7 :: c8 :: .pointer (some ⟨B9, 0, none⟩) :: c10 :: u11 :: u12 :: u13 :: c14 :: c15 :: c16 :: c17 :: c18 :: c19 :: c20 :: c21 :: c22 :: c23 :: c24 :: c25 :: c26 :: c27 :: c28 :: c29 :: c30 :: c31 :: c32 :: c33 :: c34 :: c35 :: c36 :: c37 :: c38 :: c39 :: c40 :: c41 :: c42 :: c43 :: c44 :: c45 :: c46 :: c47 :: c48 :: c49 :: c50 :: c51 :: c52 :: c53 :: c54 :: c55 :: c56 :: c57 :: c58 :: c59 :: c60 :: c61 :: c62 :: c63 :: c64 :: c65 :: c66 :: c67 :: c68 :: c69 :: c70 :: c71 :: c72 :: c73 :: c74 :: c75 :: c76 :: c77 :: c78 :: c79 :: c80 :: c81 :: c82 :: c83 :: c84 :: c85 :: c86 :: c87 :: c88 :: c89 :: c90 :: c91 :: c92 :: c93 :: c94 :: c95 :: c96 :: c97 :: c98 :: c99 :: c100 :: c101 :: c102 :: c103 :: c104 :: c105 :: c106 :: c107 :: u108 :: u109 :: u110 :: u111 :: u112 :: u113 :: u114 :: u115 :: u116 :: u117 :: u118 :: u119 :: u120 :: u121 :: u122 :: u123 :: u124 :: u125 :: u126 :: u127 :: u128 :: u129 :: u130 :: u131 :: u132 :: u133 :: u134 :: u135 :: u136 :: u137 :: u138 :: u139 :: u140 :: u141 :: u142 :: u143 :: u144 :: u145 :: u146 :: u147 :: u148 :: u149 :: u150 :: u151 :: u152 :: u153 :: u154 :: u155 :: u156 :: u157 :: u158 :: u159 :: u160 :: c161 :: c162 :: c163 :: c164 :: c165 :: c166 :: c167 :: c168 :: c169 :: c170 :: c171 :: c172 :: c173 :: c174 :: c175 :: c176 :: c177 :: c178 :: c179 :: c180 :: c181 :: c182 :: c183 :: c184 :: c185 :: c186 :: c187 :: c188 :: c189 :: c190 :: c191 :: c192 :: c193 :: c194 :: c195 :: c196 :: c197 :: c198 :: c199 :: c200 :: c201 :: c202 :: c203 :: c204 :: c205 :: c206 :: c207 :: c208 :: c209 :: c210 :: c211 :: c212 :: c213 :: c214 :: c215 :: c216 :: c217 :: c218 :: c219 :: c220 :: c221 :: c222 :: c223 :: c224 :: c225 :: c226 :: c227 :: c228 :: c229 :: c230 :: c231 :: c232 :: c233 :: c234 :: c235 :: c236 :: c237 :: c238 :: c239 :: c240 :: c241 :: c242 :: c243 :: c244 :: c245 :: c246 :: c247 :: c248 :: c249 :: c250 :: c251 :: c252 :: c253 :: c254 :: c255 :: c256 :: c257 :: c258 :: c259 :: c260 :: c261 :: c262 :: c263 :: c264 :: c265 :: c266 :: c267 :: c268 :: c269 :: c270 :: c271 :: c272 :: c273 :: c274 :: c275 :: c276 :: c277 :: c278 :: c279 :: c280 :: c281 :: c282 :: c283 :: []), []⟩ x) :
    Code.wp Try.prog (.loop ((Try.f82.body.bind (loopIn 8)).getD .skip)) (Exit.inBlock 8 (Exit.then K (bodyPost Try.prog Try.f82 R))) ⟨List.toArray (c0 :: c1 :: c2 :: c3 :: c4 :: c5 :: c6 :: c7 :: c8 :: .pointer (some ⟨B9, 0, none⟩) :: c10 :: .int .i64 16 :: c12 :: c13 :: c14 :: c15 :: c16 :: c17 :: c18 :: c19 :: c20 :: c21 :: c22 :: c23 :: c24 :: c25 :: c26 :: c27 :: c28 :: c29 :: c30 :: c31 :: c32 :: c33 :: c34 :: c35 :: c36 :: c37 :: c38 :: c39 :: c40 :: c41 :: c42 :: c43 :: c44 :: c45 :: c46 :: c47 :: c48 :: c49 :: c50 :: c51 :: c52 :: c53 :: c54 :: c55 :: c56 :: c57 :: c58 :: c59 :: c60 :: c61 :: c62 :: c63 :: c64 :: c65 :: c66 :: c67 :: c68 :: c69 :: c70 :: c71 :: c72 :: c73 :: c74 :: c75 :: c76 :: c77 :: c78 :: c79 :: c80 :: c81 :: c82 :: c83 :: c84 :: c85 :: c86 :: c87 :: c88 :: c89 :: c90 :: c91 :: c92 :: c93 :: c94 :: c95 :: c96 :: c97 :: c98 :: c99 :: c100 :: c101 :: c102 :: c103 :: c104 :: c105 :: c106 :: c107 :: c108 :: c109 :: c110 :: c111 :: c112 :: c113 :: c114 :: c115 :: c116 :: c117 :: c118 :: c119 :: c120 :: c121 :: c122 :: c123 :: c124 :: c125 :: c126 :: c127 :: c128 :: c129 :: c130 :: c131 :: c132 :: c133 :: c134 :: c135 :: c136 :: c137 :: c138 :: c139 :: c140 :: c141 :: c142 :: c143 :: c144 :: c145 :: c146 :: c147 :: c148 :: c149 :: c150 :: c151 :: c152 :: c153 :: c154 :: c155 :: c156 :: c157 :: c158 :: c159 :: c160 :: c161 :: c162 :: c163 :: c164 :: c165 :: c166 :: c167 :: c168 :: c169 :: c170 :: c171 :: c172 :: c173 :: c174 :: c175 :: c176 :: c177 :: c178 :: c179 :: c180 :: c181 :: c182 :: c183 :: c184 :: c185 :: c186 :: c187 :: c188 :: c189 :: c190 :: c191 :: c192 :: c193 :: c194 :: c195 :: c196 :: c197 :: c198 :: c199 :: c200 :: c201 :: c202 :: c203 :: c204 :: c205 :: c206 :: c207 :: c208 :: c209 :: c210 :: c211 :: c212 :: c213 :: c214 :: c215 :: c216 :: c217 :: c218 :: c219 :: c220 :: c221 :: c222 :: c223 :: c224 :: c225 :: c226 :: c227 :: c228 :: c229 :: c230 :: c231 :: c232 :: c233 :: c234 :: c235 :: c236 :: c237 :: c238 :: c239 :: c240 :: c241 :: c242 :: c243 :: c244 :: c245 :: c246 :: c247 :: c248 :: c249 :: c250 :: c251 :: c252 :: c253 :: c254 :: c255 :: c256 :: c257 :: c258 :: c259 :: c260 :: c261 :: c262 :: c263 :: c264 :: c265 :: c266 :: c267 :: c268 :: c269 :: c270 :: c271 :: c272 :: c273 :: c274 :: c275 :: c276 :: c277 :: c278 :: c279 :: c280 :: c281 :: c282 :: c283 :: []), []⟩ w9 := by
  conv => arg 2; arg 1; whnf
  go_loopw [11] (fun t x => ∃ j : Nat, j ≤ 48 ∧ t = .int .i64 ((16 + j : Nat) : Int) ∧ Ar x B9 152 (wcells (sched j W ++ List.replicate (48 - j) 0)) ∧ Kept (· ≠ B9) w9 x) (fun t _ => 64 - (intOf t).toNat)
  case atStart => exact ⟨0, by omega, rfl, a9, Kept.refl _ _⟩
  case round =>
    clear a9
    obtain ⟨j, hj, rfl, ax, kx⟩ := hrel
    by_cases hlj : j < 48
    · clear hexit
      have hjl : (16 : Int) + (j : Int) < 64 := by omega
      have hj0 : (0 : Int) ≤ (j : Int) := by omega
      have ls := sched_length j W
      have bs' := sched_lt j W bW
      have ll : (sched j W ++ List.replicate (48 - j) 0).length = 64 := by simp [ls]; omega
      have c1 := ax.word (1 + j) (by omega)
      have c2 := ax.word (14 + j) (by omega)
      have c3 := ax.word (9 + j) (by omega)
      have c4 := ax.word j (by omega)
      have c5 := ax.word (16 + j) (by omega)
      rw [fill_get _ _ _ (by omega)] at c1 c2 c3 c4
      have b1 := below_getD bs' (1 + j)
      have b2 := below_getD bs' (14 + j)
      have b3 := below_getD bs' (9 + j)
      have b4 := below_getD bs' j
      have hf := ax.free (16 + j)
      have hn : nextWord (sched j W) = ((sched j W).getD j 0 + ssig0 ((sched j W).getD (1 + j) 0) + (sched j W).getD (9 + j) 0 + ssig1 ((sched j W).getD (14 + j) 0)) % 4294967296 := by
        unfold nextWord
        rw [ls, lW, show 16 + j - 16 = j by omega, show 16 + j - 15 = 1 + j by omega, show 16 + j - 7 = 9 + j by omega, show 16 + j - 2 = 14 + j by omega]
      have HS : Hid (∀ u, Ar (wr.setCell ⟨B9, 16 + j, none⟩ u) B9 152 _) := fun u => ax.set (16 + j) u
      have HE : Hid ((sched j W ++ List.replicate (48 - j) 0).set (16 + j) (nextWord (sched j W)) = sched (j + 1) W ++ List.replicate (48 - (j + 1)) 0) := by
        have := fill_set (sched j W) (47 - j) (nextWord (sched j W))
        rw [ls, lW, show 47 - j + 1 = 48 - j by omega] at this
        show _ = _
        rw [this, show 48 - (j + 1) = 47 - j by omega]
        rfl
      generalize nextWord (sched j W) = nw at *
      generalize (sched j W).getD j 0 = x4 at *
      generalize (sched j W).getD (1 + j) 0 = x1 at *
      generalize (sched j W).getD (9 + j) 0 = x3 at *
      generalize (sched j W).getD (14 + j) 0 = x2 at *
      generalize (sched j W ++ List.replicate (48 - j) 0)[16 + j] = x5 at *
      have e1 : (16 : Int) + (j : Int) - 15 = ((1 + j : Nat) : Int) := by omega
      have e2 : (16 : Int) + (j : Int) - 2 = ((14 + j : Nat) : Int) := by omega
      have e3 : (16 : Int) + (j : Int) - 7 = ((9 + j : Nat) : Int) := by omega
      have e4 : (16 : Int) + (j : Int) - 16 = ((j : Nat) : Int) := by omega
      have t1 : ∀ x, Calls Try.prog 93 #[.int .u32 x1, .int .u64 7] x fun e w' => e = .returned (.int .u32 (rotr x1 7 : Nat)) ∧ w' = x := fun x => rturn_any x1 7 b1 (by decide) (by decide)
      have t2 : ∀ x, Calls Try.prog 93 #[.int .u32 x1, .int .u64 18] x fun e w' => e = .returned (.int .u32 (rotr x1 18 : Nat)) ∧ w' = x := fun x => rturn_any x1 18 b1 (by decide) (by decide)
      have t3 : ∀ x, Calls Try.prog 93 #[.int .u32 x2, .int .u64 17] x fun e w' => e = .returned (.int .u32 (rotr x2 17 : Nat)) ∧ w' = x := fun x => rturn_any x2 17 b2 (by decide) (by decide)
      have t4 : ∀ x, Calls Try.prog 93 #[.int .u32 x2, .int .u64 19] x fun e w' => e = .returned (.int .u32 (rotr x2 19 : Nat)) ∧ w' = x := fun x => rturn_any x2 19 b2 (by decide) (by decide)
      have q1 := xor_bits (rotr x1 7) (rotr x1 18) (rotr_lt _ _ b1) (rotr_lt _ _ b1)
      have q2 : bits BinOp.xor .u32 ((rotr x1 7 ^^^ rotr x1 18 : Nat) : Int) ((x1 : Int) / 8) = ((ssig0 x1 : Nat) : Int) := xor_bits (rotr x1 7 ^^^ rotr x1 18) (x1 / 8) (xor_lt32 (rotr_lt _ _ b1) (rotr_lt _ _ b1)) (div_lt32 _ b1)
      have q3 := xor_bits (rotr x2 17) (rotr x2 19) (rotr_lt _ _ b2) (rotr_lt _ _ b2)
      have q4 : bits BinOp.xor .u32 ((rotr x2 17 ^^^ rotr x2 19 : Nat) : Int) ((x2 : Int) / 1024) = ((ssig1 x2 : Nat) : Int) := xor_bits (rotr x2 17 ^^^ rotr x2 19) (x2 / 1024) (xor_lt32 (rotr_lt _ _ b2) (rotr_lt _ _ b2)) (div_lt32 _ b2)
      have p1 := ssig0_lt x1 b1
      have p2 := ssig1_lt x2 b2
      generalize rotr x1 7 = r1 at *
      generalize rotr x1 18 = r2 at *
      generalize rotr x2 17 = r3 at *
      generalize rotr x2 19 = r4 at *
      generalize ssig0 x1 = lo at *
      generalize ssig1 x2 = hi at *
      have hv : ((x4 : Int) + (lo : Int) + (x3 : Int) + (hi : Int)) % 4294967296 = ((nw : Nat) : Int) := by omega
      clear hn ax bs' ll
      go_wp2
      go_quiet (first | (with_reducible exact Calls.quiet_of_same (t1 _)) | (with_reducible exact Calls.quiet_of_same (t2 _)))
      go_wp2
      go_quiet (first | (with_reducible exact quiet_two (t3 _)) | (with_reducible exact quiet_two (t4 _)))
      go_wp2
      go_region
      all_goals
        go_wp2
        go_roundw
        case rel =>
          refine ⟨j + 1, by omega, by go_num, ?_, ?_⟩
          · have := HS.out (.int .u32 nw)
            rw [wcells_set, HE.out] at this
            exact this
          · first
              | exact (kx.drewN _).setCell (by simp) _
              | exact ((kx.drewN _).setCell (by simp) _).drew
        case measure => simp [intOf]; omega
    · have hjl : ¬ (16 : Int) + (j : Int) < 64 := by omega
      obtain rfl : j = 48 := by omega
      rw [Nat.sub_self, List.replicate_zero, List.append_nil] at ax
      go_wp2
      first | trivial | exact ⟨ax, kx⟩

end Go.Proofs.Ytmcaoimgmgjjiaa

namespace Go.Proofs.Ytmcaoimgmgjjiaa
open Go.RowKit

set_option maxRecDepth 100000 in
set_option maxHeartbeats 8000000 in
theorem rsha_rounds {ws ks : List Nat} {v : H8} {B7 B9 B14 : Nat} {w11 : World} {Q : Exit → Act → World → Prop} {c0 c1 c2 c3 c4 c5 c6 c8 c10 c11 c12 c13 c16 c17 c18 c19 c20 c21 c22 c23 c24 c25 c26 c27 c28 c29 c30 c31 c32 c33 c34 c35 c36 c37 c38 c39 c40 c41 c42 c43 c44 c45 c46 c47 c48 c49 c50 c51 c52 c53 c54 c55 c56 c57 c58 c59 c60 c61 c62 c63 c64 c65 c66 c67 c68 c69 c70 c71 c72 c73 c74 c75 c76 c77 c78 c79 c80 c81 c82 c83 c84 c85 c86 c87 c88 c89 c90 c91 c92 c93 c94 c95 c96 c97 c98 c99 c100 c101 c102 c103 c104 c105 c106 c107 c108 c109 c110 c111 c112 c113 c114 c115 c116 c117 c118 c119 c120 c121 c122 c123 c124 c125 c126 c127 c128 c129 c130 c131 c132 c133 c134 c135 c136 c137 c138 c139 c140 c141 c142 c143 c144 c145 c146 c147 c148 c149 c150 c151 c152 c153 c154 c155 c156 c157 c158 c159 c160 c161 c162 c163 c164 c165 c166 c167 c168 c169 c170 c171 c172 c173 c174 c175 c176 c177 c178 c179 c180 c181 c182 c183 c184 c185 c186 c187 c188 c189 c190 c191 c192 c193 c194 c195 c196 c197 c198 c199 c200 c201 c202 c203 c204 c205 c206 c207 c208 c209 c210 c211 c212 c213 c214 c215 c216 c217 c218 c219 c220 c221 c222 c223 c224 c225 c226 c227 c228 c229 c230 c231 c232 c233 c234 c235 c236 c237 c238 c239 c240 c241 c242 c243 c244 c245 c246 c247 c248 c249 c250 c251 c252 c253 c254 c255 c256 c257 c258 c259 c260 c261 c262 c263 c264 c265 c266 c267 c268 c269 c270 c271 c272 c273 c274 c275 c276 c277 c278 c279 c280 c281 c282 c283 : Value}
    (HK : Hid (ks = kOf))
    (lk : ks.length = 64)
    (bk : Hid (below32 ks))
    (bws : below32 ws)
    (lws : ws.length = 64)
    (uok : v.ok)
    (e1 : B7 ≠ B14)
    (e2 : B9 ≠ B14)
    (AK11 : Ar w11 B7 152 (wcells ks))
    (AW11 : Ar w11 B9 152 (wcells ws))
    (a14' : Ar w11 B14 151 (wcells v.words))
    (hexit : ∀ (u15 u16 u17 u18 u19 u20 u162 u163 u164 u165 u166 u167 u168 u169 u170 u171 u172 u173 u174 u175 u176 u177 u178 u179 u180 u181 u182 u183 u184 u185 u186 u187 u188 u189 u190 u191 u192 u193 u194 u195 u196 u197 u198 u199 u200 u201 u202 u203 u204 u205 u206 u207 u208 u209 u210 u211 u212 u213 u214 u215 u216 u217 u218 u219 u220 u221 u222 u223 u224 u225 u226 u227 u228 u229 u230 u231 u232 u233 u234 u235 u236 u237 u238 u239 u240 u241 u242 u243 u244 u245 u246 u247 u248 u249 u250 u251 u252 : Value) (x : World), Hid (Ar x B14 151 (wcells (v.rounds ws 64).words) ∧ Kept (· ≠ B14) w11 x) → Q (.exit 10) ⟨List.toArray (c0 :: c1 :: c2 :: c3 :: c4 :: c5 :: c6 :: .pointer (some ⟨B7, 0, none⟩) :: c8 :: .pointer (some ⟨B9, 0, none⟩) :: c10 :: c11 :: c12 :: c13 :: .pointer (some ⟨B14, 0, none⟩) :: u15 :: u16 :: u17 :: u18 :: u19 :: u20 :: c21 :: c22 :: c23 :: c24 :: c25 :: c26 :: c27 :: c28 :: c29 :: c30 :: c31 :: c32 :: c33 :: c34 :: c35 :: c36 :: c37 :: c38 :: c39 :: c40 :: c41 :: c42 :: c43 :: c44 :: c45 :: c46 :: c47 :: c48 :: c49 :: c50 :: c51 :: c52 :: c53 :: c54 :: c55 :: c56 :: c57 :: c58 :: c59 :: c60 :: c61 :: c62 :: c63 :: c64 :: c65 :: c66 :: c67 :: c68 :: c69 :: c70 :: c71 :: c72 :: c73 :: c74 :: c75 :: c76 :: c77 :: c78 :: c79 :: c80 :: c81 :: c82 :: c83 :: c84 :: c85 :: c86 :: c87 :: c88 :: c89 :: c90 :: c91 :: c92 :: c93 :: c94 :: c95 :: c96 :: c97 :: c98 :: c99 :: c100 :: c101 :: c102 :: c103 :: c104 :: c105 :: c106 :: c107 :: c108 :: c109 :: c110 :: c111 :: c112 :: c113 :: c114 :: c115 :: c116 :: c117 :: c118 :: c119 :: c120 :: c121 :: c122 :: c123 :: c124 :: c125 :: c126 :: c127 :: c128 :: c129 :: c130 :: c131 :: c132 :: c133 :: c134 :: c135 :: c136 :: c137 :: c138 :: c139 :: c140 :: c141 :: c142 :: c143 :: c144 :: c145 :: c146 :: c147 :: c148 :: c149 :: c150 :: c151 :: c152 :: c153 :: c154 :: c155 :: c156 :: c157 :: c158 :: c159 :: c160 :: c161 :: u162 :: u163 :: u164 :: u165 :: u166 :: u167 :: u168 :: u169 :: u170 :: u171 :: u172 :: u173 :: u174 :: u175 :: u176 :: u177 :: u178 :: u179 :: u180 :: u181 :: u182 :: u183 :: u184 :: u185 :: u186 :: u187 :: u188 :: u189 :: u190 :: u191 :: u192 :: u193 :: u194 :: u195 :: u196 :: u197 :: u198 :: u199 :: u200 :: u201 :: u202 :: u203 :: u204 :: u205 :: u206 :: u207 :: u208 :: u209 :: u210 :: u211 :: u212 :: u213 :: u214 :: u215 :: u216 :: u217 :: u218 :: u219 :: u220 :: u221 :: u222 :: u223 :: u224 :: u225 :: u226 :: u227 :: u228 :: u229 :: u230 :: u231 :: u232 :: u233 :: u234 :: u235 :: u236 :: u237 :: u238 :: u239 :: u240 :: u241 :: u242 :: u243 :: u244 :: u245 :: u246 :: u247 :: u248 :: u249 :: u250 :: u251 :: u252 :: c253 :: c254 :: c255 :: c256 :: c257 :: c258 :: c259 :: c260 :: c261 :: c262 :: c263 :: c264 :: c265 :: c266 :: c267 :: c268 :: c269 :: c270 :: c271 :: c272 :: c273 :: c274 :: c275 :: c276 :: c277 :: c278 :: c279 :: c280 :: c281 :: c282 :: c283 :: []), []⟩ x) :
    Code.wp Try.prog (.loop ((Try.f82.body.bind (loopIn 10)).getD .skip)) Q ⟨List.toArray (c0 :: c1 :: c2 :: c3 :: c4 :: c5 :: c6 :: .pointer (some ⟨B7, 0, none⟩) :: c8 :: .pointer (some ⟨B9, 0, none⟩) :: c10 :: c11 :: c12 :: c13 :: .pointer (some ⟨B14, 0, none⟩) :: .int .i64 0 :: c16 :: c17 :: c18 :: c19 :: c20 :: c21 :: c22 :: c23 :: c24 :: c25 :: c26 :: c27 :: c28 :: c29 :: c30 :: c31 :: c32 :: c33 :: c34 :: c35 :: c36 :: c37 :: c38 :: c39 :: c40 :: c41 :: c42 :: c43 :: c44 :: c45 :: c46 :: c47 :: c48 :: c49 :: c50 :: c51 :: c52 :: c53 :: c54 :: c55 :: c56 :: c57 :: c58 :: c59 :: c60 :: c61 :: c62 :: c63 :: c64 :: c65 :: c66 :: c67 :: c68 :: c69 :: c70 :: c71 :: c72 :: c73 :: c74 :: c75 :: c76 :: c77 :: c78 :: c79 :: c80 :: c81 :: c82 :: c83 :: c84 :: c85 :: c86 :: c87 :: c88 :: c89 :: c90 :: c91 :: c92 :: c93 :: c94 :: c95 :: c96 :: c97 :: c98 :: c99 :: c100 :: c101 :: c102 :: c103 :: c104 :: c105 :: c106 :: c107 :: c108 :: c109 :: c110 :: c111 :: c112 :: c113 :: c114 :: c115 :: c116 :: c117 :: c118 :: c119 :: c120 :: c121 :: c122 :: c123 :: c124 :: c125 :: c126 :: c127 :: c128 :: c129 :: c130 :: c131 :: c132 :: c133 :: c134 :: c135 :: c136 :: c137 :: c138 :: c139 :: c140 :: c141 :: c142 :: c143 :: c144 :: c145 :: c146 :: c147 :: c148 :: c149 :: c150 :: c151 :: c152 :: c153 :: c154 :: c155 :: c156 :: c157 :: c158 :: c159 :: c160 :: c161 :: c162 :: c163 :: c164 :: c165 :: c166 :: c167 :: c168 :: c169 :: c170 :: c171 :: c172 :: c173 :: c174 :: c175 :: c176 :: c177 :: c178 :: c179 :: c180 :: c181 :: c182 :: c183 :: c184 :: c185 :: c186 :: c187 :: c188 :: c189 :: c190 :: c191 :: c192 :: c193 :: c194 :: c195 :: c196 :: c197 :: c198 :: c199 :: c200 :: c201 :: c202 :: c203 :: c204 :: c205 :: c206 :: c207 :: c208 :: c209 :: c210 :: c211 :: c212 :: c213 :: c214 :: c215 :: c216 :: c217 :: c218 :: c219 :: c220 :: c221 :: c222 :: c223 :: c224 :: c225 :: c226 :: c227 :: c228 :: c229 :: c230 :: c231 :: c232 :: c233 :: c234 :: c235 :: c236 :: c237 :: c238 :: c239 :: c240 :: c241 :: c242 :: c243 :: c244 :: c245 :: c246 :: c247 :: c248 :: c249 :: c250 :: c251 :: c252 :: c253 :: c254 :: c255 :: c256 :: c257 :: c258 :: c259 :: c260 :: c261 :: c262 :: c263 :: c264 :: c265 :: c266 :: c267 :: c268 :: c269 :: c270 :: c271 :: c272 :: c273 :: c274 :: c275 :: c276 :: c277 :: c278 :: c279 :: c280 :: c281 :: c282 :: c283 :: []), []⟩ w11 := by
  conv => arg 2; arg 1; whnf
  go_loopw [15] (fun t x => ∃ i : Nat, i ≤ 64 ∧ t = .int .i64 i ∧ Ar x B14 151 (wcells (v.rounds ws i).words) ∧ Kept (· ≠ B14) w11 x) (fun t _ => 64 - (intOf t).toNat)
  case atStart => exact ⟨0, by omega, rfl, a14', Kept.refl _ _⟩
  case round =>
    clear a14'
    obtain ⟨i, hi, rfl, ax, kx⟩ := hrel
    by_cases hli : i < 64
    · clear hexit
      have hil : (i : Int) < 64 := by omega
      have hi0 : (0 : Int) ≤ (i : Int) := by omega
      have uo : (v.rounds ws i).ok := H8.rounds_ok v ws i uok
      have HS : Hid (v.rounds ws (i + 1) = (v.rounds ws i).round (ks.getD i 0) (ws.getD i 0)) := by show _ = _; rw [HK.out]; rfl
      have cw : wr.cell? ⟨B9, i, none⟩ = some (.int .u32 (ws.getD i 0 : Nat)) := by
        rw [getD_at ws (by omega)]
        exact (AW11.kept kx (by omega)).word i (by omega)
      have ck : wr.cell? ⟨B7, i, none⟩ = some (.int .u32 (ks.getD i 0 : Nat)) := by
        rw [getD_at ks (by omega)]
        exact (AK11.kept kx (by omega)).word i (by omega)
      have bw' := below_getD bws i
      have bk' := below_getD bk.out i
      obtain ⟨ua, ub, uc, ud, ue, uf, ug, uh⟩ := uo
      generalize v.rounds ws i = u at *
      generalize ws.getD i 0 = wk at *
      generalize ks.getD i 0 = kk at *
      have c0 : wr.cell? ⟨B14, 0, none⟩ = some (.int .u32 (u.a : Nat)) := ax.word 0 (by simp [H8.words])
      have c1 : wr.cell? ⟨B14, 1, none⟩ = some (.int .u32 (u.b : Nat)) := ax.word 1 (by simp [H8.words])
      have c2 : wr.cell? ⟨B14, 2, none⟩ = some (.int .u32 (u.c : Nat)) := ax.word 2 (by simp [H8.words])
      have c3 : wr.cell? ⟨B14, 3, none⟩ = some (.int .u32 (u.d : Nat)) := ax.word 3 (by simp [H8.words])
      have c4 : wr.cell? ⟨B14, 4, none⟩ = some (.int .u32 (u.e : Nat)) := ax.word 4 (by simp [H8.words])
      have c5 : wr.cell? ⟨B14, 5, none⟩ = some (.int .u32 (u.f : Nat)) := ax.word 5 (by simp [H8.words])
      have c6 : wr.cell? ⟨B14, 6, none⟩ = some (.int .u32 (u.g : Nat)) := ax.word 6 (by simp [H8.words])
      have c7 : wr.cell? ⟨B14, 7, none⟩ = some (.int .u32 (u.h : Nat)) := ax.word 7 (by simp [H8.words])
      have te1 : ∀ x, Calls Try.prog 93 #[.int .u32 (u.e : Nat), .int .u64 6] x fun e w' => e = .returned (.int .u32 (rotr u.e 6 : Nat)) ∧ w' = x := fun x => rturn_any u.e 6 ue (by decide) (by decide)
      have te2 : ∀ x, Calls Try.prog 93 #[.int .u32 (u.e : Nat), .int .u64 11] x fun e w' => e = .returned (.int .u32 (rotr u.e 11 : Nat)) ∧ w' = x := fun x => rturn_any u.e 11 ue (by decide) (by decide)
      have te3 : ∀ x, Calls Try.prog 93 #[.int .u32 (u.e : Nat), .int .u64 25] x fun e w' => e = .returned (.int .u32 (rotr u.e 25 : Nat)) ∧ w' = x := fun x => rturn_any u.e 25 ue (by decide) (by decide)
      have ta1 : ∀ x, Calls Try.prog 93 #[.int .u32 (u.a : Nat), .int .u64 2] x fun e w' => e = .returned (.int .u32 (rotr u.a 2 : Nat)) ∧ w' = x := fun x => rturn_any u.a 2 ua (by decide) (by decide)
      have ta2 : ∀ x, Calls Try.prog 93 #[.int .u32 (u.a : Nat), .int .u64 13] x fun e w' => e = .returned (.int .u32 (rotr u.a 13 : Nat)) ∧ w' = x := fun x => rturn_any u.a 13 ua (by decide) (by decide)
      have ta3 : ∀ x, Calls Try.prog 93 #[.int .u32 (u.a : Nat), .int .u64 22] x fun e w' => e = .returned (.int .u32 (rotr u.a 22 : Nat)) ∧ w' = x := fun x => rturn_any u.a 22 ua (by decide) (by decide)
      have m1 := xor_bits (rotr u.e 6) (rotr u.e 11) (rotr_lt _ _ ue) (rotr_lt _ _ ue)
      have m2 : bits BinOp.xor .u32 ((rotr u.e 6 ^^^ rotr u.e 11 : Nat) : Int) ((rotr u.e 25 : Nat) : Int) = ((bsig1 u.e : Nat) : Int) := xor_bits _ _ (xor_lt32 (rotr_lt _ _ ue) (rotr_lt _ _ ue)) (rotr_lt _ _ ue)
      have m3 := xor_bits (rotr u.a 2) (rotr u.a 13) (rotr_lt _ _ ua) (rotr_lt _ _ ua)
      have m4 : bits BinOp.xor .u32 ((rotr u.a 2 ^^^ rotr u.a 13 : Nat) : Int) ((rotr u.a 22 : Nat) : Int) = ((bsig0 u.a : Nat) : Int) := xor_bits _ _ (xor_lt32 (rotr_lt _ _ ua) (rotr_lt _ _ ua)) (rotr_lt _ _ ua)
      have f1 := and_bits u.e u.f ue uf
      have f2 := not_bits u.e ue
      have f3 := and_bits (4294967295 - u.e) u.g (by omega) ug
      have f4 : bits BinOp.xor .u32 ((u.e &&& u.f : Nat) : Int) (((4294967295 - u.e) &&& u.g : Nat) : Int) = ((ch u.e u.f u.g : Nat) : Int) := xor_bits _ _ (and_lt32 uf) (and_lt32 ug)
      have g1 := and_bits u.a u.b ua ub
      have g2 := and_bits u.a u.c ua uc
      have g3 := and_bits u.b u.c ub uc
      have g4 := xor_bits (u.a &&& u.b) (u.a &&& u.c) (and_lt32 ub) (and_lt32 uc)
      have g5 : bits BinOp.xor .u32 (((u.a &&& u.b) ^^^ (u.a &&& u.c) : Nat) : Int) ((u.b &&& u.c : Nat) : Int) = ((maj u.a u.b u.c : Nat) : Int) := xor_bits _ _ (xor_lt32 (and_lt32 ub) (and_lt32 uc)) (and_lt32 uc)
      have n1 := bsig1_lt u.e ue
      have n2 := bsig0_lt u.a ua
      have n3 := ch_lt u.e u.f u.g uf ug
      have n4 := maj_lt u.a u.b u.c ub uc
      obtain ⟨tt, htt⟩ : ∃ tt, tt = (u.h + bsig1 u.e + ch u.e u.f u.g + kk + wk) % 4294967296 := ⟨_, rfl⟩
      obtain ⟨na, hna⟩ : ∃ na, na = (tt + bsig0 u.a + maj u.a u.b u.c) % 4294967296 := ⟨_, rfl⟩
      obtain ⟨ne, hne⟩ : ∃ ne, ne = (u.d + tt) % 4294967296 := ⟨_, rfl⟩
      have HT : Hid (u.round kk wk = ⟨na, u.a, u.b, u.c, ne, u.e, u.f, u.g⟩) := by show _ = _; rw [hna, hne, htt]; rfl
      generalize bsig1 u.e = r1 at *
      generalize bsig0 u.a = r2 at *
      generalize ch u.e u.f u.g = r3 at *
      generalize maj u.a u.b u.c = r4 at *
      have v1 : ((u.h : Int) + (r1 : Int) + (r3 : Int) + (kk : Int) + (wk : Int)) % 4294967296 = ((tt : Nat) : Int) := by omega
      have v2 : ((tt : Int) + (r2 : Int) + (r4 : Int)) % 4294967296 = ((na : Nat) : Int) := by omega
      have v3 : ((u.d : Int) + (tt : Int)) % 4294967296 = ((ne : Nat) : Int) := by omega
      have bt : tt < 4294967296 := by omega
      clear htt hna hne
      generalize rotr u.e 6 = y1 at *
      generalize rotr u.e 11 = y2 at *
      generalize rotr u.e 25 = y3 at *
      generalize rotr u.a 2 = y4 at *
      generalize rotr u.a 13 = y5 at *
      generalize rotr u.a 22 = y6 at *
      have lx : (wcells u.words).length = 8 := rfl
      go_wp2
      go_quiet (first | (with_reducible exact Calls.quiet_of_same (te1 _)) | (with_reducible exact Calls.quiet_of_same (te2 _)) | (with_reducible exact Calls.quiet_of_same (te3 _)))
      go_wp2
      go_quiet (fail)
      go_wp2
      go_quiet (first | (with_reducible exact quiet_two (ta1 _)) | (with_reducible exact quiet_two (ta2 _)) | (with_reducible exact quiet_two (ta3 _)))
      clear te1 te2 te3 ta1 ta2 ta3
      go_wp2_with ((with_reducible apply w_store (x := .tmp 14) (b := B14) (xs := wcells (H8.words ⟨na, u.a, u.b, u.c, ne, u.e, u.f, u.g⟩)) (old := wcells u.words) arr8); (case hx => rfl); (case hy => rfl); (case ha => exact ax); (case ho => exact lx); (case hl => rfl); (case h1 => exact wcells_one _); intro w12 a12 k12 s12)
      go_roundw
      case rel =>
        refine ⟨i + 1, by omega, by go_num, ?_, (kx.drewN _).trans k12⟩
        rw [HS.out, HT.out]
        exact a12
      case measure => simp [intOf]; omega
    · have hil : ¬ (i : Int) < 64 := by omega
      obtain rfl : i = 64 := by omega
      go_wp2
      first | trivial | exact ⟨ax, kx⟩

end Go.Proofs.Ytmcaoimgmgjjiaa
