/-
  Texts of the proofs, 29 of 52.
-/
import Derived.Test.YtmcaoimgmgjjiaaWAA
import Derived.BigRegion
import Derived.Test.YtmcaoimgmgjjiaaWAB
namespace Go.Proofs.Ytmcaoimgmgjjiaa
open Go.RowKit

set_option maxRecDepth 100000 in
set_option maxHeartbeats 8000000 in
theorem rsha_sums {u v : H8} {B3 B14 : Nat} {w12 : World} {Q : Exit → Act → World → Prop} {c0 c1 c2 c4 c5 c6 c7 c8 c9 c10 c11 c12 c13 c15 c16 c17 c18 c19 c20 c22 c23 c24 c25 c26 c27 c28 c29 c30 c31 c32 c33 c34 c35 c36 c37 c38 c39 c40 c41 c42 c43 c44 c45 c46 c47 c48 c49 c50 c51 c52 c53 c54 c55 c56 c57 c58 c59 c60 c61 c62 c63 c64 c65 c66 c67 c68 c69 c70 c71 c72 c73 c74 c75 c76 c77 c78 c79 c80 c81 c82 c83 c84 c85 c86 c87 c88 c89 c90 c91 c92 c93 c94 c95 c96 c97 c98 c99 c100 c101 c102 c103 c104 c105 c106 c107 c108 c109 c110 c111 c112 c113 c114 c115 c116 c117 c118 c119 c120 c121 c122 c123 c124 c125 c126 c127 c128 c129 c130 c131 c132 c133 c134 c135 c136 c137 c138 c139 c140 c141 c142 c143 c144 c145 c146 c147 c148 c149 c150 c151 c152 c153 c154 c155 c156 c157 c158 c159 c160 c161 c162 c163 c164 c165 c166 c167 c168 c169 c170 c171 c172 c173 c174 c175 c176 c177 c178 c179 c180 c181 c182 c183 c184 c185 c186 c187 c188 c189 c190 c191 c192 c193 c194 c195 c196 c197 c198 c199 c200 c201 c202 c203 c204 c205 c206 c207 c208 c209 c210 c211 c212 c213 c214 c215 c216 c217 c218 c219 c220 c221 c222 c223 c224 c225 c226 c227 c228 c229 c230 c231 c232 c233 c234 c235 c236 c237 c238 c239 c240 c241 c242 c243 c244 c245 c246 c247 c248 c249 c250 c251 c252 c253 c254 c255 c256 c257 c258 c259 c260 c261 c262 c263 c264 c265 c266 c267 c268 c269 c270 c271 c272 c273 c274 c275 c276 c277 c278 c279 c280 c281 c282 c283 : Value}
    (e1 : B14 ≠ B3)
    (ax : Ar w12 B14 151 (wcells u.words))
    (AHy : Ar w12 B3 151 (wcells v.words))
    (hexit : ∀ (u21 u253 u254 u255 u256 u257 u258 u259 u260 u261 u262 u263 u264 u265 : Value) (x : World), Hid (Ar x B3 151 (wcells (v.add u).words) ∧ Kept (· ≠ B3) w12 x) → Q (.exit 12) ⟨List.toArray (c0 :: c1 :: c2 :: .pointer (some ⟨B3, 0, none⟩) :: c4 :: c5 :: c6 :: c7 :: c8 :: c9 :: c10 :: c11 :: c12 :: c13 :: .pointer (some ⟨B14, 0, none⟩) :: c15 :: c16 :: c17 :: c18 :: c19 :: c20 :: u21 :: c22 :: c23 :: c24 :: c25 :: c26 :: c27 :: c28 :: c29 :: c30 :: c31 :: c32 :: c33 :: c34 :: c35 :: c36 :: c37 :: c38 :: c39 :: c40 :: c41 :: c42 :: c43 :: c44 :: c45 :: c46 :: c47 :: c48 :: c49 :: c50 :: c51 :: c52 :: c53 :: c54 :: c55 :: c56 :: c57 :: c58 :: c59 :: c60 :: c61 :: c62 :: c63 :: c64 :: c65 :: c66 :: c67 :: c68 :: c69 :: c70 :: c71 :: c72 :: c73 :: c74 :: c75 :: c76 :: c77 :: c78 :: c79 :: c80 :: c81 :: c82 :: c83 :: c84 :: c85 :: c86 :: c87 :: c88 :: c89 :: c90 :: c91 :: c92 :: c93 :: c94 :: c95 :: c96 :: c97 :: c98 :: c99 :: c100 :: c101 :: c102 :: c103 :: c104 :: c105 :: c106 :: c107 :: c108 :: c109 :: c110 :: c111 :: c112 :: c113 :: c114 :: c115 :: c116 :: c117 :: c118 :: c119 :: c120 :: c121 :: c122 :: c123 :: c124 :: c125 :: c126 :: c127 :: c128 :: c129 :: c130 :: c131 :: c132 :: c133 :: c134 :: c135 :: c136 :: c137 :: c138 :: c139 :: c140 :: c141 :: c142 :: c143 :: c144 :: c145 :: c146 :: c147 :: c148 :: c149 :: c150 :: c151 :: c152 :: c153 :: c154 :: c155 :: c156 :: c157 :: c158 :: c159 :: c160 :: c161 :: c162 :: c163 :: c164 :: c165 :: c166 :: c167 :: c168 :: c169 :: c170 :: c171 :: c172 :: c173 :: c174 :: c175 :: c176 :: c177 :: c178 :: c179 :: c180 :: c181 :: c182 :: c183 :: c184 :: c185 :: c186 :: c187 :: c188 :: c189 :: c190 :: c191 :: c192 :: c193 :: c194 :: c195 :: c196 :: c197 :: c198 :: c199 :: c200 :: c201 :: c202 :: c203 :: c204 :: c205 :: c206 :: c207 :: c208 :: c209 :: c210 :: c211 :: c212 :: c213 :: c214 :: c215 :: c216 :: c217 :: c218 :: c219 :: c220 :: c221 :: c222 :: c223 :: c224 :: c225 :: c226 :: c227 :: c228 :: c229 :: c230 :: c231 :: c232 :: c233 :: c234 :: c235 :: c236 :: c237 :: c238 :: c239 :: c240 :: c241 :: c242 :: c243 :: c244 :: c245 :: c246 :: c247 :: c248 :: c249 :: c250 :: c251 :: c252 :: u253 :: u254 :: u255 :: u256 :: u257 :: u258 :: u259 :: u260 :: u261 :: u262 :: u263 :: u264 :: u265 :: c266 :: c267 :: c268 :: c269 :: c270 :: c271 :: c272 :: c273 :: c274 :: c275 :: c276 :: c277 :: c278 :: c279 :: c280 :: c281 :: c282 :: c283 :: []), []⟩ x) :
    Code.wp Try.prog (.loop ((Try.f82.body.bind (loopIn 12)).getD .skip)) Q ⟨List.toArray (c0 :: c1 :: c2 :: .pointer (some ⟨B3, 0, none⟩) :: c4 :: c5 :: c6 :: c7 :: c8 :: c9 :: c10 :: c11 :: c12 :: c13 :: .pointer (some ⟨B14, 0, none⟩) :: c15 :: c16 :: c17 :: c18 :: c19 :: c20 :: .int .i64 0 :: c22 :: c23 :: c24 :: c25 :: c26 :: c27 :: c28 :: c29 :: c30 :: c31 :: c32 :: c33 :: c34 :: c35 :: c36 :: c37 :: c38 :: c39 :: c40 :: c41 :: c42 :: c43 :: c44 :: c45 :: c46 :: c47 :: c48 :: c49 :: c50 :: c51 :: c52 :: c53 :: c54 :: c55 :: c56 :: c57 :: c58 :: c59 :: c60 :: c61 :: c62 :: c63 :: c64 :: c65 :: c66 :: c67 :: c68 :: c69 :: c70 :: c71 :: c72 :: c73 :: c74 :: c75 :: c76 :: c77 :: c78 :: c79 :: c80 :: c81 :: c82 :: c83 :: c84 :: c85 :: c86 :: c87 :: c88 :: c89 :: c90 :: c91 :: c92 :: c93 :: c94 :: c95 :: c96 :: c97 :: c98 :: c99 :: c100 :: c101 :: c102 :: c103 :: c104 :: c105 :: c106 :: c107 :: c108 :: c109 :: c110 :: c111 :: c112 :: c113 :: c114 :: c115 :: c116 :: c117 :: c118 :: c119 :: c120 :: c121 :: c122 :: c123 :: c124 :: c125 :: c126 :: c127 :: c128 :: c129 :: c130 :: c131 :: c132 :: c133 :: c134 :: c135 :: c136 :: c137 :: c138 :: c139 :: c140 :: c141 :: c142 :: c143 :: c144 :: c145 :: c146 :: c147 :: c148 :: c149 :: c150 :: c151 :: c152 :: c153 :: c154 :: c155 :: c156 :: c157 :: c158 :: c159 :: c160 :: c161 :: c162 :: c163 :: c164 :: c165 :: c166 :: c167 :: c168 :: c169 :: c170 :: c171 :: c172 :: c173 :: c174 :: c175 :: c176 :: c177 :: c178 :: c179 :: c180 :: c181 :: c182 :: c183 :: c184 :: c185 :: c186 :: c187 :: c188 :: c189 :: c190 :: c191 :: c192 :: c193 :: c194 :: c195 :: c196 :: c197 :: c198 :: c199 :: c200 :: c201 :: c202 :: c203 :: c204 :: c205 :: c206 :: c207 :: c208 :: c209 :: c210 :: c211 :: c212 :: c213 :: c214 :: c215 :: c216 :: c217 :: c218 :: c219 :: c220 :: c221 :: c222 :: c223 :: c224 :: c225 :: c226 :: c227 :: c228 :: c229 :: c230 :: c231 :: c232 :: c233 :: c234 :: c235 :: c236 :: c237 :: c238 :: c239 :: c240 :: c241 :: c242 :: c243 :: c244 :: c245 :: c246 :: c247 :: c248 :: c249 :: c250 :: c251 :: c252 :: c253 :: c254 :: c255 :: c256 :: c257 :: c258 :: c259 :: c260 :: c261 :: c262 :: c263 :: c264 :: c265 :: c266 :: c267 :: c268 :: c269 :: c270 :: c271 :: c272 :: c273 :: c274 :: c275 :: c276 :: c277 :: c278 :: c279 :: c280 :: c281 :: c282 :: c283 :: []), []⟩ w12 := by
  conv => arg 2; arg 1; whnf
  go_loopw [21] (fun t x => ∃ i : Nat, i ≤ 8 ∧ t = .int .i64 i ∧ Ar x B3 151 (wcells ((v.add u).words.take i ++ v.words.drop i)) ∧ Kept (· ≠ B3) w12 x) (fun t _ => 8 - (intOf t).toNat)
  case atStart => exact ⟨0, by omega, rfl, by simpa using AHy, Kept.refl _ _⟩
  case round =>
    clear AHy
    obtain ⟨i, hi, rfl, ah, kx⟩ := hrel
    have ll : (v.add u).words.length = v.words.length := rfl
    have l8 : (v.add u).words.length = 8 := rfl
    have lu : u.words.length = 8 := rfl
    by_cases hli : i < 8
    · clear hexit
      have hil : (i : Int) < 8 := by omega
      have hi0 : (0 : Int) ≤ (i : Int) := by omega
      have hc1 := (ah.cell i).trans (half_get _ _ i (by omega) ll)
      have hc2 : wr.cell? ⟨B14, i, none⟩ = some (.int .u32 (u.words.getD i 0 : Nat)) := by
        rw [getD_at u.words (by omega)]
        exact (ax.kept kx (by omega)).word i (by omega)
      have hf := ah.free i
      have HS : Hid (∀ x, Ar (wr.setCell ⟨B3, i, none⟩ x) B3 151 _) := fun x => ah.set i x
      have HE : Hid (((v.add u).words.take i ++ v.words.drop i).set i ((v.add u).words.getD i 0) = (v.add u).words.take (i + 1) ++ v.words.drop (i + 1)) := half_set _ _ i (by omega) ll
      have hv := add_words v u i hli
      generalize (v.add u).words.getD i 0 = nw at *
      generalize v.words.getD i 0 = x1 at *
      generalize u.words.getD i 0 = x2 at *
      have hv2 : ((x1 : Int) + (x2 : Int)) % 4294967296 = ((nw : Nat) : Int) := by omega
      clear ah hv
      go_wp2
      go_region
      all_goals
        go_wp2
        go_roundw
        case rel =>
          refine ⟨i + 1, by omega, by go_num, ?_, ?_⟩
          · have := HS.out (.int .u32 nw)
            rw [wcells_set, HE.out] at this
            exact this
          · first
              | exact kx.drew.setCell (by simp) _
              | exact (kx.drewN _).setCell (by simp) _
        case measure => simp [intOf]; omega
    · have hil : ¬ (i : Int) < 8 := by omega
      obtain rfl : i = 8 := by omega
      rw [List.take_of_length_le (by omega), List.drop_eq_nil_of_le (by omega), List.append_nil] at ah
      go_wp2
      first | trivial | exact ⟨ah, kx⟩

end Go.Proofs.Ytmcaoimgmgjjiaa

namespace Go.Proofs.Ytmcaoimgmgjjiaa
open Go.RowKit

set_option maxRecDepth 100000 in
set_option maxHeartbeats 8000000 in
theorem rsha_blocks {P : List UInt8} {ks : List Nat} {nb D qc B3 B7 : Nat} {w8 : World} {K : Act → World → Prop} {R : Ending → World → Prop} {c0 c1 c2 c5 c6 c9 c10 c11 c12 c13 c14 c15 c16 c17 c18 c19 c20 c21 c22 c23 c24 c25 c26 c27 c28 c29 c30 c31 c32 c33 c34 c35 c36 c37 c38 c39 c40 c41 c42 c43 c44 c45 c46 c47 c48 c49 c50 c51 c52 c53 c54 c55 c56 c57 c58 c59 c60 c61 c62 c63 c64 c65 c66 c67 c68 c69 c70 c71 c72 c73 c74 c75 c76 c77 c78 c79 c80 c81 c82 c83 c84 c85 c86 c87 c88 c89 c90 c91 c92 c93 c94 c95 c96 c97 c98 c99 c100 c101 c102 c103 c104 c105 c106 c107 c108 c109 c110 c111 c112 c113 c114 c115 c116 c117 c118 c119 c120 c121 c122 c123 c124 c125 c126 c127 c128 c129 c130 c131 c132 c133 c134 c135 c136 c137 c138 c139 c140 c141 c142 c143 c144 c145 c146 c147 c148 c149 c150 c151 c152 c153 c154 c155 c156 c157 c158 c159 c160 c161 c162 c163 c164 c165 c166 c167 c168 c169 c170 c171 c172 c173 c174 c175 c176 c177 c178 c179 c180 c181 c182 c183 c184 c185 c186 c187 c188 c189 c190 c191 c192 c193 c194 c195 c196 c197 c198 c199 c200 c201 c202 c203 c204 c205 c206 c207 c208 c209 c210 c211 c212 c213 c214 c215 c216 c217 c218 c219 c220 c221 c222 c223 c224 c225 c226 c227 c228 c229 c230 c231 c232 c233 c234 c235 c236 c237 c238 c239 c240 c241 c242 c243 c244 c245 c246 c247 c248 c249 c250 c251 c252 c253 c254 c255 c256 c257 c258 c259 c260 c261 c262 c263 c264 c265 c266 c267 c268 c269 c270 c271 c272 c273 c274 c275 c276 c277 c278 c279 c280 c281 c282 c283 : Value}
    (lP : P.length = 64 * nb)
    (hnb2 : nb ≤ 40000)
    (HK : Hid (ks = kOf))
    (lk : ks.length = 64)
    (bk : Hid (below32 ks))
    (a7' : Ar w8 B7 152 (wcells ks))
    (A3x : Ar w8 B3 151 (wcells h0.words))
    (HC : Hid (∀ i (hi : i < P.length), w8.cell? ⟨D, i, none⟩ = some (.int .u8 (P[i]).toNat)))
    (d7 : B3 < B7)
    (d8 : B7 < w8.heap.size)
    (dD : D < w8.heap.size)
    (dD2 : B3 < D)
    (hexit : ∀ (u8 u9 u10 u11 u12 u13 u14 u15 u16 u17 u18 u19 u20 u21 u55 u56 u57 u58 u59 u60 u61 u62 u63 u64 u65 u66 u67 u68 u69 u70 u71 u72 u73 u74 u75 u76 u77 u78 u79 u80 u81 u82 u83 u84 u85 u86 u87 u88 u89 u90 u91 u92 u93 u94 u95 u96 u97 u98 u99 u100 u101 u102 u103 u104 u105 u106 u107 u108 u109 u110 u111 u112 u113 u114 u115 u116 u117 u118 u119 u120 u121 u122 u123 u124 u125 u126 u127 u128 u129 u130 u131 u132 u133 u134 u135 u136 u137 u138 u139 u140 u141 u142 u143 u144 u145 u146 u147 u148 u149 u150 u151 u152 u153 u154 u155 u156 u157 u158 u159 u160 u161 u162 u163 u164 u165 u166 u167 u168 u169 u170 u171 u172 u173 u174 u175 u176 u177 u178 u179 u180 u181 u182 u183 u184 u185 u186 u187 u188 u189 u190 u191 u192 u193 u194 u195 u196 u197 u198 u199 u200 u201 u202 u203 u204 u205 u206 u207 u208 u209 u210 u211 u212 u213 u214 u215 u216 u217 u218 u219 u220 u221 u222 u223 u224 u225 u226 u227 u228 u229 u230 u231 u232 u233 u234 u235 u236 u237 u238 u239 u240 u241 u242 u243 u244 u245 u246 u247 u248 u249 u250 u251 u252 u253 u254 u255 u256 u257 u258 u259 u260 u261 u262 u263 u264 u265 : Value) (x : World), Hid (Ar x B3 151 (wcells (h0.blocks P nb).words) ∧ Kept (· ≠ B3) w8 x) → K ⟨List.toArray (c0 :: c1 :: c2 :: .pointer (some ⟨B3, 0, none⟩) :: .slice (some ⟨D, 0, none⟩) (64 * nb) qc :: c5 :: c6 :: .pointer (some ⟨B7, 0, none⟩) :: u8 :: u9 :: u10 :: u11 :: u12 :: u13 :: u14 :: u15 :: u16 :: u17 :: u18 :: u19 :: u20 :: u21 :: c22 :: c23 :: c24 :: c25 :: c26 :: c27 :: c28 :: c29 :: c30 :: c31 :: c32 :: c33 :: c34 :: c35 :: c36 :: c37 :: c38 :: c39 :: c40 :: c41 :: c42 :: c43 :: c44 :: c45 :: c46 :: c47 :: c48 :: c49 :: c50 :: c51 :: c52 :: c53 :: c54 :: u55 :: u56 :: u57 :: u58 :: u59 :: u60 :: u61 :: u62 :: u63 :: u64 :: u65 :: u66 :: u67 :: u68 :: u69 :: u70 :: u71 :: u72 :: u73 :: u74 :: u75 :: u76 :: u77 :: u78 :: u79 :: u80 :: u81 :: u82 :: u83 :: u84 :: u85 :: u86 :: u87 :: u88 :: u89 :: u90 :: u91 :: u92 :: u93 :: u94 :: u95 :: u96 :: u97 :: u98 :: u99 :: u100 :: u101 :: u102 :: u103 :: u104 :: u105 :: u106 :: u107 :: u108 :: u109 :: u110 :: u111 :: u112 :: u113 :: u114 :: u115 :: u116 :: u117 :: u118 :: u119 :: u120 :: u121 :: u122 :: u123 :: u124 :: u125 :: u126 :: u127 :: u128 :: u129 :: u130 :: u131 :: u132 :: u133 :: u134 :: u135 :: u136 :: u137 :: u138 :: u139 :: u140 :: u141 :: u142 :: u143 :: u144 :: u145 :: u146 :: u147 :: u148 :: u149 :: u150 :: u151 :: u152 :: u153 :: u154 :: u155 :: u156 :: u157 :: u158 :: u159 :: u160 :: u161 :: u162 :: u163 :: u164 :: u165 :: u166 :: u167 :: u168 :: u169 :: u170 :: u171 :: u172 :: u173 :: u174 :: u175 :: u176 :: u177 :: u178 :: u179 :: u180 :: u181 :: u182 :: u183 :: u184 :: u185 :: u186 :: u187 :: u188 :: u189 :: u190 :: u191 :: u192 :: u193 :: u194 :: u195 :: u196 :: u197 :: u198 :: u199 :: u200 :: u201 :: u202 :: u203 :: u204 :: u205 :: u206 :: u207 :: u208 :: u209 :: u210 :: u211 :: u212 :: u213 :: u214 :: u215 :: u216 :: u217 :: u218 :: u219 :: u220 :: u221 :: u222 :: u223 :: u224 :: u225 :: u226 :: u227 :: u228 :: u229 :: u230 :: u231 :: u232 :: u233 :: u234 :: u235 :: u236 :: u237 :: u238 :: u239 :: u240 :: u241 :: u242 :: u243 :: u244 :: u245 :: u246 :: u247 :: u248 :: u249 :: u250 :: u251 :: u252 :: u253 :: u254 :: u255 :: u256 :: u257 :: u258 :: u259 :: u260 :: u261 :: u262 :: u263 :: u264 :: u265 :: c266 :: c267 :: c268 :: c269 :: c270 :: c271 :: c272 :: c273 :: c274 :: c275 :: c276 :: c277 :: c278 :: c279 :: c280 :: c281 :: c282 :: c283 :: []), []⟩ x) :
    Code.wp Try.prog (.loop ((Try.f82.body.bind (loopIn 4)).getD .skip)) (Exit.inBlock 4 (Exit.then K (bodyPost Try.prog Try.f82 R))) ⟨List.toArray (c0 :: c1 :: c2 :: .pointer (some ⟨B3, 0, none⟩) :: .slice (some ⟨D, 0, none⟩) (64 * nb) qc :: c5 :: c6 :: .pointer (some ⟨B7, 0, none⟩) :: .int .i64 0 :: c9 :: c10 :: c11 :: c12 :: c13 :: c14 :: c15 :: c16 :: c17 :: c18 :: c19 :: c20 :: c21 :: c22 :: c23 :: c24 :: c25 :: c26 :: c27 :: c28 :: c29 :: c30 :: c31 :: c32 :: c33 :: c34 :: c35 :: c36 :: c37 :: c38 :: c39 :: c40 :: c41 :: c42 :: c43 :: c44 :: c45 :: c46 :: c47 :: c48 :: c49 :: c50 :: c51 :: c52 :: c53 :: c54 :: c55 :: c56 :: c57 :: c58 :: c59 :: c60 :: c61 :: c62 :: c63 :: c64 :: c65 :: c66 :: c67 :: c68 :: c69 :: c70 :: c71 :: c72 :: c73 :: c74 :: c75 :: c76 :: c77 :: c78 :: c79 :: c80 :: c81 :: c82 :: c83 :: c84 :: c85 :: c86 :: c87 :: c88 :: c89 :: c90 :: c91 :: c92 :: c93 :: c94 :: c95 :: c96 :: c97 :: c98 :: c99 :: c100 :: c101 :: c102 :: c103 :: c104 :: c105 :: c106 :: c107 :: c108 :: c109 :: c110 :: c111 :: c112 :: c113 :: c114 :: c115 :: c116 :: c117 :: c118 :: c119 :: c120 :: c121 :: c122 :: c123 :: c124 :: c125 :: c126 :: c127 :: c128 :: c129 :: c130 :: c131 :: c132 :: c133 :: c134 :: c135 :: c136 :: c137 :: c138 :: c139 :: c140 :: c141 :: c142 :: c143 :: c144 :: c145 :: c146 :: c147 :: c148 :: c149 :: c150 :: c151 :: c152 :: c153 :: c154 :: c155 :: c156 :: c157 :: c158 :: c159 :: c160 :: c161 :: c162 :: c163 :: c164 :: c165 :: c166 :: c167 :: c168 :: c169 :: c170 :: c171 :: c172 :: c173 :: c174 :: c175 :: c176 :: c177 :: c178 :: c179 :: c180 :: c181 :: c182 :: c183 :: c184 :: c185 :: c186 :: c187 :: c188 :: c189 :: c190 :: c191 :: c192 :: c193 :: c194 :: c195 :: c196 :: c197 :: c198 :: c199 :: c200 :: c201 :: c202 :: c203 :: c204 :: c205 :: c206 :: c207 :: c208 :: c209 :: c210 :: c211 :: c212 :: c213 :: c214 :: c215 :: c216 :: c217 :: c218 :: c219 :: c220 :: c221 :: c222 :: c223 :: c224 :: c225 :: c226 :: c227 :: c228 :: c229 :: c230 :: c231 :: c232 :: c233 :: c234 :: c235 :: c236 :: c237 :: c238 :: c239 :: c240 :: c241 :: c242 :: c243 :: c244 :: c245 :: c246 :: c247 :: c248 :: c249 :: c250 :: c251 :: c252 :: c253 :: c254 :: c255 :: c256 :: c257 :: c258 :: c259 :: c260 :: c261 :: c262 :: c263 :: c264 :: c265 :: c266 :: c267 :: c268 :: c269 :: c270 :: c271 :: c272 :: c273 :: c274 :: c275 :: c276 :: c277 :: c278 :: c279 :: c280 :: c281 :: c282 :: c283 :: []), []⟩ w8 := by
  conv => arg 2; arg 1; whnf
  go_loopw [8] (fun t x => ∃ k : Nat, k ≤ nb ∧ t = .int .i64 ((64 * k : Nat) : Int) ∧ Ar x B3 151 (wcells (h0.blocks P k).words) ∧ Kept (· ≠ B3) w8 x) (fun t _ => 64 * nb - (intOf t).toNat)
  case atStart => exact ⟨0, by omega, rfl, A3x, Kept.refl _ _⟩
  case round =>
    clear A3x
    obtain ⟨k, hk, rfl, ar, kr⟩ := hrel
    by_cases hlk : k < nb
    · clear hexit
      have hkl : 64 * (k : Int) < 64 * (nb : Int) := by omega
      have hkn : (k : Int) ≤ 40000 := by omega
      have HP : Hid (∀ i (hi : i < P.length), wr.cell? ⟨D, i, none⟩ = some (.int .u8 (P[i]).toNat)) := fun i hi => (kept_cell kr dD (by omega)).trans (HC.out i hi)
      have A7 : Ar wr B7 152 (wcells ks) := a7'.kept kr (by omega)
      have uok : (h0.blocks P k).ok := H8.blocks_ok _ _ _ (by unfold h0 H8.ok; decide)
      have HU : Hid (h0.blocks P (k + 1) = (h0.blocks P k).block P (64 * k)) := rfl
      have zr := kr.size
      have e9 : B7 < wr.heap.size := by omega
      have e10 : D < wr.heap.size := by omega
      have e11 : B3 < wr.heap.size := by omega
      generalize h0.blocks P k = v at *
      go_wp2_with (first
        | ((with_reducible refine w_alloc (d := some 9) arr64 ?_); intro w9 a9 k9 s9))
      rw [zeros_w] at a9
      have HP9 : Hid (∀ i (hi : i < P.length), w9.cell? ⟨D, i, none⟩ = some (.int .u8 (P[i]).toNat)) := fun i hi => (kept_cell k9 e10 trivial).trans (HP.out i hi)
      have ar9 := ar.kept k9 trivial
      have A79 := A7.kept k9 trivial
      have e12 : wr.heap.size < w9.heap.size := by have := s9.out; omega
      have kr9 : Kept (· ≠ B3) w8 w9 := kr.trans (k9.mono (fun _ _ _ => trivial))
      clear HP ar A7 s9 k9 kr
      generalize wr.heap.size = B9 at *
      refine wp_tail (R := R) (rsha_words lP hlk hnb2 e10 e12 HP9 a9 ?_) (fun _ _ h => h) (fun _ _ _ h => h) (fun _ _ h => h)
      intro u10 u61 u62 u63 u64 u65 u66 u67 u68 u69 u70 u71 u72 u73 u74 u75 u76 u77 u78 u79 u80 u81 u82 u83 u84 u85 u86 u87 u88 u89 u90 u91 u92 u93 u94 u95 u96 u97 u98 u99 u100 u101 u102 u103 u104 u105 u106 u107 wx hx
      obtain ⟨ax, kx⟩ := hx.out
      clear hx
      have zx := kx.size
      have AH := ar9.kept kx (by omega)
      have AK := A79.kept kx (by omega)
      have krx : Kept (· ≠ B3) w8 wx := kr9.then kx (fun i hi h => by omega)
      have bW := wordsAt_lt P (64 * k) 16
      have lW := wordsAt_length P (64 * k) 16
      have HV : Hid (v.block P (64 * k) = v.add (v.rounds (sched 48 (wordsAt P (64 * k) 16)) 64)) := rfl
      generalize wordsAt P (64 * k) 16 = W at *
      clear ar9 A79 kr9 HP9 kx a9
      go_wp2
      refine wp_tail (R := R) (rsha_sched bW lW ax ?_) (fun _ _ h => h) (fun _ _ _ h => h) (fun _ _ h => h)
      intro u11 u12 u13 u108 u109 u110 u111 u112 u113 u114 u115 u116 u117 u118 u119 u120 u121 u122 u123 u124 u125 u126 u127 u128 u129 u130 u131 u132 u133 u134 u135 u136 u137 u138 u139 u140 u141 u142 u143 u144 u145 u146 u147 u148 u149 u150 u151 u152 u153 u154 u155 u156 u157 u158 u159 u160 wy hx
      clear ax
      obtain ⟨ax, kx⟩ := hx.out
      clear hx
      have bws := sched_lt 48 W bW
      have lws : (sched 48 W).length = 64 := by rw [sched_length, lW]
      generalize sched 48 W = ws at *
      have AHx := AH.kept kx (by omega)
      have AKx := AK.kept kx (by omega)
      have kry : Kept (· ≠ B3) w8 wy := krx.then kx (fun i hi h => by omega)
      have zy := kx.size
      have ov := wcells_one v.words
      clear AH AK krx kx bW lW
      go_wp2_with (first
        | ((with_reducible apply w_load (d := some 161) (b := B3) (xs := wcells v.words) arr8); (case hx => rfl); (case ha => exact AHx); (case hl => rfl))
        | ((with_reducible refine w_alloc (d := some 14) arr8 ?_); intro w10 a14 k10 s10)
        | ((with_reducible apply w_store (x := .tmp 14) (b := wy.heap.size) (xs := wcells v.words) (old := List.replicate 8 (.int .u32 0)) arr8); (case hx => rfl); (case hy => rfl); (case ha => exact a14); (case ho => simp); (case hl => rfl); (case h1 => exact ov); intro w11 a14' k11 s11))
      have q10 := s10.out
      have q11 := s11.out
      have K11 : Kept (· ≠ wy.heap.size) wy w11 := (k10.mono (fun _ _ _ => trivial)).trans k11
      have AH11 := AHx.kept K11 (by omega)
      have AK11 := AKx.kept K11 (by omega)
      have AW11 := ax.kept K11 (by omega)
      have kr11 : Kept (· ≠ B3) w8 w11 := kry.then K11 (fun i hi h => by omega)
      have f1 : B9 < wy.heap.size := by omega
      have f2 : wy.heap.size < w11.heap.size := by omega
      have f3 : w8.heap.size ≤ wy.heap.size := by omega
      clear q10 q11 s10 s11 K11 k10 k11 AHx AKx ax kry a14 zx zy
      generalize wy.heap.size = B14 at *
      refine rsha_rounds HK lk bk bws lws uok (by omega) (by omega) AK11 AW11 a14' ?_
      intro u15 u16 u17 u18 u19 u20 u162 u163 u164 u165 u166 u167 u168 u169 u170 u171 u172 u173 u174 u175 u176 u177 u178 u179 u180 u181 u182 u183 u184 u185 u186 u187 u188 u189 u190 u191 u192 u193 u194 u195 u196 u197 u198 u199 u200 u201 u202 u203 u204 u205 u206 u207 u208 u209 u210 u211 u212 u213 u214 u215 u216 u217 u218 u219 u220 u221 u222 u223 u224 u225 u226 u227 u228 u229 u230 u231 u232 u233 u234 u235 u236 u237 u238 u239 u240 u241 u242 u243 u244 u245 u246 u247 u248 u249 u250 u251 u252 wz hx
      clear a14'
      obtain ⟨ax, kx⟩ := hx.out
      clear hx
      obtain ⟨u, hu⟩ : ∃ u, u = v.rounds ws 64 := ⟨_, rfl⟩
      rw [← hu] at ax HV
      have AHy := AH11.kept kx (by omega)
      have krz : Kept (· ≠ B3) w8 wz := kr11.then kx (fun i hi h => by omega)
      clear hu AK11 AW11 AH11 kr11 kx bws lws
      go_wp2
      refine rsha_sums (by omega) ax AHy ?_
      intro u21 u253 u254 u255 u256 u257 u258 u259 u260 u261 u262 u263 u264 u265 wq hx
      clear ax AHy
      obtain ⟨ah, kx⟩ := hx.out
      clear hx
      have kend : Kept (· ≠ B3) w8 wq := krz.trans kx
      clear krz kx
      go_wp2
      go_roundw
      case rel =>
        refine ⟨k + 1, by omega, by go_num, ?_, kend⟩
        rw [HU.out, HV.out]
        exact ah
      case measure => simp [intOf]; omega
    · have hkl : ¬ 64 * (k : Int) < 64 * (nb : Int) := by omega
      obtain rfl : k = nb := by omega
      go_wp2
      first | trivial | exact ⟨ar, kr⟩

end Go.Proofs.Ytmcaoimgmgjjiaa
