/-
  Given for 'Rows.HealthKeptSaid': the law's end. No condition but those of the theorems.
-/
import Derived.Test.YtpidjekabnnmcaaHKeptA
import Derived.Test.YtpidjekabnnmcaaQIn
namespace Go.Proofs.Ytpidjekabnnmcaa.hp
open Go.RowKit mem find pb
set_option linter.unusedVariables false


/-! ### the law's end, behind the turned one: the code taken out of the translation -/
noncomputable def fromR (n : Nat) : Code → Code
  | .seq (.region id ops b) c => if id = n then .seq (.region id ops b) c else fromR n c
  | .seq _ c => fromR n c
  | c => c
noncomputable def inn : Code → Code
  | .seq a _ => a
  | c => c
noncomputable def nxt : Code → Code
  | .seq _ b => b
  | c => c
noncomputable def bod : Option Code → Code
  | some c => c
  | none => .skip
noncomputable def c23 : Code := inn (fromR 23 (bod Try.f6.body))
noncomputable def c24 : Code := nxt (fromR 23 (bod Try.f6.body))
abbrev Qz (w : World) : Exit → Act → World → Prop := bodyPost Try.prog Try.f6 fun e w' => e = .returned (.bool true) ∧ Below w.heap.size w w'
theorem turn_len (n f : Nat) : (turnOf n f).length = n := by simp [turnOf]
/-- the facts of a configuration's block -/
structure C16 (W : World) (B : Nat) (v : Value) : Prop where
  c0 : W.cell? ⟨B, 0, none⟩ = some (.string ⟨#[]⟩)
  c1 : W.cell? ⟨B, 1, none⟩ = some (.int .i64 0)
  c2 : W.cell? ⟨B, 2, none⟩ = some (.int .i64 0)
  c3 : W.cell? ⟨B, 3, none⟩ = some (.int .i64 0)
  c4 : W.cell? ⟨B, 4, none⟩ = some (.int .i64 0)
  c5 : W.cell? ⟨B, 5, none⟩ = some (.int .i64 0)
  c6 : W.cell? ⟨B, 6, none⟩ = some (.int .i64 0)
  c7 : W.cell? ⟨B, 7, none⟩ = some (.int .i64 0)
  c8 : W.cell? ⟨B, 8, none⟩ = some (.int .i64 0)
  c9 : W.cell? ⟨B, 9, none⟩ = some (.int .i64 2)
  c10 : W.cell? ⟨B, 10, none⟩ = some (.int .i64 5)
  c11 : W.cell? ⟨B, 11, none⟩ = some (.int .i64 3)
  c12 : W.cell? ⟨B, 12, none⟩ = some (.slice none 0 0)
  c13 : W.cell? ⟨B, 13, none⟩ = some v
  c14 : W.cell? ⟨B, 14, none⟩ = some (.slice none 0 0)
  c15 : W.cell? ⟨B, 15, none⟩ = some (.slice none 0 0)
theorem c16_of {W : World} {B : Nat} {v : Value} (h : Lies W B 29 (ccs 2 5 3 v)) : C16 W B v :=
  ⟨h.cell 0, h.cell 1, h.cell 2, h.cell 3, h.cell 4, h.cell 5, h.cell 6, h.cell 7, h.cell 8, h.cell 9, h.cell 10, h.cell 11, h.cell 12, h.cell 13, h.cell 14, h.cell 15⟩

/-- where the law stands behind the making of its configurations -/
structure C3 (w : World) (P : Nat → Prop) (B Bt Bl : Nat) (A At Al : Option Addr) (c ct cl r q n f a ml : Nat) (W : World) : Prop where
  ks : ∃ rec qs, Keys n rec ∧ KS w P r q n rec qs (n : Int) W ∧ qs.Nodup ∧ ∀ i, i < n → i ∈ qs
  cf : Cfs P B Bt Bl A At Al c ct cl n f a ml W
noncomputable def c25 : Code := nxt c24
def PQ4 (P : Nat → Prop) (b : Nat) (g : Nat) : Prop := P g ∨ g = b

noncomputable def c37 : Code := inn (fromR 37 (bod Try.f6.body))
noncomputable def c38 : Code := nxt (fromR 37 (bod Try.f6.body))
set_option maxRecDepth 1000000 in
set_option maxHeartbeats 16000000 in
theorem kept_exit {K : Act → World → Prop} {w w7 : World} {P : Nat → Prop} {r q n a : Nat} {rec : Nat → RD} {v1 v2 v4 v5 v6 v7 v8 v9 v11 v12 v13 v14 v15 v16 v17 v18 v19 v20 v21 v22 v23 v24 v25 v26 v27 v28 v29 v30 v31 v32 v33 v34 v35 v36 v37 v38 v39 v40 v41 v42 v43 v44 v45 v46 v47 v48 v49 v50 v51 v52 v53 v54 v55 v56 v57 v58 v59 v60 v61 v62 v63 v64 v65 v66 v67 v68 v69 v70 v71 v72 v73 v74 v75 v76 v77 v78 v79 v80 v81 v82 v83 v84 v85 v86 v87 v88 v89 v90 v91 v92 v93 v94 v95 v96 v97 v98 v99 v100 v101 v102 v103 v104 v105 v106 v107 v108 v109 v110 v111 v112 v113 v114 v115 v116 v117 v118 v119 v120 v121 v122 v123 v124 v125 v126 v127 v128 v129 v130 v131 v132 v133 v134 v135 v136 v137 v138 v139 v140 v141 v142 v143 v144 v145 v146 v147 v148 v149 v150 v151 v152 v153 v154 v155 v156 v157 v158 v159 v160 v161 v162 v163 v164 v165 v166 v167 v168 v169 v170 v171 v172 v173 v174 v175 v176 v177 v178 v179 v180 v181 v182 v183 v184 v185 v186 v187 v188 v189 v190 v191 v192 v193 v194 v195 v196 v197 v198 v199 v200 v201 v202 v203 v204 v205 v206 v207 v208 v209 v210 v211 v212 v213 v214 v215 v216 v217 v218 v219 v220 v221 v222 v223 v224 v225 v226 : Value} (hK : ∀ (a : Act) (w' : World), Code.wp Try.prog c38 (Qz w) a w' → K a w') (HZ : bk.Bx (KZ w P r q n a rec (n : Int) w7)) (HK : bk.Bx (Keys n rec))
    (h2 : 2 ≤ n) (h16 : n ≤ 16) (han : a < n) : Code.wp Try.prog c37 (Exit.then K (Qz w)) ⟨#[.int .i64 (n : Int), v1, v2, .int .i64 (a : Int), v4, v5, v6, v7, v8, v9, bp r, v11, v12, v13, v14, v15, v16, v17, v18, v19, v20, v21, v22, v23, v24, v25, v26, v27, v28, v29, v30, v31, v32, v33, v34, v35, v36, v37, v38, v39, v40, v41, v42, v43, v44, v45, v46, v47, v48, v49, v50, v51, v52, v53, v54, v55, v56, v57, v58, v59, v60, v61, v62, v63, v64, v65, v66, v67, v68, v69, v70, v71, v72, v73, v74, v75, v76, v77, v78, v79, v80, v81, v82, v83, v84, v85, v86, v87, v88, v89, v90, v91, v92, v93, v94, v95, v96, v97, v98, v99, v100, v101, v102, v103, v104, v105, v106, v107, v108, v109, v110, v111, v112, v113, v114, v115, v116, v117, v118, v119, v120, v121, v122, v123, v124, v125, v126, v127, v128, v129, v130, v131, v132, v133, v134, v135, v136, v137, v138, v139, v140, v141, v142, v143, v144, v145, v146, v147, v148, v149, v150, v151, v152, v153, v154, v155, v156, v157, v158, v159, v160, v161, v162, v163, v164, v165, v166, v167, v168, v169, v170, v171, v172, v173, v174, v175, v176, v177, v178, v179, v180, v181, v182, v183, v184, v185, v186, v187, v188, v189, v190, v191, v192, v193, v194, v195, v196, v197, v198, v199, v200, v201, v202, v203, v204, v205, v206, v207, v208, v209, v210, v211, v212, v213, v214, v215, v216, v217, v218, v219, v220, v221, v222, v223, v224, v225, v226], []⟩ w7 := by
  have hmix : Try.prog.follows .mixedOrders = true := by kernel_rfl
  conv => arg 2; whnf
  conv at hK => enter [a, w']; arg 1; arg 2; whnf
  have haz0 : (0 : Int) ≤ (a : Int) + 1 := by omega
  have haz1 : (a : Int) + 1 ≤ 100 := by omega
  have hnN : ¬ n = 0 := by omega
  obtain ⟨z, hz⟩ : ∃ z : Nat, (a + 1) % n = z := ⟨_, rfl⟩
  have hzi : z < n := by rw [← hz]; exact Nat.mod_lt _ (by omega)
  have hza : z ≠ a := by
    intro e
    rw [e] at hz
    by_cases h : a + 1 < n
    · rw [Nat.mod_eq_of_lt h] at hz; omega
    · rw [show a + 1 = n by omega, Nat.mod_self] at hz; omega
  have hzz : ((a : Int) + 1) % (n : Int) = (z : Int) := by rw [← hz, Int.natCast_emod]; rfl
  have hzt : ((a : Int) + 1).tmod (n : Int) = (z : Int) := by rw [Int.tmod_eq_emod_of_nonneg (by omega)]; exact hzz
  have hawr : IntKind.i64.wrap ((a : Int) + 1) = (a : Int) + 1 := IntWalk.i64_in _ (by omega)
  have hzwr : IntKind.i64.wrap ((z : Int) + 1) = (z : Int) + 1 := IntWalk.i64_in _ (by omega)
  have hiwr : IntKind.i64.wrap ((n : Int) + 1) = (n : Int) + 1 := IntWalk.i64_in _ (by omega)
  have KT := bk.Bx.mk (kz_tells HZ.out h16 han)
  clear hz HZ
  go_wp2_with fail
  refine KT.out.mono ?_
  rintro e w8 ⟨rfl, hz8⟩
  have hb8 : Below w8.heap.size w8 (w8.alloc (.cells #[.bool false, .int .i64 0, .int .i64 0, .bool false] 43)) := (Below.refl _ w8).alloc (Nat.le_refl _) _
  have HZ9 := bk.Bx.mk (hz8.below hb8)
  have hl9 := Lies.new w8 43 #[.bool false, .int .i64 0, .int .i64 0, .bool false]
  have m0 := hl9.cell 0
  have m1 := hl9.cell 1
  have m2 := hl9.cell 2
  have m3 := hl9.cell 3
  simp at m0 m1 m2 m3
  clear hz8 hb8 hl9 KT
  go_wp2_with fail
  have HKA := bk.Bx.mk (fun nn => by
    have h := kz_key (HZ9.out.below ((Still.drewN (w8.alloc (.cells #[.bool false, .int .i64 0, .int .i64 0, .bool false] 43)) nn).below _)) h16 HK.out han
    rw [if_pos rfl] at h
    exact h)
  have HKZ := bk.Bx.mk (fun nn => by
    have h := kz_key (HZ9.out.below ((Still.drewN (w8.alloc (.cells #[.bool false, .int .i64 0, .int .i64 0, .bool false] 43)) nn).below _)) h16 HK.out hzi
    rw [if_neg hza] at h
    exact h)
  go_quiet ((go_at_call 13; first | with_reducible exact Calls.quiet_of_same (HKA.out _) | with_reducible exact Calls.quiet_of_same (HKZ.out _)))
  have HB := bk.Bx.mk (HZ9.out.below ((Still.drewN (w8.alloc (.cells #[.bool false, .int .i64 0, .int .i64 0, .bool false] 43)) nq).below _)).keep
  clear HKA HKZ
  go_wp2_with fail
  go_ret
  exact ⟨rfl, HB.out⟩

noncomputable def fromR2 (n : Nat) : Code → Code
  | .seq (.seq (.region id ops b) c1) c2 => if id = n then .seq (.seq (.region id ops b) c1) c2 else fromR2 n c2
  | .seq _ c => fromR2 n c
  | c => c
noncomputable def r35 : Code := inn (inn (fromR2 35 (bod Try.f6.body)))
noncomputable def q35 : Code := nxt (inn (fromR2 35 (bod Try.f6.body)))
noncomputable def n35 : Code := nxt (fromR2 35 (bod Try.f6.body))
set_option maxRecDepth 1000000 in
set_option maxHeartbeats 16000000 in
theorem kept_exit35 {K1 K2 : Act → World → Prop} {w wr : World} {P : Nat → Prop} {B Bt Bl : Nat} {A At Al : Option Addr} {c ct cl r q n f a ml : Nat} {v1 v2 v4 v5 v6 v7 v8 v11 v12 v13 v14 v15 v17 v18 v19 v20 v21 v22 v23 v24 v25 v26 v27 v28 v29 v30 v31 v32 v33 v34 v35 v36 v37 v38 v39 v40 v41 v42 v43 v44 v45 v46 v47 v48 v49 v50 v51 v52 v53 v54 v55 v56 v57 v58 v59 v60 v61 v62 v63 v64 v65 v66 v67 v68 v69 v70 v71 v72 v73 v74 v75 v76 v77 v78 v79 v80 v81 v82 v83 v84 v85 v86 v87 v88 v89 v90 v91 v92 v93 v94 v95 v96 v97 v98 v99 v100 v101 v102 v103 v104 v105 v106 v107 v108 v109 v110 v111 v112 v113 v114 v115 v116 v117 v118 v119 v120 v121 v122 v123 v124 v125 v126 v127 v128 v129 v130 v131 v132 v133 v134 v135 v136 v137 v138 v139 v140 v141 v142 v143 v144 v145 v146 v147 v148 v149 v150 v151 v152 v153 v154 v155 v156 v157 v158 v159 v160 v161 v162 v163 v164 v165 v166 v167 v168 v169 v170 v171 v172 v173 v174 v175 v176 v177 v178 v179 v180 v181 v182 v183 v184 v185 v186 v187 v188 v189 v190 v191 v192 v193 v194 v195 v196 v197 v198 v199 v200 v201 v202 v203 v204 v205 v206 v207 v208 v209 v210 v211 v212 v213 v214 v215 v216 v217 v218 v219 v220 v221 v222 v223 v224 v225 v226 : Value} (hK1 : ∀ (a : Act) (w' : World), Code.wp Try.prog q35 (Exit.then K2 (Qz w)) a w' → K1 a w') (hK2 : ∀ (a : Act) (w' : World), Code.wp Try.prog n35 (Qz w) a w' → K2 a w')
    (HC : bk.Bx (C3 w P B Bt Bl A At Al c ct cl r q n f a ml wr)) (h2 : 2 ≤ n) (h16 : n ≤ 16) (han : a < n) : Code.wp Try.prog r35 (Exit.then K1 (Exit.then K2 (Qz w))) ⟨#[.int .i64 (n : Int), v1, v2, .int .i64 (a : Int), v4, v5, v6, v7, v8, .pointer (some ⟨B, 0, none⟩), bp r, v11, v12, v13, v14, v15, .pointer (some ⟨Bl, 0, none⟩), v17, v18, v19, v20, v21, v22, v23, v24, v25, v26, v27, v28, v29, v30, v31, v32, v33, v34, v35, v36, v37, v38, v39, v40, v41, v42, v43, v44, v45, v46, v47, v48, v49, v50, v51, v52, v53, v54, v55, v56, v57, v58, v59, v60, v61, v62, v63, v64, v65, v66, v67, v68, v69, v70, v71, v72, v73, v74, v75, v76, v77, v78, v79, v80, v81, v82, v83, v84, v85, v86, v87, v88, v89, v90, v91, v92, v93, v94, v95, v96, v97, v98, v99, v100, v101, v102, v103, v104, v105, v106, v107, v108, v109, v110, v111, v112, v113, v114, v115, v116, v117, v118, v119, v120, v121, v122, v123, v124, v125, v126, v127, v128, v129, v130, v131, v132, v133, v134, v135, v136, v137, v138, v139, v140, v141, v142, v143, v144, v145, v146, v147, v148, v149, v150, v151, v152, v153, v154, v155, v156, v157, v158, v159, v160, v161, v162, v163, v164, v165, v166, v167, v168, v169, v170, v171, v172, v173, v174, v175, v176, v177, v178, v179, v180, v181, v182, v183, v184, v185, v186, v187, v188, v189, v190, v191, v192, v193, v194, v195, v196, v197, v198, v199, v200, v201, v202, v203, v204, v205, v206, v207, v208, v209, v210, v211, v212, v213, v214, v215, v216, v217, v218, v219, v220, v221, v222, v223, v224, v225, v226], []⟩ wr := by
  have hmix : Try.prog.follows .mixedOrders = true := by kernel_rfl
  conv => arg 2; whnf
  conv at hK1 => enter [a, w']; arg 1; arg 2; whnf
  conv at hK2 => enter [a, w']; arg 1; arg 2; whnf
  obtain ⟨rec, qs, hK, hks, hnd, hall⟩ := HC.out.ks
  have hcf := HC.out.cf
  have KR := bk.Bx.mk (ks_reload (c := cl) hks h16 (by omega) (by omega) (less_nodup (n := n) (a := a)) (fun m hm => hall m ((less_mem han).1 hm).1) hcf.len hcf.pl)
  have HCF := bk.Bx.mk hcf
  have HK := bk.Bx.mk hK
  obtain ⟨x0, x1, x2, x3, x4, x5, x6, x7, x8, x9, x10, x11, x12, x13, x14, x15⟩ := c16_of hcf.l
  have haz0 : (0 : Int) ≤ (a : Int) + 1 := by omega
  have haz1 : (a : Int) + 1 ≤ 100 := by omega
  have hnN : ¬ n = 0 := by omega
  obtain ⟨z, hz⟩ : ∃ z : Nat, (a + 1) % n = z := ⟨_, rfl⟩
  have hzi : z < n := by rw [← hz]; exact Nat.mod_lt _ (by omega)
  have hza : z ≠ a := by
    intro e
    rw [e] at hz
    by_cases h : a + 1 < n
    · rw [Nat.mod_eq_of_lt h] at hz; omega
    · rw [show a + 1 = n by omega, Nat.mod_self] at hz; omega
  have hzz : ((a : Int) + 1) % (n : Int) = (z : Int) := by rw [← hz, Int.natCast_emod]; rfl
  have hzt : ((a : Int) + 1).tmod (n : Int) = (z : Int) := by rw [Int.tmod_eq_emod_of_nonneg (by omega)]; exact hzz
  have hawr : IntKind.i64.wrap ((a : Int) + 1) = (a : Int) + 1 := IntWalk.i64_in _ (by omega)
  have hzwr : IntKind.i64.wrap ((z : Int) + 1) = (z : Int) + 1 := IntWalk.i64_in _ (by omega)
  have hiwr : IntKind.i64.wrap ((n : Int) + 1) = (n : Int) + 1 := IntWalk.i64_in _ (by omega)
  clear hK hks hnd hall hcf HC hz
  go_wp2_with fail
  refine KR.out.mono ?_
  rintro e w5 ⟨rfl, hp5⟩
  have KPn := bk.Bx.mk (ks_place_no hp5.ks h16 HK.out han (fun h => ((less_mem han).1 h).2 rfl))
  have HCF5 := bk.Bx.mk (HCF.out.keep hp5.same)
  clear x0 x1 x2 x3 x4 x5 x6 x7 x8 x9 x10 x11 x12 x13 x14 x15
  clear hp5 KR HCF
  go_wp2_with fail
  refine KPn.out.mono ?_
  rintro e w6 ⟨rfl, hp6⟩
  have hcf6 := HCF5.out.keep hp6.same
  have KR := bk.Bx.mk (ks_again hp6.ks h16 (by omega) (by omega) han (fun h => ((less_mem han).1 h).2 rfl) (fun m hm hma => (less_mem han).2 ⟨hm, hma⟩) hcf6.pb (c := c))
  obtain ⟨y0, y1, y2, y3, y4, y5, y6, y7, y8, y9, y10, y11, y12, y13, y14, y15⟩ := c16_of hcf6.b
  clear hp6 hcf6 KPn HCF5
  go_wp2_with fail
  refine KR.out.mono ?_
  rintro e w7 ⟨rfl, hz7⟩
  have HZ7 := bk.Bx.mk hz7
  clear y0 y1 y2 y3 y4 y5 y6 y7 y8 y9 y10 y11 y12 y13 y14 y15
  clear hz7 KR hzi hza hzz hzt hawr hzwr hiwr
  go_upto_region 37 with fail
  exact kept_exit (by assumption) HZ7 HK h2 h16 han

set_option maxRecDepth 1000000 in
set_option maxHeartbeats 16000000 in
theorem kept_end {w wr : World} {P : Nat → Prop} {B Bt Bl : Nat} {A At Al : Option Addr} {c ct cl r q n f a ml : Nat} {v1 v4 v5 v6 v7 v8 v11 v12 v13 v15 v17 v18 v19 v20 v21 v22 v23 v24 v25 v26 v27 v28 v29 v30 v31 v32 v33 v34 v35 v36 v37 v38 v39 v40 v41 v42 v43 v44 v45 v46 v47 v48 v49 v50 v51 v52 v53 v54 v55 v56 v57 v58 v59 v60 v61 v62 v63 v64 v65 v66 v67 v68 v69 v70 v71 v72 v73 v74 v75 v76 v77 v78 v79 v80 v81 v82 v83 v84 v85 v86 v87 v88 v89 v90 v91 v92 v93 v94 v95 v96 v97 v98 v99 v100 v101 v102 v103 v104 v105 v106 v107 v108 v109 v110 v111 v112 v113 v114 v115 v116 v117 v118 v119 v120 v121 v122 v123 v124 v125 v126 v127 v128 v129 v130 v131 v132 v133 v134 v135 v136 v137 v138 v139 v140 v141 v142 v143 v144 v145 v146 v147 v148 v149 v150 v151 v152 v153 v154 v155 v156 v157 v158 v159 v160 v161 v162 v163 v164 v165 v166 v167 v168 v169 v170 v171 v172 v173 v174 v175 v176 v177 v178 v179 v180 v181 v182 v183 v184 v185 v186 v187 v188 v189 v190 v191 v192 v193 v194 v195 v196 v197 v198 v199 v200 v201 v202 v203 v204 v205 v206 v207 v208 v209 v210 v211 v212 v213 v214 v215 v216 v217 v218 v219 v220 v221 v222 v223 v224 v225 v226 : Value} (HC : bk.Bx (C3 w P B Bt Bl A At Al c ct cl r q n f a ml wr))
    (h2 : 2 ≤ n) (h16 : n ≤ 16) (hfn : f < n) (han : a < n) : Code.wp Try.prog c25 (Qz w) ⟨#[.int .i64 (n : Int), v1, .int .i64 (f : Int), .int .i64 (a : Int), v4, v5, v6, v7, v8, .pointer (some ⟨B, 0, none⟩), bp r, v11, v12, v13, .pointer (some ⟨Bt, 0, none⟩), v15, .pointer (some ⟨Bl, 0, none⟩), v17, v18, v19, v20, v21, v22, v23, v24, v25, v26, v27, v28, v29, v30, v31, v32, v33, v34, v35, v36, v37, v38, v39, v40, v41, v42, v43, v44, v45, v46, v47, v48, v49, v50, v51, v52, v53, v54, v55, v56, v57, v58, v59, v60, v61, v62, v63, v64, v65, v66, v67, v68, v69, v70, v71, v72, v73, v74, v75, v76, v77, v78, v79, v80, v81, v82, v83, v84, v85, v86, v87, v88, v89, v90, v91, v92, v93, v94, v95, v96, v97, v98, v99, v100, v101, v102, v103, v104, v105, v106, v107, v108, v109, v110, v111, v112, v113, v114, v115, v116, v117, v118, v119, v120, v121, v122, v123, v124, v125, v126, v127, v128, v129, v130, v131, v132, v133, v134, v135, v136, v137, v138, v139, v140, v141, v142, v143, v144, v145, v146, v147, v148, v149, v150, v151, v152, v153, v154, v155, v156, v157, v158, v159, v160, v161, v162, v163, v164, v165, v166, v167, v168, v169, v170, v171, v172, v173, v174, v175, v176, v177, v178, v179, v180, v181, v182, v183, v184, v185, v186, v187, v188, v189, v190, v191, v192, v193, v194, v195, v196, v197, v198, v199, v200, v201, v202, v203, v204, v205, v206, v207, v208, v209, v210, v211, v212, v213, v214, v215, v216, v217, v218, v219, v220, v221, v222, v223, v224, v225, v226], []⟩ wr := by
  have hmix : Try.prog.follows .mixedOrders = true := by kernel_rfl
  conv => arg 2; whnf
  go_wp2_with fail
  go_loopw [17] (fun s17 wr => ∃ i : Nat, i ≤ n ∧ s17 = .int .i64 i ∧ bk.Bx (C3 w P B Bt Bl A At Al c ct cl r q n f a ml wr)) (fun s17 _ => n - (intOf s17).toNat)
  case atStart => exact ⟨0, by omega, rfl, HC⟩
  case round =>
    clear HC
    obtain ⟨i, hi, rfl, HC⟩ := hrel
    by_cases hin : i < n
    · obtain ⟨rec, qs, hK, hks, hnd, hall⟩ := HC.out.ks
      have hcf := HC.out.cf
      have KR := bk.Bx.mk (ks_reload (c := c) hks h16 (by omega) (by omega) (List.nodup_range (n := n)) (fun m hm => hall m (List.mem_range.1 hm)) List.length_range hcf.pb)
      have HCF := bk.Bx.mk hcf
      have HK := bk.Bx.mk hK
      have HKR := bk.Bx.mk hK
      obtain ⟨x0, x1, x2, x3, x4, x5, x6, x7, x8, x9, x10, x11, x12, x13, x14, x15⟩ := c16_of hcf.b
      clear hK hks hnd hall hcf HC
      go_wp2_with fail
      refine KR.out.mono ?_
      rintro e w5 ⟨rfl, hp5⟩
      have HCF5 := bk.Bx.mk (HCF.out.keep hp5.same)
      have hri : (List.range n)[i]? = some i := List.getElem?_range hin
      have hT := ks_tells hp5.ks h16 hri
      clear x0 x1 x2 x3 x4 x5 x6 x7 x8 x9 x10 x11 x12 x13 x14 x15
      -- what is told of it, by name
      obtain ⟨wx, hwx⟩ : ∃ z : Nat, (rec i).wi = z := ⟨_, rfl⟩
      obtain ⟨bop, hbop⟩ : ∃ z : Bool, (rec i).br.op = z := ⟨_, rfl⟩
      obtain ⟨bsi, hbsi⟩ : ∃ z : Int, (rec i).br.si = z := ⟨_, rfl⟩
      obtain ⟨bsp, hbsp⟩ : ∃ z : Int, (rec i).br.sp = z := ⟨_, rfl⟩
      obtain ⟨btr, hbtr⟩ : ∃ z : Bool, (rec i).br.tr = z := ⟨_, rfl⟩
      rw [hwx, hbop, hbsi, hbsp, hbtr] at hT
      have HREC := bk.Bx.mk (And.intro hwx (And.intro hbop (And.intro hbsi (And.intro hbsp hbtr))))
      clear hwx hbop hbsi hbsp hbtr
      have KT := bk.Bx.mk hT
      clear hT hp5 KR HCF
      go_wp2_with fail
      refine KT.out.mono ?_
      rintro e w6 ⟨rfl, hp6⟩
      have hb6 : Below w6.heap.size w6 (w6.alloc (.cells #[.bool bop, .int .i64 bsi, .int .i64 bsp, .bool btr] 43)) := (Below.refl _ w6).alloc (Nat.le_refl _) _
      have hcf6 := (HCF5.out.keep hp6.same).keep (fun g hg => hb6.block g (hp6.ks.lt g hg))
      have hks7 : KS w (PQ4 P w6.heap.size) r q n rec (List.range n) (n : Int) (w6.alloc (.cells #[.bool bop, .int .i64 bsi, .int .i64 bsp, .bool btr] 43)) := hp6.ks.more (Keep.of_below hb6 P) (fun g hg => by
        rcases hg with h | h
        · exact ⟨.inl h, by have := hp6.ks.lt g h; simp; omega⟩
        · subst h; exact ⟨.inr (Nat.le_refl _), by simp⟩) (hp6.ks.keep.trans (hb6.mono hp6.ks.keep.size))
      have hl1 := Lies.new w6 43 #[.bool bop, .int .i64 bsi, .int .i64 bsp, .bool btr]
      have KR := bk.Bx.mk (ks_reload (c := ct) hks7 h16 (by omega) (by omega) (turn_nodup (n := n) (f := f)) (fun m hm => List.mem_range.2 (turn_lt (by omega) m hm)) (turn_len n f) (hcf6.pt.weak fun k hk => .inl hk))
      have HCF6 := bk.Bx.mk hcf6
      have HL1 := bk.Bx.mk hl1
      obtain ⟨y0, y1, y2, y3, y4, y5, y6, y7, y8, y9, y10, y11, y12, y13, y14, y15⟩ := c16_of hcf6.t
      generalize hb1 : w6.heap.size = b1 at *
      clear hp6 hb6 hcf6 hks7 hl1 KT HCF5
      go_wp2_with fail
      refine KR.out.mono ?_
      rintro e w8 ⟨rfl, hp8⟩
      have HCF8 := bk.Bx.mk (HCF6.out.keep fun g hg => hp8.same g (.inl hg))
      have HL8 := bk.Bx.mk (HL1.out.of_same (hp8.same b1 (.inr rfl)))
      obtain ⟨k, hk⟩ : ∃ k : Nat, (i + n - f) % n = k := ⟨_, rfl⟩
      have hkn : k < n := by rw [← hk]; exact Nat.mod_lt _ (by omega)
      have htk : (turnOf n f)[k]? = some i := by rw [← hk]; exact turn_at hin hfn
      have hkz : ((i : Int) - (f : Int) + (n : Int)) % (n : Int) = (k : Int) := by
        rw [show (i : Int) - (f : Int) + (n : Int) = ((i + n - f : Nat) : Int) by omega, ← hk, Int.natCast_emod]
      have hT := fun W (h : KS w (PQ4 P b1) r q n rec (turnOf n f) (n : Int) W) => ks_tells h h16 htk
      obtain ⟨e1, e2, e3, e4, e5⟩ := HREC.out
      rw [e1, e2, e3, e4, e5] at hT
      have KT := bk.Bx.mk hT
      have KY := bk.Bx.mk (fun W (h : KS w (PQ4 P b1) r q n rec (turnOf n f) (n : Int) W) => ks_key h h16 HK.out htk)
      have KP_ := bk.Bx.mk (fun W (h : KS w (PQ4 P b1) r q n rec (turnOf n f) (n : Int) W) => ks_place h h16 HK.out htk)
      have HP8 := bk.Bx.mk hp8.ks
      clear hT e1 e2 e3 e4 e5 HREC hk htk hp8 KR HCF6 HL1 HK
      clear y0 y1 y2 y3 y4 y5 y6 y7 y8 y9 y10 y11 y12 y13 y14 y15
      have hd0 : (0 : Int) ≤ (i : Int) - (f : Int) + (n : Int) := by omega
      have hd1 : (i : Int) - (f : Int) + (n : Int) ≤ 100 := by omega
      have hd2 : (-100 : Int) ≤ (i : Int) - (f : Int) := by omega
      have hd3 : (i : Int) - (f : Int) ≤ 100 := by omega
      have hnN : ¬ n = 0 := by omega
      go_wp2_with fail
      refine (KT.out _ HP8.out).mono ?_
      rintro e w9 ⟨rfl, hp9⟩
      have hb9 : Below w9.heap.size w9 (w9.alloc (.cells #[.bool bop, .int .i64 bsi, .int .i64 bsp, .bool btr] 43)) := (Below.refl _ w9).alloc (Nat.le_refl _) _
      have hq9 := hp9.ks.below hb9
      have HCF9 := bk.Bx.mk ((HCF8.out.keep fun g hg => hp9.same g (.inl hg)).keep fun g hg => hq9.same g (.inl hg))
      have hl9 := (HL8.out.of_same (hp9.same b1 (.inr rfl))).below hb9 (hp9.ks.lt b1 (.inr rfl))
      have m0 := hl9.cell 0
      have m1 := hl9.cell 1
      have m2 := hl9.cell 2
      have m3 := hl9.cell 3
      have mlt := hp9.ks.lt b1 (.inr rfl)
      simp at m0 m1 m2 m3
      have HP10 := bk.Bx.mk hq9.ks
      clear hb9 hq9 hl9 hp9 HP8 HCF8 HL8 KT
      go_wp2_with fail
      refine (KY.out _ HP10.out).mono ?_
      rintro e w10 ⟨rfl, hw10⟩
      subst hw10
      have hiw : IntKind.i64.wrap ((i : Int) + 1) = (i : Int) + 1 := IntWalk.i64_in _ (by omega)
      go_wp2_with fail
      refine (KP_.out _ HP10.out).mono ?_
      rintro e w11 ⟨rfl, hp11⟩
      have HC11 : bk.Bx (C3 w P B Bt Bl A At Al c ct cl r q n f a ml w11) := ⟨⟨⟨rec, turnOf n f, HKR.out, hp11.ks.more (Keep.refl _ _ _) (fun g hg => ⟨.inl (.inl hg), hp11.ks.lt g (.inl hg)⟩) hp11.ks.keep, turn_nodup, fun m hm => by
        have hmm := turn_at (f := f) hm hfn
        exact List.mem_of_getElem? hmm⟩, HCF9.out.keep fun g hg => hp11.same g (.inl hg)⟩⟩
      clear hp11 HP10 HCF9 KY KP_ m0 m1 m2 m3 hiw
      go_wp2_with fail
      go_roundw
      case rel => exact ⟨i + 1, by omega, by go_num, HC11⟩
      case measure => simp [intOf]; omega
    · obtain rfl : i = n := by omega
      go_upto_region 35 with fail
      exact kept_exit35 (by assumption) (by assumption) HC h2 h16 han
end Go.Proofs.Ytpidjekabnnmcaa.hp
