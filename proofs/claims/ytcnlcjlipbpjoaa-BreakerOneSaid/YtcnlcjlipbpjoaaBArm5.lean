/-
  Given for the seat's laws: the switch of the law BreakerOne at an act of kind 5. No condition but those of the theorem.
-/
import Derived.Test.YtcnlcjlipbpjoaaBSw
namespace Go.Proofs.Ytcnlcjlipbpjoaa.bk
open Go.RowKit mem
open Go.Sort (grow)
set_option linter.unusedVariables false

set_option maxRecDepth 100000 in
set_option maxHeartbeats 8000000 in
theorem arm5 {c kd nw : Int} {w W1 : World} {g5 X : Nat} {b : Bk} {tr : Bool} {t1 t2 t3 t4 t8 t11 t12 t13 t14 t15 t16 t17 t18 t19 t20 t21 t22 t23 t24 t25 t26 t27 t28 t29 t30 t31 t32 t33 t34 t35 t36 t37 t38 t39 t40 t41 t42 t43 t44 t45 t46 t48 t49 t50 t51 t52 t53 t54 t55 t56 t57 t58 t59 t60 t61 t62 t63 t64 t65 t66 t67 t68 t69 t70 t71 t72 t73 t74 t75 t76 t77 t78 t79 t80 t81 t82 t83 t84 t85 t86 t87 t88 t89 t90 t91 t92 t93 t94 t95 t96 t97 t98 t99 t100 t101 t102 t103 t104 t105 t106 t107 t108 t109 t110 t111 t112 t113 t114 t115 t116 t117 t118 t119 t120 t121 t122 t123 t124 t125 t126 t127 t128 t129 t130 t131 t132 t133 t134 t135 t136 t137 t138 t139 t140 t141 t142 t143 t144 t145 t146 t147 t148 t149 t150 t151 t152 t153 t154 t155 t156 t157 t158 t159 t160 t161 t162 t163 t164 t165 t166 t167 t168 t169 t170 t171 t172 t173 t174 t175 t176 t177 t178 t179 t180 t181 t182 t183 t184 t185 t186 t187 t188 t189 t190 t191 t192 t193 t194 t195 t196 t197 t198 t199 t200 t201 t202 t203 t204 t205 t206 t207 t208 : Value} (HP : Bx (Pl w g5 b W1)) (HG5 : Bx (w.heap.size ≤ g5)) (HTK : Bx (tk nw = true)) (HCK : Bx (ck c = true)) (HA : Bx (LaysC W1 X kd tr)) (HX5 : Bx (g5 ≠ X)) (kd0 : 0 ≤ kd) (kd1 : kd ≤ 255) (hq : kd % 6 = 5) {Q' : Exit → Act → World → Prop} {K' : Act → World → Prop}
    (hK : ∀ (b' : Bk) (wx : World) (v7 v10 v11 v12 v13 v14 v15 v47 v48 v49 v50 v51 v52 v53 v54 v55 v56 v57 v58 v59 v60 v61 v62 v63 v64 v65 v66 v67 v68 v69 v70 v71 v72 v73 v74 v75 v76 v77 v78 v79 v80 v81 v82 v83 v84 v85 v86 v87 v88 v89 v90 v91 v92 v93 v94 v95 v96 v97 v98 v99 v100 v101 v102 v103 v104 v105 v106 v107 v108 v109 v110 v111 v112 v113 v114 v115 v116 v117 v118 v119 v120 v121 v122 v123 v124 v125 v126 v127 v128 v129 v130 v131 v132 v133 v134 v135 v136 v137 v138 v139 v140 v141 v142 v143 v144 v145 v146 v147 v148 v149 v150 v151 v152 v153 v154 v155 v156 v157 v158 v159 v160 v161 v162 : Value), v7 = .bool b'.tr → v10 = .int .i64 0 → Bx (Pl w g5 b' wx) → K' ⟨#[.int .i64 c, t1, t2, t3, t4, .pointer (some ⟨g5, 0, none⟩), .int .i64 nw, v7, t8, .pointer (some ⟨X, 0, none⟩), v10, v11, v12, v13, v14, v15, t16, t17, t18, t19, t20, t21, t22, t23, t24, t25, t26, t27, t28, t29, t30, t31, t32, t33, t34, t35, t36, t37, t38, t39, t40, t41, t42, t43, t44, t45, t46, v47, v48, v49, v50, v51, v52, v53, v54, v55, v56, v57, v58, v59, v60, v61, v62, v63, v64, v65, v66, v67, v68, v69, v70, v71, v72, v73, v74, v75, v76, v77, v78, v79, v80, v81, v82, v83, v84, v85, v86, v87, v88, v89, v90, v91, v92, v93, v94, v95, v96, v97, v98, v99, v100, v101, v102, v103, v104, v105, v106, v107, v108, v109, v110, v111, v112, v113, v114, v115, v116, v117, v118, v119, v120, v121, v122, v123, v124, v125, v126, v127, v128, v129, v130, v131, v132, v133, v134, v135, v136, v137, v138, v139, v140, v141, v142, v143, v144, v145, v146, v147, v148, v149, v150, v151, v152, v153, v154, v155, v156, v157, v158, v159, v160, v161, v162, t163, t164, t165, t166, t167, t168, t169, t170, t171, t172, t173, t174, t175, t176, t177, t178, t179, t180, t181, t182, t183, t184, t185, t186, t187, t188, t189, t190, t191, t192, t193, t194, t195, t196, t197, t198, t199, t200, t201, t202, t203, t204, t205, t206, t207, t208], []⟩ wx) :
    Code.wp Try.prog blk (Exit.then K' Q') ⟨#[.int .i64 c, t1, t2, t3, t4, .pointer (some ⟨g5, 0, none⟩), .int .i64 nw, .bool b.tr, t8, .pointer (some ⟨X, 0, none⟩), .int .i64 0, t11, t12, t13, t14, t15, t16, t17, t18, t19, t20, t21, t22, t23, t24, t25, t26, t27, t28, t29, t30, t31, t32, t33, t34, t35, t36, t37, t38, t39, t40, t41, t42, t43, t44, t45, t46, .int .u8 (kd % 6), t48, t49, t50, t51, t52, t53, t54, t55, t56, t57, t58, t59, t60, t61, t62, t63, t64, t65, t66, t67, t68, t69, t70, t71, t72, t73, t74, t75, t76, t77, t78, t79, t80, t81, t82, t83, t84, t85, t86, t87, t88, t89, t90, t91, t92, t93, t94, t95, t96, t97, t98, t99, t100, t101, t102, t103, t104, t105, t106, t107, t108, t109, t110, t111, t112, t113, t114, t115, t116, t117, t118, t119, t120, t121, t122, t123, t124, t125, t126, t127, t128, t129, t130, t131, t132, t133, t134, t135, t136, t137, t138, t139, t140, t141, t142, t143, t144, t145, t146, t147, t148, t149, t150, t151, t152, t153, t154, t155, t156, t157, t158, t159, t160, t161, t162, t163, t164, t165, t166, t167, t168, t169, t170, t171, t172, t173, t174, t175, t176, t177, t178, t179, t180, t181, t182, t183, t184, t185, t186, t187, t188, t189, t190, t191, t192, t193, t194, t195, t196, t197, t198, t199, t200, t201, t202, t203, t204, t205, t206, t207, t208], []⟩ W1 := by
  have hmix : Try.prog.follows .mixedOrders = true := by kernel_rfl
  change Code.wp _ (Code.block 2 _) _ _ _
  obtain ⟨p0, p2⟩ := HA.out
  obtain ⟨c0, c1, c2, c3, f0⟩ := HP.out.ly
  have q0 := fun o => (HP.out.new o).ly.c0
  have q1 := fun o => (HP.out.new o).ly.c1
  have q2 := fun o => (HP.out.new o).ly.c2
  have q3 := fun o => (HP.out.new o).ly.c3
  have HT := Bx.mk (fun wx => (good_any b false wx))
  rw [good_false] at HT
  unfold Gv at HT
  go_wp2_with fail
  refine (HT.out _).mono ?_
  rintro e w2 ⟨rfl, hg⟩
  have HP2 := Bx.mk ((HP.out.new _).grew hg)
  have HN := Bx.mk ((lays_box W1 b).grew hg)
  have hne : W1.heap.size ≠ g5 := HP.out.ly.ne
  have HN2 := Bx.mk ((HN.out).far hne.symm b)
  clear c0 c1 c2 c3 f0 q0 q1 q2 q3 hg HT HP hne
  obtain ⟨c0, c1, c2, c3, f0⟩ := HP2.out.ly
  obtain ⟨d0, d1, d2, d3, g0⟩ := HN2.out
  go_wp2_with fail
  exact hK b _ _ _ _ _ _ _ _ _ _ _ _ _ _ _ _ _ _ _ _ _ _ _ _ _ _ _ _ _ _ _ _ _ _ _ _ _ _ _ _ _ _ _ _ _ _ _ _ _ _ _ _ _ _ _ _ _ _ _ _ _ _ _ _ _ _ _ _ _ _ _ _ _ _ _ _ _ _ _ _ _ _ _ _ _ _ _ _ _ _ _ _ _ _ _ _ _ _ _ _ _ _ _ _ _ _ _ _ _ _ _ _ _ _ _ _ _ _ _ _ _ _ _ _ (rfl) rfl ⟨HP2.out.set HG5.out HP2.out.my⟩
end Go.Proofs.Ytcnlcjlipbpjoaa.bk
