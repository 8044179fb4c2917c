/-
  Given for the seat's laws: the walk of the law BreakerOne. No condition but those of the theorems.
-/
import Derived.Test.YtcnlcjlipbpjoaaBOneOut
import Derived.Test.YtcnlcjlipbpjoaaBArm0
import Derived.Test.YtcnlcjlipbpjoaaBArm1
import Derived.Test.YtcnlcjlipbpjoaaBArm2
import Derived.Test.YtcnlcjlipbpjoaaBArm3
import Derived.Test.YtcnlcjlipbpjoaaBArm4
import Derived.Test.YtcnlcjlipbpjoaaBArm5
namespace Go.Proofs.Ytcnlcjlipbpjoaa.bk
open Go.RowKit mem
open Go.Sort (grow)
set_option linter.unusedVariables false

set_option maxRecDepth 100000 in
set_option maxHeartbeats 24000000 in
theorem one_in {c : Int} {A : Option Addr} {n q : Nat} {l : List Ac} {w : World} (hl : l.length = n) (ha : ActsAt w A l) (ho : ActsOk l) (h1 : 1 ≤ c) (h2 : c ≤ 1000) (h3 : n ≤ 200) : Calls Try.prog 5 #[.int .i64 c, .slice A n q] w (True_ w) := by
  have HA := Bx.mk (awake_any w)
  have HAT := Bx.mk ha
  have HOK := Bx.mk ho
  have HLV := Bx.mk hl
  have HCK := Bx.mk (ck_ok h1 h2)
  have h4 : (n : Int) ≤ 200 := by omega
  have hmix : Try.prog.follows .mixedOrders = true := by kernel_rfl
  unfold True_
  clear ha ho hl
  go_enter Try.func5, Try.ntmps5
  go_wp2_with fail
  refine HA.out.mono ?_
  rintro e w1 ⟨rfl, hg⟩
  have HP0 : Bx (Pl w w1.heap.size zb (w1.alloc (.cells #[.bool false, .int .i64 0, .int .i64 0, .bool false] 23))) := ⟨⟨lays_newz w1, hg.alloc _, rfl⟩⟩
  have HG5 := Bx.mk hg.size
  clear hg HA
  go_wp2_with fail
  generalize w1.alloc (.cells #[.bool false, .int .i64 0, .int .i64 0, .bool false] 23) = W0 at *
  generalize w1.heap.size = g5 at *
  go_loopg [6, 7, 8] n (fun g s6 s7 s8 wr => ∃ (i : Nat) (b : Bk) (nw : Int), i ≤ n ∧ g = n - i ∧ 0 ≤ nw ∧ nw ≤ 65535 * (i : Int) ∧ s6 = .int .i64 nw ∧ s7 = .bool b.tr ∧ s8 = .int .i64 (i : Int) ∧ Bx (Pl w g5 b wr))
  case atStart => exact ⟨0, zb, 0, by omega, by omega, by omega, by omega, rfl, rfl, rfl, HP0⟩
  case round =>
    clear HP0
    obtain ⟨i, b, now, hi, rfl, hn0, hn1, rfl, rfl, rfl, HP⟩ := hrel
    by_cases hlt : i < n
    · obtain ⟨x, hx⟩ : ∃ x, l[i]? = some x := ⟨_, List.getElem?_eq_getElem (by rw [HLV.out]; exact hlt)⟩
      obtain ⟨ga, off, rfl, k0, k1, k2⟩ := (HAT.out.grew HP.out.gr).at_ i x hx
      obtain ⟨hk0, hk1⟩ := HOK.out.ok x (List.mem_of_getElem? hx)
      obtain ⟨kdn, tkn, tr⟩ := x
      dsimp only at k0 k1 k2 hk0 hk1
      obtain ⟨kd, hkd⟩ : ∃ z : Int, z = (kdn : Int) := ⟨_, rfl⟩
      obtain ⟨tz, htz⟩ : ∃ z : Int, z = (tkn : Int) := ⟨_, rfl⟩
      rw [← hkd] at k0
      rw [← htz] at k1
      have kd0 : 0 ≤ kd := by omega
      have kd1 : kd ≤ 255 := by omega
      have hw1 : IntKind.i64.wrap tz = tz := by rw [IntKind.wrap_i64]; omega
      have hw2 : IntKind.i64.wrap (now + tz) = now + tz := by rw [IntKind.wrap_i64]; omega
      have hm0 : 0 ≤ now + tz := by omega
      have hm1 : now + tz ≤ 65535 * ((i : Int) + 1) := by omega
      have i0 : (0 : Int) ≤ (i : Int) := by omega
      have i1 : (i : Int) < (n : Int) := by omega
      clear hkd htz hk0 hk1 hx hn0 hn1 HAT HOK HLV
      go_upto_block 2 with fail
      generalize now + tz = nw at *
      have HTK := Bx.mk (tk_ok hm0 (by omega))
      have HA := Bx.mk (laysC_new wr kd tz tr)
      have HX5 : Bx (g5 ≠ wr.heap.size) := ⟨HP.out.ly.ne.symm⟩
      replace HP := Bx.mk (HP.out.new (.cells #[.int .u8 kd, .int .u16 tz, .bool tr] 45))
      clear k0 k1 k2 hw1 hw2
      generalize wr.alloc (.cells #[.int .u8 kd, .int .u16 tz, .bool tr] 45) = W1 at *
      generalize wr.heap.size = X at *
      obtain ⟨p0, p2⟩ := HA.out
      go_cut [7, 10, 47] (fun s7 s10 s47 wx => ∃ b' : Bk, s7 = .bool b'.tr ∧ s10 = .int .i64 0 ∧ Bx (Pl w g5 b' wx))
      case first =>
        have hcase : kd % 6 = 0 ∨ kd % 6 = 1 ∨ kd % 6 = 2 ∨ kd % 6 = 3 ∨ kd % 6 = 4 ∨ kd % 6 = 5 := by omega
        rcases hcase with hq | hq | hq | hq | hq | hq
        · refine arm0 HP HG5 HTK HCK HA HX5 kd0 kd1 hq ?_
          intro b' wx v7 v10 v11 v12 v13 v14 v15 v47 v48 v49 v50 v51 v52 v53 v54 v55 v56 v57 v58 v59 v60 v61 v62 v63 v64 v65 v66 v67 v68 v69 v70 v71 v72 v73 v74 v75 v76 v77 v78 v79 v80 v81 v82 v83 v84 v85 v86 v87 v88 v89 v90 v91 v92 v93 v94 v95 v96 v97 v98 v99 v100 v101 v102 v103 v104 v105 v106 v107 v108 v109 v110 v111 v112 v113 v114 v115 v116 v117 v118 v119 v120 v121 v122 v123 v124 v125 v126 v127 v128 v129 v130 v131 v132 v133 v134 v135 v136 v137 v138 v139 v140 v141 v142 v143 v144 v145 v146 v147 v148 v149 v150 v151 v152 v153 v154 v155 v156 v157 v158 v159 v160 v161 v162 e7 e10 hp
          subst e7
          subst e10
          go_step
          go_meet
          exact ⟨b', rfl, rfl, hp⟩
        · refine arm1 HP HG5 HTK HCK HA HX5 kd0 kd1 hq ?_
          intro b' wx v7 v10 v11 v12 v13 v14 v15 v47 v48 v49 v50 v51 v52 v53 v54 v55 v56 v57 v58 v59 v60 v61 v62 v63 v64 v65 v66 v67 v68 v69 v70 v71 v72 v73 v74 v75 v76 v77 v78 v79 v80 v81 v82 v83 v84 v85 v86 v87 v88 v89 v90 v91 v92 v93 v94 v95 v96 v97 v98 v99 v100 v101 v102 v103 v104 v105 v106 v107 v108 v109 v110 v111 v112 v113 v114 v115 v116 v117 v118 v119 v120 v121 v122 v123 v124 v125 v126 v127 v128 v129 v130 v131 v132 v133 v134 v135 v136 v137 v138 v139 v140 v141 v142 v143 v144 v145 v146 v147 v148 v149 v150 v151 v152 v153 v154 v155 v156 v157 v158 v159 v160 v161 v162 e7 e10 hp
          subst e7
          subst e10
          go_step
          go_meet
          exact ⟨b', rfl, rfl, hp⟩
        · refine arm2 HP HG5 HTK HCK HA HX5 kd0 kd1 hq ?_
          intro b' wx v7 v10 v11 v12 v13 v14 v15 v47 v48 v49 v50 v51 v52 v53 v54 v55 v56 v57 v58 v59 v60 v61 v62 v63 v64 v65 v66 v67 v68 v69 v70 v71 v72 v73 v74 v75 v76 v77 v78 v79 v80 v81 v82 v83 v84 v85 v86 v87 v88 v89 v90 v91 v92 v93 v94 v95 v96 v97 v98 v99 v100 v101 v102 v103 v104 v105 v106 v107 v108 v109 v110 v111 v112 v113 v114 v115 v116 v117 v118 v119 v120 v121 v122 v123 v124 v125 v126 v127 v128 v129 v130 v131 v132 v133 v134 v135 v136 v137 v138 v139 v140 v141 v142 v143 v144 v145 v146 v147 v148 v149 v150 v151 v152 v153 v154 v155 v156 v157 v158 v159 v160 v161 v162 e7 e10 hp
          subst e7
          subst e10
          go_step
          go_meet
          exact ⟨b', rfl, rfl, hp⟩
        · refine arm3 HP HG5 HTK HCK HA HX5 kd0 kd1 hq ?_
          intro b' wx v7 v10 v11 v12 v13 v14 v15 v47 v48 v49 v50 v51 v52 v53 v54 v55 v56 v57 v58 v59 v60 v61 v62 v63 v64 v65 v66 v67 v68 v69 v70 v71 v72 v73 v74 v75 v76 v77 v78 v79 v80 v81 v82 v83 v84 v85 v86 v87 v88 v89 v90 v91 v92 v93 v94 v95 v96 v97 v98 v99 v100 v101 v102 v103 v104 v105 v106 v107 v108 v109 v110 v111 v112 v113 v114 v115 v116 v117 v118 v119 v120 v121 v122 v123 v124 v125 v126 v127 v128 v129 v130 v131 v132 v133 v134 v135 v136 v137 v138 v139 v140 v141 v142 v143 v144 v145 v146 v147 v148 v149 v150 v151 v152 v153 v154 v155 v156 v157 v158 v159 v160 v161 v162 e7 e10 hp
          subst e7
          subst e10
          go_step
          go_meet
          exact ⟨b', rfl, rfl, hp⟩
        · refine arm4 HP HG5 HTK HCK HA HX5 kd0 kd1 hq ?_
          intro b' wx v7 v10 v11 v12 v13 v14 v15 v47 v48 v49 v50 v51 v52 v53 v54 v55 v56 v57 v58 v59 v60 v61 v62 v63 v64 v65 v66 v67 v68 v69 v70 v71 v72 v73 v74 v75 v76 v77 v78 v79 v80 v81 v82 v83 v84 v85 v86 v87 v88 v89 v90 v91 v92 v93 v94 v95 v96 v97 v98 v99 v100 v101 v102 v103 v104 v105 v106 v107 v108 v109 v110 v111 v112 v113 v114 v115 v116 v117 v118 v119 v120 v121 v122 v123 v124 v125 v126 v127 v128 v129 v130 v131 v132 v133 v134 v135 v136 v137 v138 v139 v140 v141 v142 v143 v144 v145 v146 v147 v148 v149 v150 v151 v152 v153 v154 v155 v156 v157 v158 v159 v160 v161 v162 e7 e10 hp
          subst e7
          subst e10
          go_step
          go_meet
          exact ⟨b', rfl, rfl, hp⟩
        · refine arm5 HP HG5 HTK HCK HA HX5 kd0 kd1 hq ?_
          intro b' wx v7 v10 v11 v12 v13 v14 v15 v47 v48 v49 v50 v51 v52 v53 v54 v55 v56 v57 v58 v59 v60 v61 v62 v63 v64 v65 v66 v67 v68 v69 v70 v71 v72 v73 v74 v75 v76 v77 v78 v79 v80 v81 v82 v83 v84 v85 v86 v87 v88 v89 v90 v91 v92 v93 v94 v95 v96 v97 v98 v99 v100 v101 v102 v103 v104 v105 v106 v107 v108 v109 v110 v111 v112 v113 v114 v115 v116 v117 v118 v119 v120 v121 v122 v123 v124 v125 v126 v127 v128 v129 v130 v131 v132 v133 v134 v135 v136 v137 v138 v139 v140 v141 v142 v143 v144 v145 v146 v147 v148 v149 v150 v151 v152 v153 v154 v155 v156 v157 v158 v159 v160 v161 v162 e7 e10 hp
          subst e7
          subst e10
          go_step
          go_meet
          exact ⟨b', rfl, rfl, hp⟩
      case rest =>
        obtain ⟨b, rfl, rfl, HP⟩ := hcut
        obtain ⟨c0, c1, c2, c3, f0⟩ := HP.out.ly
        have HS := Bx.mk (fun wx => (state_any b nw wx))
        have HL := Bx.mk (fun wx => (lets_any b nw wx))
        have HM := Bx.mk (fun wx => (may_any b wx))
        unfold Gv at HS HL HM
        rw [HP.out.my] at HM
        rcases tail_case (b := b) nw with ⟨h1, h2⟩ | ⟨h1, h2⟩ | ⟨h1, h2⟩
        · rw [h1] at HS
          rw [h2] at HL
          clear h1 h2
          go_wp2_with fail
          refine (HS.out _).mono ?_
          rintro e w2 ⟨rfl, hg⟩
          have HP2 := Bx.mk (HP.out.grew hg)
          clear c0 c1 c2 c3 f0 hg HS HP
          obtain ⟨c0, c1, c2, c3, f0⟩ := HP2.out.ly
          go_wp2_with fail
          refine (HM.out _).mono ?_
          rintro e w3 ⟨rfl, hg⟩
          have HP3 := Bx.mk (HP2.out.grew hg)
          clear c0 c1 c2 c3 f0 hg HM HP2
          obtain ⟨c0, c1, c2, c3, f0⟩ := HP3.out.ly
          go_wp2_with fail
          refine (HL.out _).mono ?_
          rintro e w4 ⟨rfl, hg⟩
          have HP4 := Bx.mk (HP3.out.grew hg)
          clear c0 c1 c2 c3 f0 hg HL HP3
          obtain ⟨c0, c1, c2, c3, f0⟩ := HP4.out.ly
          go_wp2_with fail
          go_roundg (n - (i + 1))
          case measure => omega
          case rel => exact ⟨i + 1, b, nw, by omega, rfl, by omega, by omega, rfl, rfl, by go_num, HP4⟩
        · rw [h1] at HS
          rw [h2] at HL
          clear h1 h2
          go_wp2_with fail
          refine (HS.out _).mono ?_
          rintro e w2 ⟨rfl, hg⟩
          have HP2 := Bx.mk (HP.out.grew hg)
          clear c0 c1 c2 c3 f0 hg HS HP
          obtain ⟨c0, c1, c2, c3, f0⟩ := HP2.out.ly
          go_wp2_with fail
          refine (HM.out _).mono ?_
          rintro e w3 ⟨rfl, hg⟩
          have HP3 := Bx.mk (HP2.out.grew hg)
          clear c0 c1 c2 c3 f0 hg HM HP2
          obtain ⟨c0, c1, c2, c3, f0⟩ := HP3.out.ly
          go_wp2_with fail
          refine (HL.out _).mono ?_
          rintro e w4 ⟨rfl, hg⟩
          have HP4 := Bx.mk (HP3.out.grew hg)
          clear c0 c1 c2 c3 f0 hg HL HP3
          obtain ⟨c0, c1, c2, c3, f0⟩ := HP4.out.ly
          go_wp2_with fail
          go_roundg (n - (i + 1))
          case measure => omega
          case rel => exact ⟨i + 1, b, nw, by omega, rfl, by omega, by omega, rfl, rfl, by go_num, HP4⟩
        · rw [h1] at HS
          rw [h2] at HL
          clear h1 h2
          go_wp2_with fail
          refine (HS.out _).mono ?_
          rintro e w2 ⟨rfl, hg⟩
          have HP2 := Bx.mk (HP.out.grew hg)
          clear c0 c1 c2 c3 f0 hg HS HP
          obtain ⟨c0, c1, c2, c3, f0⟩ := HP2.out.ly
          go_wp2_with fail
          refine (HM.out _).mono ?_
          rintro e w3 ⟨rfl, hg⟩
          have HP3 := Bx.mk (HP2.out.grew hg)
          clear c0 c1 c2 c3 f0 hg HM HP2
          obtain ⟨c0, c1, c2, c3, f0⟩ := HP3.out.ly
          go_wp2_with fail
          refine (HL.out _).mono ?_
          rintro e w4 ⟨rfl, hg⟩
          have HP4 := Bx.mk (HP3.out.grew hg)
          clear c0 c1 c2 c3 f0 hg HL HP3
          obtain ⟨c0, c1, c2, c3, f0⟩ := HP4.out.ly
          go_wp2_with fail
          go_roundg (n - (i + 1))
          case measure => omega
          case rel => exact ⟨i + 1, b, nw, by omega, rfl, by omega, by omega, rfl, rfl, by go_num, HP4⟩
    · obtain rfl : i = n := by omega
      go_wp2_with fail
      go_ret
      exact ⟨rfl, HP.out.gr.below⟩

theorem one_any {c : Int} {A : Option Addr} {q : Nat} {l : List Ac} {w : World} (hw : (Lit.int .i64 c).wf = true) (ha : ActsAt w A l) (ho : ActsOk l) : Calls Try.prog 5 #[.int .i64 c, .slice A l.length q] w (True_ w) := by
  by_cases h : c < 1 ∨ 1000 < c ∨ 200 < l.length
  · exact one_out c A l.length q w h
  · exact one_in rfl ha ho (by omega) (by omega) (by omega)
end Go.Proofs.Ytcnlcjlipbpjoaa.bk
