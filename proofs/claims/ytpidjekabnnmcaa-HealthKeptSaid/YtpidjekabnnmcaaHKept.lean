/-
  Given for 'Rows.HealthKeptSaid': the law's walk. No condition but those of the theorems.
-/
import Derived.Test.YtpidjekabnnmcaaHKeptB
import Derived.Test.YtpidjekabnnmcaaQIn
namespace Go.Proofs.Ytpidjekabnnmcaa.hp
open Go.RowKit mem find pb
set_option linter.unusedVariables false

/-- 'of' as the law uses it -/
theorem of_lit (n : Nat) (w : World) (hn : n ≤ 16) (h0 : 0 < n) : Calls Try.prog 21 #[.int .i64 (n : Int), .int .i64 2, .int .i64 5, .int .i64 3] w fun e w' => ∃ g off c, e = .returned (.agg (ccs 2 5 3 (.slice (some ⟨g, off, none⟩) n c))) ∧ n ≤ c ∧ w.heap.size ≤ g ∧ g < w'.heap.size ∧ PasAt w' (fun k => k = g) (some ⟨g, off, none⟩) (pasOf n) ∧ Below w.heap.size w w' := by
  refine (of_any2 n 2 5 3 w hn).mono ?_
  rintro e w' ⟨⟨A, c, he, hp, hcap⟩, hb⟩
  obtain ⟨g, off, hA, hg, hc⟩ := hp.ex (by rw [pasOf_len]; exact h0)
  subst hA
  refine ⟨g, off, c, ?_, hcap, hg.1, hg.2, ⟨fun _ => ⟨g, off, rfl, rfl, hc⟩⟩, hb⟩
  rw [he]
  show Ending.returned (.agg #[_, _, _, _, _, _, _, _, _, _, _, _, _, .slice _ (pasOf n).length c, _, _]) = _
  rw [pasOf_len]
  rfl

/-- the blocks of the first configuration -/
def P1 (B g : Nat) (k : Nat) : Prop := k = B ∨ k = g
/-- the first configuration, and a table of its own -/
structure K1 (w0 : World) (B g off c r q n : Nat) (w : World) : Prop where
  ks : ∃ rec, Keys n rec ∧ KS w0 (P1 B g) r q n rec (List.range n) (n : Int) w
  bc : Lies w B 29 (ccs 2 5 3 (.slice (some ⟨g, off, none⟩) n c))
  pas : PasAt w (fun k => k = g) (some ⟨g, off, none⟩) (pasOf n)
theorem K1.keep {w0 w w' : World} {B g off c r q n : Nat} (h : K1 w0 B g off c r q n w) {rec : Nat → RD} (hK : Keys n rec) (hp : KSP w0 (P1 B g) r q n rec (List.range n) (n : Int) w w') : K1 w0 B g off c r q n w' :=
  ⟨⟨rec, hK, hp.ks⟩, h.bc.of_same (hp.same _ (.inl rfl)), h.pas.keep fun k hk => hp.same _ (.inr hk)⟩
theorem k1_good {w0 w : World} {B g off c r q n : Nat} (h : K1 w0 B g off c r q n w) (hn : n ≤ 16) (key : Int) : Calls Try.prog 16 #[bp r, .int .i64 key, .bool false] w fun e w' => (∃ v, e = .returned (.int .i64 v)) ∧ K1 w0 B g off c r q n w' := by
  obtain ⟨rec, hK, hk⟩ := h.ks
  refine (ks_good hk hn hK key).mono ?_
  rintro e w' ⟨he, rec', hK', hp⟩
  exact ⟨he, h.keep hK' hp⟩
theorem k1_bad {w0 w : World} {B g off c r q n : Nat} (h : K1 w0 B g off c r q n w) (hn : n ≤ 16) (key : Int) : Calls Try.prog 17 #[bp r, .int .i64 key, .bool false] w fun e w' => (∃ v, e = .returned (.int .i64 v)) ∧ K1 w0 B g off c r q n w' := by
  obtain ⟨rec, hK, hk⟩ := h.ks
  refine (ks_bad hk hn hK key).mono ?_
  rintro e w' ⟨he, rec', hK', hp⟩
  exact ⟨he, h.keep hK' hp⟩
theorem K1.blw {w0 w : World} {B g off c r q n : Nat} (h : K1 w0 B g off c r q n w) : Below w0.heap.size w0 w := by obtain ⟨_, _, hk⟩ := h.ks; exact hk.keep

theorem K1.below {w0 w w' : World} {B g off c r q n : Nat} (h : K1 w0 B g off c r q n w) (hb : Below w.heap.size w w') : K1 w0 B g off c r q n w' := by
  obtain ⟨rec, hK, hk⟩ := h.ks
  exact h.keep hK (hk.below hb)
/-- while the turned one is made -/
structure TB (wT : World) (B g off c n f j : Nat) (wr : World) : Prop where
  bc : Lies wr B 29 (ccs 2 5 3 (.slice (some ⟨g, off, none⟩) n c))
  pas : PasAt wr (fun k => k = g) (some ⟨g, off, none⟩) (pasOf n)
  bt : ∃ A' c', Lies wr wT.heap.size 29 (ccs 2 5 3 (.slice A' j c')) ∧ OwnP wT wr A' c' (((turnOf n f).take j).map paOf)
  below : Below wT.heap.size wT wr
theorem turn_take {n f j : Nat} (hj : j < n) : ((turnOf n f).take (j + 1)).map paOf = ((turnOf n f).take j).map paOf ++ [paOf ((f + j) % n)] := by
  rw [List.take_add_one, turn_get hj]
  simp
theorem take_len {n f j : Nat} (hj : j ≤ n) : (((turnOf n f).take j).map paOf).length = j := by rw [List.length_map, List.length_take, turn_len]; omega
theorem pas_get {n i : Nat} (hi : i < n) : (pasOf n)[i]? = some (paOf i) := by simp [pasOf, List.getElem?_range hi]
/-- one more -/
theorem TB.push {wT wr : World} {B g off c n f j : Nat} (h : TB wT B g off c n f j wr) (hj : j < n) (hn : n ≤ 16) (hB : B < wT.heap.size) (hg : g < wT.heap.size) {A' : Option Addr} {c' : Nat} (hbt : Lies wr wT.heap.size 29 (ccs 2 5 3 (.slice A' j c'))) (ho : OwnP wT wr A' c' (((turnOf n f).take j).map paOf)) :
    ∃ A2 c2 W', (Builtin.append_ #[25, 25] 25 #[.slice A' j c', .slice (some ⟨wr.heap.size, 0, none⟩) 1 1]).run Try.prog (wr.drew.alloc (.cells #[.string (nmOf ((f + j) % n)), .int .u8 3, .string (nmOf ((f + j) % n)), .int .i64 1080, .int .u8 1, .string ⟨#[]⟩, .string ⟨#[]⟩, .int .i64 0] 71)) = .ok (.slice A2 (j + 1) c2) W' ∧
      Lies W' wT.heap.size 29 (ccs 2 5 3 (.slice A' j c')) ∧ Lies W' B 29 (ccs 2 5 3 (.slice (some ⟨g, off, none⟩) n c)) ∧ TB wT B g off c n f (j + 1) (W'.setCell ⟨wT.heap.size, 13, none⟩ (.slice A2 (j + 1) c2)) := by
  have hlen := take_len (n := n) (f := f) (j := j) (by omega)
  have hdr : Below wr.heap.size wr wr.drew := (Below.refl _ _).drew
  have hwd : wT.heap.size ≤ wr.drew.heap.size := h.below.size
  have ho2 : OwnP wT wr.drew A' c' (((turnOf n f).take j).map paOf) := pl.own_below ho hdr
  obtain ⟨A2, c2, W', hr, ho3, hgr⟩ := OwnP.push ho2 hwd (paOf ((f + j) % n)) (by rw [hlen]; omega)
  rw [hlen] at hr hgr
  have hal : Below wr.heap.size wr (wr.drew.alloc (.cells #[.string (nmOf ((f + j) % n)), .int .u8 3, .string (nmOf ((f + j) % n)), .int .i64 1080, .int .u8 1, .string ⟨#[]⟩, .string ⟨#[]⟩, .int .i64 0] 71)) := hdr.alloc hdr.size _
  have hown : ∀ g, (Value.slice A' j c').ownBlock = some g → wT.heap.size ≤ g ∧ ∃ cur, Lies wr.drew g 71 cur := fun g e0 => by
    obtain ⟨k1, cur, k2⟩ := pl.own_cell ho2 (by rw [hlen]; exact e0)
    exact ⟨k1, cur, k2⟩
  have far : ∀ (g : Nat) (t : TypeId) (cs : Array Value), Lies wr g t cs → t ≠ 71 → Lies W' g t cs := fun g t cs hl ht => (hl.below hal hl.lt).grown hgr (fun e0 => by
    obtain ⟨_, cur, hcur⟩ := hown g e0.symm
    exact ht ((hl.below hdr hl.lt).inj hcur).1)
  have h9 := far _ _ _ hbt (by decide)
  have hb9 : Keep wT.heap.size (fun _ => False) wT W' := ((Keep.of_below h.below (fun _ => False)).trans (Keep.of_below (hal.mono h.below.size) _)).grown hgr (by have := hal.size; have := h.below.size; omega) (fun g e0 => .inl (hown g e0).1)
  refine ⟨A2, c2, W', hr, h9, far _ _ _ h.bc (by decide), (far _ _ _ h.bc (by decide)).far (p := ⟨wT.heap.size, 13, none⟩) (by show B ≠ wT.heap.size; omega) _, ?_, ⟨A2, c2, h9.set 13 _, ?_⟩, ?_⟩
  · have hsame : W'.heap[g]? = wr.heap[g]? := ((hb9.block g hg (fun h => h)).trans (h.below.block g hg).symm)
    refine h.pas.keep fun k hk => ?_
    subst hk
    rw [Below.heap_setCell _ _ _ _ (by show k ≠ wT.heap.size; omega)]
    exact hsame
  · rw [turn_take hj]
    have ho4 : W'.ownsRow wT.heap.size 71 8 (.slice A2 (j + 1) c2) (j + 1) (flatP (((turnOf n f).take j).map paOf ++ [paOf ((f + j) % n)])) := by
      have e1 : (((turnOf n f).take j).map paOf ++ [paOf ((f + j) % n)]).length = j + 1 := by rw [List.length_append, hlen]; rfl
      unfold OwnP at ho3
      rw [e1] at ho3
      exact ho3
    have e1 : (((turnOf n f).take j).map paOf ++ [paOf ((f + j) % n)]).length = j + 1 := by rw [List.length_append, hlen]; rfl
    unfold OwnP
    rw [e1]
    refine wn.rown_same ho4 fun g e0 => Below.heap_setCell _ _ _ _ ?_
    show g ≠ wT.heap.size
    intro e2
    obtain ⟨_, cur, hcur⟩ := pl.own_cell ho4 e0
    rw [e2] at hcur
    exact absurd (h9.inj hcur).1 (by decide)
  · exact (hb9.setCell (p := ⟨wT.heap.size, 13, none⟩) (.inl (Nat.le_refl _)) _).below (Nat.le_refl _) (fun _ _ hf => hf)
/-- all three are made -/
theorem cfs_made {w wT wr : World} {B g off c r q n f a : Nat} (h1 : K1 w B g off c r q n wT) (h2 : TB wT B g off c n f n wr) {At : Option Addr} {ct : Nat} (hbt : Lies wr wT.heap.size 29 (ccs 2 5 3 (.slice At n ct))) (hot : OwnP wT wr At ct (((turnOf n f).take n).map paOf))
    (hn : n ≤ 16) (hn2 : 2 ≤ n) (hc : n ≤ c) (ha : a < n) (hB : B < wT.heap.size) (hg : g < wT.heap.size) :
    ∃ A1 c1 W1 A2 c2 W2, (Builtin.append_ #[25, 25] 25 #[.slice (some ⟨wr.heap.size + 1, 0, none⟩) 0 0, .slice (some ⟨g, off, none⟩) a c]).run Try.prog ((wr.alloc (.cells (ccs 2 5 3 (.slice (some ⟨g, off, none⟩) n c)) 29)).drew.alloc (.cells #[] 71)) = .ok (.slice A1 a c1) W1 ∧
      (Builtin.append_ #[25, 25] 25 #[.slice A1 a c1, .slice (some (cutP g off c (a + 1))) (n - (a + 1)) (c - (a + 1))]).run Try.prog W1 = .ok (.slice A2 (a + (n - (a + 1))) c2) W2 ∧
      Lies W1 B 29 (ccs 2 5 3 (.slice (some ⟨g, off, none⟩) n c)) ∧ Lies W2 wr.heap.size 29 (ccs 2 5 3 (.slice (some ⟨g, off, none⟩) n c)) ∧ Lies W2 B 29 (ccs 2 5 3 (.slice (some ⟨g, off, none⟩) n c)) ∧
      ∃ P3 rec, Keys n rec ∧ KS w P3 r q n rec (List.range n) (n : Int) (W2.setCell ⟨wr.heap.size, 13, none⟩ (.slice A2 (a + (n - (a + 1))) c2)) ∧ Cfs P3 B wT.heap.size wr.heap.size (some ⟨g, off, none⟩) At A2 c ct c2 n f a (a + (n - (a + 1))) (W2.setCell ⟨wr.heap.size, 13, none⟩ (.slice A2 (a + (n - (a + 1))) c2)) := by
  have hx : Below wr.heap.size wr (wr.alloc (.cells (ccs 2 5 3 (.slice (some ⟨g, off, none⟩) n c)) 29)).drew := ((Below.refl _ wr).alloc (Nat.le_refl _) _).drew
  have hsz : (wr.alloc (.cells (ccs 2 5 3 (.slice (some ⟨g, off, none⟩) n c)) 29)).drew.heap.size = wr.heap.size + 1 := by show (wr.alloc _).heap.size = _; rw [World.size_alloc]
  have hlx : Lies (wr.alloc (.cells (ccs 2 5 3 (.slice (some ⟨g, off, none⟩) n c)) 29)).drew wr.heap.size 29 (ccs 2 5 3 (.slice (some ⟨g, off, none⟩) n c)) := (Lies.new wr 29 _).drew
  generalize (wr.alloc (.cells (ccs 2 5 3 (.slice (some ⟨g, off, none⟩) n c)) 29)).drew = X at *
  have hTr := h2.below.size
  have hpX : PasAt X (fun k => k = g) (some ⟨g, off, none⟩) (pasOf n) := h2.pas.keep fun k hk => hx.block k (by omega)
  obtain ⟨A1, c1, W1, A2, c2, W2, hr1, hr2, ho, hb1, hb2⟩ := less_app hpX (by omega) ha hn hc
  rw [hsz] at hr1 ho hb1 hb2
  have lB1 := (h2.bc.below hx h2.bc.lt).below hb1 (by omega)
  have lB2 := (h2.bc.below hx h2.bc.lt).below hb2 (by omega)
  have lX2 := hlx.below hb2 (by omega)
  refine ⟨A1, c1, W1, A2, c2, W2, hr1, hr2, lB1, lX2, lB2, ?_⟩
  have hml : (lessOf n a).length = a + (n - (a + 1)) := by unfold lessOf; rw [List.length_eraseIdx, List.length_range, if_pos ha]; omega
  obtain ⟨rec, hK, hks⟩ := h1.ks
  have htl : ((turnOf n f).take n).map paOf = (turnOf n f).map paOf := by rw [List.take_of_length_le (by rw [turn_len]; omega)]
  rw [htl] at hot
  -- the row of the turned one
  have hpt := pas_of_own hot
  have hot2 := fun k (e0 : rowOf At = some k) => pl.own_cell hot (g := k) (by cases At with | none => simp [rowOf, Value.ownBlock] at e0 | some x => simpa [rowOf, Value.ownBlock] using e0)
  have hrw : ∀ k, k < wr.heap.size → (W2.setCell ⟨wr.heap.size, 13, none⟩ (.slice A2 (a + (n - (a + 1))) c2)).heap[k]? = wr.heap[k]? := fun k hk => by
    rw [Below.heap_setCell _ _ _ _ (by show k ≠ wr.heap.size; omega)]
    exact (hb2.block k (by omega)).trans (hx.block k hk)
  -- the row of the lesser one
  have ho2 : OwnP X W2 A2 c2 ((lessOf n a).map paOf) := by
    unfold OwnP
    rw [List.length_map, hml, hsz]
    exact ho
  have hpl := pas_of_own ho2
  have hol2 := fun k (e0 : rowOf A2 = some k) => pl.own_cell ho (g := k) (by cases A2 with | none => simp [rowOf, Value.ownBlock] at e0 | some x => simpa [rowOf, Value.ownBlock] using e0)
  have hsz2 := hb2.size
  have hPt : ∀ k, rowOf At = some k → wT.heap.size ≤ k ∧ k < wr.heap.size := fun k e0 => by
    obtain ⟨h3, cur, h4⟩ := hot2 k e0
    exact ⟨h3, (Array.getElem?_eq_some_iff.1 h4).1⟩
  have hPl : ∀ k, rowOf A2 = some k → wr.heap.size + 1 ≤ k ∧ k < W2.heap.size := fun k e0 => by
    obtain ⟨h3, cur, h4⟩ := hol2 k e0
    exact ⟨h3, (Array.getElem?_eq_some_iff.1 h4).1⟩
  refine ⟨fun k => P1 B g k ∨ k = wT.heap.size ∨ rowOf At = some k ∨ k = wr.heap.size ∨ rowOf A2 = some k, rec, hK, ?_, ?_⟩
  · have hbT : Below wT.heap.size wT W2 := (h2.below.trans (hx.mono hTr)).trans (hb2.mono (by omega))
    have hkT : Keep wT.heap.size (fun _ => False) wT (W2.setCell ⟨wr.heap.size, 13, none⟩ (.slice A2 (a + (n - (a + 1))) c2)) := (Keep.of_below hbT _).setCell (p := ⟨wr.heap.size, 13, none⟩) (.inl hTr) _
    have hszF : (W2.setCell ⟨wr.heap.size, 13, none⟩ (.slice A2 (a + (n - (a + 1))) c2)).heap.size = W2.heap.size := by simp [World.setCell]
    refine hks.more (hkT.mono (Nat.le_refl _) (fun _ _ hf => hf.elim)) (fun k hk => ?_) (hks.keep.trans ((hkT.below (Nat.le_refl _) (fun _ _ hf => hf)).mono hks.keep.size))
    rw [hszF]
    rcases hk with h | h | h | h | h
    · exact ⟨.inl h, by rcases h with h | h <;> omega⟩
    · exact ⟨.inr (by omega), by omega⟩
    · have := hPt k h; exact ⟨.inr (by omega), by omega⟩
    · exact ⟨.inr (by omega), by omega⟩
    · have := hPl k h; exact ⟨.inr (by omega), by omega⟩
  · refine ⟨lB2.far (p := ⟨wr.heap.size, 13, none⟩) (by show B ≠ wr.heap.size; omega) _, ?_, lX2.set 13 _, ?_, ?_, ?_, .inl (.inl rfl), .inr (.inl rfl), .inr (.inr (.inr (.inl rfl))), hml⟩
    · exact hbt.of_same (hrw _ hbt.lt)
    · exact (h2.pas.keep fun k hk => hrw k (by omega)).weak fun k hk => .inl (.inr hk)
    · exact (hpt.keep fun k hk => hrw k hk.2.1).weak fun k hk => .inr (.inr (.inl hk.2.2))
    · refine (hpl.keep fun k hk => ?_).weak fun k hk => .inr (.inr (.inr (.inr hk.2.2)))
      have := hPl k hk.2.2
      exact Below.heap_setCell _ _ _ _ (by show k ≠ wr.heap.size; omega)

/-- a row of bytes -/
def U8 (l : List UInt8) : List Value := l.map fun x => .int .u8 (x.toNat : Int)
theorem U8_get {l : List UInt8} {i : Nat} {x : UInt8} (h : l[i]? = some x) : (U8 l)[i]? = some (.int .u8 (x.toNat : Int)) := by simp [U8, h]

set_option maxRecDepth 1000000 in
set_option maxHeartbeats 16000000 in
theorem kept_tail {K : Act → World → Prop} {w wT wr : World} {B gA offA cA r q n f a : Nat} {v1 v4 v5 v6 v7 v8 v11 v12 v13 v15 v16 v17 v18 v19 v20 v21 v22 v23 v24 v25 v26 v27 v28 v29 v30 v31 v32 v33 v34 v35 v36 v37 v38 v39 v40 v41 v42 v43 v44 v45 v46 v47 v48 v49 v50 v51 v52 v53 v54 v55 v56 v57 v58 v59 v60 v61 v62 v63 v64 v65 v66 v67 v68 v69 v70 v71 v72 v73 v74 v75 v76 v77 v78 v79 v80 v81 v82 v83 v84 v85 v86 v87 v88 v89 v90 v91 v92 v93 v94 v95 v96 v97 v98 v99 v100 v101 v102 v103 v104 v105 v106 v107 v108 v109 v110 v111 v112 v113 v114 v115 v116 v117 v118 v119 v120 v121 v122 v123 v124 v125 v126 v127 v128 v129 v130 v131 v132 v133 v134 v135 v136 v137 v138 v139 v140 v141 v142 v143 v144 v145 v146 v147 v148 v149 v150 v151 v152 v153 v154 v155 v156 v157 v158 v159 v160 v161 v162 v163 v164 v165 v166 v167 v168 v169 v170 v171 v172 v173 v174 v175 v176 v177 v178 v179 v180 v181 v182 v183 v184 v185 v186 v187 v188 v189 v190 v191 v192 v193 v194 v195 v196 v197 v198 v199 v200 v201 v202 v203 v204 v205 v206 v207 v208 v209 v210 v211 v212 v213 v214 v215 v216 v217 v218 v219 v220 v221 v222 v223 v224 v225 v226 : Value} (hK : ∀ (a : Act) (w' : World), Code.wp Try.prog c24 (Qz w) a w' → K a w') (HT : bk.Bx (K1 w B gA offA cA r q n wT)) (H2 : bk.Bx (TB wT B gA offA cA n f n wr))
    (h2 : 2 ≤ n) (h16 : n ≤ 16) (hcap : n ≤ cA) (hfn : f < n) (han : a < n) (hlB : B < wT.heap.size) (hgA : gA < wT.heap.size) :
    Code.wp Try.prog c23 (Exit.then K (Qz w)) ⟨#[.int .i64 (n : Int), v1, .int .i64 (f : Int), .int .i64 (a : Int), v4, v5, v6, v7, v8, .pointer (some ⟨B, 0, none⟩), bp r, v11, v12, v13, .pointer (some ⟨wT.heap.size, 0, none⟩), v15, v16, v17, v18, v19, v20, v21, v22, v23, v24, v25, v26, v27, v28, v29, v30, v31, v32, v33, v34, v35, v36, v37, v38, v39, v40, v41, v42, v43, v44, v45, v46, v47, v48, v49, v50, v51, v52, v53, v54, v55, v56, v57, v58, v59, v60, v61, v62, v63, v64, v65, v66, v67, v68, v69, v70, v71, v72, v73, v74, v75, v76, v77, v78, v79, v80, v81, v82, v83, v84, v85, v86, v87, v88, v89, v90, v91, v92, v93, v94, v95, v96, v97, v98, v99, v100, v101, v102, v103, v104, v105, v106, v107, v108, v109, v110, v111, v112, v113, v114, v115, v116, v117, v118, v119, v120, v121, v122, v123, v124, v125, v126, v127, v128, v129, v130, v131, v132, v133, v134, v135, v136, v137, v138, v139, v140, v141, v142, v143, v144, v145, v146, v147, v148, v149, v150, v151, v152, v153, v154, v155, v156, v157, v158, v159, v160, v161, v162, v163, v164, v165, v166, v167, v168, v169, v170, v171, v172, v173, v174, v175, v176, v177, v178, v179, v180, v181, v182, v183, v184, v185, v186, v187, v188, v189, v190, v191, v192, v193, v194, v195, v196, v197, v198, v199, v200, v201, v202, v203, v204, v205, v206, v207, v208, v209, v210, v211, v212, v213, v214, v215, v216, v217, v218, v219, v220, v221, v222, v223, v224, v225, v226], []⟩ wr := by
  have hmix : Try.prog.follows .mixedOrders = true := by kernel_rfl
  conv => arg 2; whnf
  conv at hK => enter [a, w']; arg 1; arg 2; whnf
  have ha1n : (a : Int) + 1 ≤ (n : Int) := by omega
  have ha10 : (0 : Int) ≤ (a : Int) + 1 := by omega
  have haz : (a : Int) + 1 = ((a + 1 : Nat) : Int) := by omega
  have haw2 : -9223372036854775808 ≤ (a : Int) + 1 ∧ (a : Int) + 1 ≤ 9223372036854775807 := by omega
  have hle1 : a + 1 ≤ n := by omega
  have haT : ((a : Int) + 1).toNat = a + 1 := by omega
  have hac : a ≤ cA := by omega
  have hac2 : (a : Int) ≤ (cA : Int) := by omega
  obtain ⟨At, ct, hbt, hot⟩ := H2.out.bt
  obtain ⟨A1, c1, W1, A2, c2, W2, hr1, hr2, lB1, lX2, lB2, P3, rec, hK, hks, hcf⟩ := cfs_made (a := a) HT.out H2.out hbt hot h16 h2 hcap han hlB hgA
  obtain ⟨d0, d1, d2, d3, d4, d5, d6, d7, d8, d9, d10, d11, d12, d13, d14, d15⟩ := c16_of H2.out.bc
  have e13 := (c16_of lB1).c13
  have f13 := lX2.frozen 13
  have x13 := (c16_of lX2).c13
  have hltB := H2.out.bc.lt
  have hsl := fun W => cut_lo W gA offA n cA (a + 1) ((a : Int) + 1) haz hle1
  have haw : IntKind.i64.wrap ((a : Int) + 1) = (a : Int) + 1 := IntWalk.i64_in _ haw2
  clear haz hle1 haw2
  have HR1 := bk.Bx.mk hr1
  have HR2 := bk.Bx.mk hr2
  have HK := bk.Bx.mk hK
  have HKS := bk.Bx.mk hks
  have HCF := bk.Bx.mk hcf
  clear hr1 hr2 lB1 lX2 lB2 hK hks hcf hbt hot H2 HT
  go_wp2_with fail
  clear d0 d1 d2 d3 d4 d5 d6 d7 d8 d9 d10 d11 d12 d14 d15
  go_region_law (first | (refine step_append_eq rfl _ _ 25 25 rfl rfl (by simp [Act.eval, Act.put]) (by simp [Act.eval, Act.put]) HR1.out ?_; clear HR1) | (refine step_append_eq rfl _ _ 25 25 rfl rfl (by simp [Act.eval, Act.put]) (by simp [Act.eval, Act.put]) HR2.out ?_; clear HR2))
  all_goals
    rename_i KK hKK
    refine hKK _ _ ?_
    have HC3 : bk.Bx (C3 w P3 B wT.heap.size wr.heap.size (some ⟨gA, offA, none⟩) At A2 cA ct c2 r q n f a (a + (n - (a + 1))) (W2.setCell ⟨wr.heap.size, 13, none⟩ (.slice A2 (a + (n - (a + 1))) c2))) := ⟨⟨⟨rec, _, HK.out, HKS.out, List.nodup_range, fun i hi => List.mem_range.2 hi⟩, HCF.out⟩⟩
    exact kept_end HC3 h2 h16 hfn han

set_option maxRecDepth 100000 in
set_option maxHeartbeats 16000000 in
theorem kept_yes (n : Nat) (from_ away : Int) (A : Option Addr) (c : Nat) (l : List UInt8) (w : World) (hr : pl.RowAt w (fun g => g < w.heap.size) A (U8 l)) (h2 : 2 ≤ n) (h16 : n ≤ 16) (h60 : l.length ≤ 60) :
    Calls Try.prog 6 #[.int .i64 (n : Int), .slice A l.length c, .int .i64 from_, .int .i64 away] w fun e w' => e = .returned (.bool true) ∧ Below w.heap.size w w' := by
  have HA := bk.Bx.mk (awake_any w)
  have HR := bk.Bx.mk hr
  have HO := bk.Bx.mk (fun W => of_lit n W h16 (by omega))
  have h1 : 1 ≤ n := by omega
  have hf1 : ¬ (n : Int) < 2 := by omega
  have hf2 : ¬ (16 : Int) < (n : Int) := by omega
  clear hr
  obtain ⟨m, hm⟩ : ∃ m, l.length = m := ⟨_, rfl⟩
  have HM := bk.Bx.mk hm
  rw [hm] at h60 ⊢
  have hf3 : ¬ (60 : Int) < (m : Int) := by omega
  clear hm
  go_enter Try.func6, Try.ntmps6
  go_wp2_with fail
  refine HA.out.mono ?_
  rintro e w1 ⟨rfl, hb1⟩
  have HB1 := bk.Bx.mk hb1
  clear hb1 HA
  go_wp2_with fail
  refine (HO.out w1).mono ?_
  rintro e w2 ⟨gA, offA, cA, rfl, hcap, hg1, hg2, hp, hb2⟩
  have hb02 := HB1.out.trans (hb2.mono HB1.out.size)
  have hba : Below w2.heap.size w2 (w2.alloc (.cells (ccs 2 5 3 (.slice (some ⟨gA, offA, none⟩) n cA)) 29)) := (Below.refl _ w2).alloc (Nat.le_refl _) _
  have hl3 := Lies.new w2 29 (ccs 2 5 3 (.slice (some ⟨gA, offA, none⟩) n cA))
  have hp3 : PasAt (w2.alloc (.cells (ccs 2 5 3 (.slice (some ⟨gA, offA, none⟩) n cA)) 29)) (fun k => k = gA) (some ⟨gA, offA, none⟩) (pasOf n) := hp.keep fun k hk => hba.block k (by omega)
  have KN := bk.Bx.mk (ks_new (c := cA) (P := P1 w2.heap.size gA) h16 (fun k hk => by rcases hk with h | h <;> simp <;> omega) (hb02.trans (hba.mono hb02.size)) (hp3.weak fun k hk => .inr hk))
  have HL3 := bk.Bx.mk hl3
  have HP3 := bk.Bx.mk hp3
  clear hg1 hg2 hp hb2 hb02 hba hl3 hp3 HO
  go_wp2_with fail
  refine KN.out.mono ?_
  rintro e w4 ⟨r, q, rec0, rfl, hK0, hks⟩
  have H1 : bk.Bx (K1 w w2.heap.size gA offA cA r q n w4) := ⟨⟨⟨rec0, hK0, hks.ks⟩, HL3.out.of_same (hks.same _ (.inl rfl)), HP3.out.keep fun k hk => hks.same _ (.inr hk)⟩⟩
  generalize w2.heap.size = B at *
  clear hK0 hks KN HL3 HP3
  go_wp2_with fail
  go_loopw [12, 13] (fun s12 s13 wr => ∃ j : Nat, j ≤ m ∧ s12 = .int .i64 j ∧ bk.Bx (K1 w B gA offA cA r q n wr)) (fun s12 _ _ => m - (intOf s12).toNat)
  case atStart => exact ⟨0, by omega, rfl, H1⟩
  case round =>
    clear H1
    obtain ⟨j, hj, rfl, H1⟩ := hrel
    by_cases hjm : j < m
    · obtain ⟨x, hx⟩ : ∃ x, l[j]? = some x := ⟨_, List.getElem?_eq_getElem (by rw [HM.out]; exact hjm)⟩
      have hbw : Below w.heap.size w wr := H1.out.blw
      obtain ⟨g, off, hA, hg, hc⟩ := (HR.out.below hbw (fun g hg => hg)).cell (U8_get hx)
      subst hA
      have hx256 := x.toNat_lt
      obtain ⟨z, hz⟩ : ∃ z : Nat, x.toNat = z := ⟨_, rfl⟩
      rw [hz] at hc hx256
      clear hx hbw hz
      have hz0 : (0 : Int) ≤ (z : Int) := by omega
      have hz1 : (z : Int) < 256 := by omega
      have hn0 : ((n : Int) == 0) = false := by simp; omega
      have KG := bk.Bx.mk (fun key => k1_good H1.out h16 key)
      have KB := bk.Bx.mk (fun key => k1_bad H1.out h16 key)
      by_cases hz2 : (z : Int) % 2 = 0
      · go_wp2_with fail
        refine (KG.out _).mono ?_
        rintro e w5 ⟨⟨v, rfl⟩, h5⟩
        have H5 := bk.Bx.mk h5
        clear h5 KG KB H1
        go_wp2_with fail
        go_roundw
        case rel => exact ⟨j + 1, by omega, by go_num, H5⟩
        case measure => simp [intOf]; omega
      · go_wp2_with fail
        refine (KB.out _).mono ?_
        rintro e w5 ⟨⟨v, rfl⟩, h5⟩
        have H5 := bk.Bx.mk h5
        clear h5 KG KB H1
        go_wp2_with fail
        go_roundw
        case rel => exact ⟨j + 1, by omega, by go_num, H5⟩
        case measure => simp [intOf]; omega
    · obtain rfl : j = m := by omega
      obtain ⟨F, hF⟩ : ∃ F : Nat, IntKind.u64.wrap from_ = (F : Int) := ⟨(IntKind.u64.wrap from_).toNat, by rw [IntKind.wrap_u64]; omega⟩
      obtain ⟨G, hG⟩ : ∃ G : Nat, IntKind.u64.wrap away = (G : Int) := ⟨(IntKind.u64.wrap away).toNat, by rw [IntKind.wrap_u64]; omega⟩
      have hN : IntKind.u64.wrap (n : Int) = (n : Int) := by rw [IntKind.wrap_u64]; omega
      obtain ⟨f, hf, hfn⟩ : ∃ f : Nat, (F : Int) % (n : Int) = (f : Int) ∧ f < n := ⟨F % n, by omega, Nat.mod_lt _ (by omega)⟩
      obtain ⟨a, ha, han⟩ : ∃ a : Nat, (G : Int) % (n : Int) = (a : Int) ∧ a < n := ⟨G % n, by omega, Nat.mod_lt _ (by omega)⟩
      have hft : (F : Int).tmod (n : Int) = (f : Int) := by rw [Int.tmod_eq_emod_of_nonneg (by omega)]; exact hf
      have hat : (G : Int).tmod (n : Int) = (a : Int) := by rw [Int.tmod_eq_emod_of_nonneg (by omega)]; exact ha
      have hfi : IntKind.i64.wrap (f : Int) = (f : Int) := IntWalk.i64_in _ (by omega)
      have hai : IntKind.i64.wrap (a : Int) = (a : Int) := IntWalk.i64_in _ (by omega)
      have hn0 : ((n : Int) == 0) = false := by simp; omega
      have hnz : (n : Int) ≠ 0 := by omega
      have hmix : Try.prog.follows .mixedOrders = true := by kernel_rfl
      go_wp2_with fail
      go_quiet (fail)
      have HT := bk.Bx.mk (H1.out.below ((Still.drewN wr nq).below _))
      generalize wr.drewN nq = wT at *
      clear H1 hF hG hN hf ha hft hat hfi hai hmix
      obtain ⟨d0, d1, d2, d3, d4, d5, d6, d7, d8, d9, d10, d11, d12, d13, d14, d15⟩ := c16_of HT.out.bc
      have hlB := HT.out.bc.lt
      obtain ⟨g0, off0, e0, hg0, hpc⟩ := HT.out.pas.ex (by rw [pasOf_len]; omega)
      cases e0
      have hgA : gA < wT.heap.size := (hpc 0 _ (pas_get (by omega))).lt
      have hbz : Below wT.heap.size wT (wT.alloc (.cells (ccs 2 5 3 (.slice none 0 0)) 29)) := (Below.refl _ wT).alloc (Nat.le_refl _) _
      have HS0 : bk.Bx (TB wT B gA offA cA n f 0 (wT.alloc (.cells (ccs 2 5 3 (.slice none 0 0)) 29))) := ⟨⟨HT.out.bc.alloc _, HT.out.pas.keep fun k hk => hbz.block k (by omega), ⟨none, 0, Lies.new wT 29 _, World.ownsRow_nil _ _ _ _⟩, hbz⟩⟩
      clear hpc hg0 hbz
      go_wp2_with fail
      clear d0 d1 d2 d3 d4 d5 d6 d7 d8 d9 d10 d11 d12 d13 d14 d15
      go_loopw [15] (fun s15 wr => ∃ i : Nat, i ≤ n ∧ s15 = .int .i64 i ∧ bk.Bx (TB wT B gA offA cA n f i wr)) (fun s15 _ => n - (intOf s15).toNat)
      case atStart => exact ⟨0, by omega, rfl, HS0⟩
      case round =>
        clear HS0
        obtain ⟨i, hi, rfl, H2⟩ := hrel
        by_cases hin : i < n
        · obtain ⟨A', c', hbt, ho⟩ := H2.out.bt
          obtain ⟨A2, c2, W', hr, l1, l2, htb⟩ := H2.out.push hin h16 hlB hgA hbt ho
          obtain ⟨jx, hjx, hjn⟩ : ∃ jx : Nat, (f + i) % n = jx ∧ jx < n := ⟨_, rfl, Nat.mod_lt _ (by omega)⟩
          rw [hjx] at hr
          obtain ⟨g0, off0, e0, hg0, hpc⟩ := H2.out.pas.ex (by rw [pasOf_len]; omega)
          cases e0
          have hpx := hpc jx _ (pas_get hjn)
          clear hg0
          obtain ⟨x0, x1, x2, x3, x4, x5, x6, x7⟩ := hpx
          have t13 := (c16_of hbt).c13
          have b13 := (c16_of H2.out.bc).c13
          have t13' := (c16_of l1).c13
          have f13 := l1.frozen 13
          have hltT := hbt.lt
          have hltB := H2.out.bc.lt
          have hw1 : IntKind.i64.wrap ((f : Int) + (i : Int)) = (f : Int) + (i : Int) := IntWalk.i64_in _ (by omega)
          have hm1 : ((f : Int) + (i : Int)) % (n : Int) = (jx : Int) := by rw [← hjx, Int.natCast_emod, Int.natCast_add]
          have hm2 : ((f : Int) + (i : Int)).tmod (n : Int) = (jx : Int) := by rw [Int.tmod_eq_emod_of_nonneg (by omega)]; exact hm1
          have hs0 : (0 : Int) ≤ (f : Int) + (i : Int) := by omega
          have hnN : ¬ n = 0 := by omega
          have hnE : (n = 0) = False := by simp; omega
          have hjz : (jx : Int) < (n : Int) := by omega
          have hj0 : (0 : Int) ≤ (jx : Int) := by omega
          have HR2 := bk.Bx.mk hr
          have HTB := bk.Bx.mk htb
          clear hr htb hbt ho l1 l2 hjx hpc H2
          go_wp2_with fail
          go_region_law (refine step_append_eq rfl _ _ 25 25 rfl rfl (by simp [Act.eval]) (by simp [Act.eval]) HR2.out ?_)
          all_goals
            clear HR2 f13 t13 b13 t13' x0 x1 x2 x3 x4 x5 x6 x7 hw1 hm1 hm2 hs0 hjz hj0
            generalize W'.setCell ⟨wT.heap.size, 13, none⟩ (.slice A2 (i + 1) c2) = w8 at *
            go_wp2_with fail
            go_roundw
            case rel => exact ⟨i + 1, by omega, by go_num, HTB⟩
            case measure => simp [intOf]; omega
        · obtain rfl : i = n := by omega
          go_upto_region 23 with fail
          exact kept_tail (by assumption) HT H2 h2 h16 hcap hfn han hlB hgA
set_option maxRecDepth 100000 in
set_option maxHeartbeats 4000000 in
theorem kept_no (n : Int) (from_ away : Int) (A : Option Addr) (m c : Nat) (w : World) (h : n < 2 ∨ 16 < n ∨ 60 < m) :
    Calls Try.prog 6 #[.int .i64 n, .slice A m c, .int .i64 from_, .int .i64 away] w fun e w' => e = .returned (.bool true) ∧ Below w.heap.size w w' := by
  have HA := bk.Bx.mk (awake_any w)
  rcases (show n < 2 ∨ (¬ n < 2 ∧ 16 < n) ∨ (¬ n < 2 ∧ ¬ 16 < n ∧ 60 < m) by omega) with h1 | ⟨h1, h2⟩ | ⟨h1, h2, h3⟩
  all_goals
    clear h
    go_enter Try.func6, Try.ntmps6
    go_wp2_with fail
    refine HA.out.mono ?_
    rintro e w1 ⟨rfl, hb1⟩
    have HB1 := bk.Bx.mk hb1
    clear hb1 HA
    go_wp2_with fail
    go_ret
    exact ⟨rfl, HB1.out⟩
theorem kept_walk (n : Int) (from_ away : Int) (A : Option Addr) (c : Nat) (l : List UInt8) (w : World) (hr : pl.RowAt w (fun g => g < w.heap.size) A (U8 l)) :
    Calls Try.prog 6 #[.int .i64 n, .slice A l.length c, .int .i64 from_, .int .i64 away] w fun e w' => e = .returned (.bool true) ∧ Below w.heap.size w w' := by
  by_cases h : n < 2 ∨ 16 < n ∨ 60 < l.length
  · exact kept_no n from_ away A l.length c w h
  · obtain ⟨k, rfl⟩ : ∃ k : Nat, n = (k : Int) := ⟨n.toNat, by omega⟩
    exact kept_yes k from_ away A c l w hr (by omega) (by omega) (by omega)
end Go.Proofs.Ytpidjekabnnmcaa.hp
