/-
  Given for the seat's laws: Good, Bad, Back by key, Try by place. No condition but those of the theorems.
-/
import Derived.Test.YtpidjekabnnmcaaHOps
namespace Go.Proofs.Ytpidjekabnnmcaa.hp
open Go.RowKit mem find pb
set_option linter.unusedVariables false

def HD.hit (D : HD) (key : Int) (f : RD → RD) : HD := if D.place key < 0 then D else match D.R[(D.place key).toNat]? with | some x => { D with R := D.R.set (D.place key).toNat (f x) } | none => D
def HD.ec (D : HD) (key : Int) : Int := if D.place key < 0 then 30 else 0
/-- what a call leaves that turns a record -/
structure Wr (S : Nat → Prop) (r : Nat) (D' : HD) (A : Option Addr) (c q : Nat) (bs : List Nat) (v : Value) (w : World) (e : Ending) (w' : World) : Prop where
  eq : e = .returned v
  hx : Hx w' S r D' A c q bs
  keep : Keep w.heap.size S w w'
section
variable {w : World} {S : Nat → Prop} {r c q : Nat} {D : HD} {A : Option Addr} {bs : List Nat}
theorem rec1_of (h : Hx w S r D A c q bs) {b : Nat} {x : RD} (hl : Lies w b 79 (rcs x)) : Rec1 w r b D x :=
  ⟨hl, h.hd.cell 1, h.hd.cell 2, h.hd.cell 3, h.hd.apart hl (by decide), h.hd.lt⟩
theorem wr_done {b k : Nat} {x : RD} {w1 w2 : World} (h : Hx w S r D A c q bs) (hb : bs[k]? = some b) (h1 : Below w.heap.size w w1) (hl : Lies w2 b 79 (rcs x)) (ho : Only b w1 w2) :
    Hx w2 S r { D with R := D.R.set k x } A c q bs ∧ Keep w.heap.size S w w2 := by
  obtain ⟨p1, p2⟩ := (h.below h1).turn hb hl ho
  exact ⟨p1, (Keep.of_below h1 S).trans (p2.mono h1.size (fun _ _ e => e))⟩

set_option maxHeartbeats 2000000 in
theorem pass_good (h : Hx w S r D A c q bs) (hs : D.R.length ≤ 1000) (hwi : ∀ x ∈ D.R, x.wi < 65536) (key : Int) (t : Bool) :
    Calls Try.prog 35 #[bp r, .int .i64 key, .bool t, .func (.func 36) #[bp r] #[]] w (Wr S r (D.hit key (fun x => goodR x D.now t)) A c q bs (.int .i64 (D.ec key)) w) := by
  have HM := Lib.hid (hmade_yes h)
  have HP := bk.Bx.mk (findI_any h hs key)
  have HH := bk.Bx.mk h
  have c4 := h.hd.cell 4
  simp at c4
  have HLT := bk.Bx.mk h.hd.lt
  by_cases hp : D.place key < 0
  · have e1 : D.hit key (fun x => goodR x D.now t) = D := by unfold HD.hit; rw [if_pos hp]
    have e2 : D.ec key = 30 := by unfold HD.ec; rw [if_pos hp]
    rw [e1, e2]
    clear e1 e2 h
    generalize D.place key = z at *
    generalize hn : D.R.length = n at *
    go_enter Try.func35, Try.ntmps35
    go_wp2_with (go_at_call 24; refine HM.out.mono ?_; rintro e w' ⟨rfl, rfl⟩)
    refine HP.out.mono ?_
    rintro e w2 ⟨rfl, hb⟩
    have h2 := HH.out.below hb
    have kp := Keep.of_below hb S
    clear HP HM HH
    go_wp2_with fail
    go_ret
    exact ⟨rfl, h2, kp⟩
  · obtain ⟨k, x, hk, hx, hxk⟩ := place_some hp
    have e1 : D.hit key (fun x => goodR x D.now t) = { D with R := D.R.set k (goodR x D.now t) } := by unfold HD.hit; rw [if_neg hp, hk]; simp [hx]
    have e2 : D.ec key = 0 := by unfold HD.ec; rw [if_neg hp]
    rw [e1, e2]
    rw [hk] at HP
    obtain ⟨b, hb, hl, _⟩ := h.recs.get hx
    obtain ⟨g, hA, hg, _, hcell⟩ := h.row.cell (by have := (List.getElem?_eq_some_iff.1 hb).1; omega)
    have ck := hcell k b hb
    subst hA
    have hkn : k < D.R.length := (List.getElem?_eq_some_iff.1 hx).1
    have KK := bk.Bx.mk (fun W (hW : Below w.heap.size w W) => good_any ((rec1_of h hl).below hW) (hwi x (List.mem_of_getElem? hx)) t)
    have HB := bk.Bx.mk hb
    have HG := bk.Bx.mk hg
    clear e1 e2 h hp hk hx hl hcell hxk hs hb hwi
    obtain ⟨y, hy⟩ : ∃ y, goodR x D.now t = y := ⟨_, rfl⟩
    rw [hy] at KK ⊢
    clear hy
    obtain ⟨n, hn⟩ : ∃ n, D.R.length = n := ⟨_, rfl⟩
    rw [hn] at HP c4 hkn
    clear hn
    go_enter Try.func35, Try.ntmps35
    go_wp2_with (go_at_call 24; refine HM.out.mono ?_; rintro e w' ⟨rfl, rfl⟩)
    refine HP.out.mono ?_
    rintro e w2 ⟨rfl, hb2⟩
    have c4' : w2.cell? ⟨r, 4, none⟩ = some (.slice (some ⟨g, 0, none⟩) n c) := (hb2.cell (p := ⟨r, 4, none⟩) HLT.out).trans c4
    have ck' : w2.cell? ⟨g, k, none⟩ = some (bp b) := (hb2.cell (p := ⟨g, k, none⟩) HG.out).trans ck
    have KD := bk.Bx.mk (KK.out w2 hb2)
    have HB2 := bk.Bx.mk hb2
    clear c4 ck KK HP HM hb2
    go_wp2_with fail
    refine KD.out.mono ?_
    rintro e w3 ⟨rfl, hl3, ho3⟩
    have hf := wr_done HH.out HB.out HB2.out hl3 ho3
    have HF := bk.Bx.mk hf
    clear hf hl3 ho3 KD c4' ck' HB2 HB HH HG HLT
    go_wp2_with fail
    go_ret
    exact ⟨rfl, HF.out.1, HF.out.2⟩
set_option maxHeartbeats 400000 in
theorem hgood_any (h : Hx w S r D A c q bs) (hs : D.R.length ≤ 1000) (hwi : ∀ x ∈ D.R, x.wi < 65536) (key : Int) (t : Bool) :
    Calls Try.prog 16 #[bp r, .int .i64 key, .bool t] w (Wr S r (D.hit key (fun x => goodR x D.now t)) A c q bs (.int .i64 (D.ec key)) w) := by
  have HM := bk.Bx.mk (pass_good h hs hwi key t)
  clear h
  generalize (D.hit key (fun x => goodR x D.now t)) = D' at *
  generalize D.ec key = ec at *
  go_enter Try.func16, Try.ntmps16
  go_wp2_with fail
  refine HM.out.mono ?_
  rintro e w2 ⟨rfl, h1, h2⟩
  clear HM
  go_wp2_with fail
  go_ret
  exact ⟨rfl, h1, h2⟩

set_option maxHeartbeats 2000000 in
theorem pass_bad (h : Hx w S r D A c q bs) (hs : D.R.length ≤ 1000) (hwi : ∀ x ∈ D.R, x.wi < 65536) (key : Int) (t : Bool) :
    Calls Try.prog 35 #[bp r, .int .i64 key, .bool t, .func (.func 37) #[bp r] #[]] w (Wr S r (D.hit key (fun x => badR x D.now D.cool D.fails t)) A c q bs (.int .i64 (D.ec key)) w) := by
  have HM := Lib.hid (hmade_yes h)
  have HP := bk.Bx.mk (findI_any h hs key)
  have HH := bk.Bx.mk h
  have c4 := h.hd.cell 4
  simp at c4
  have HLT := bk.Bx.mk h.hd.lt
  by_cases hp : D.place key < 0
  · have e1 : D.hit key (fun x => badR x D.now D.cool D.fails t) = D := by unfold HD.hit; rw [if_pos hp]
    have e2 : D.ec key = 30 := by unfold HD.ec; rw [if_pos hp]
    rw [e1, e2]
    clear e1 e2 h
    generalize D.place key = z at *
    generalize hn : D.R.length = n at *
    go_enter Try.func35, Try.ntmps35
    go_wp2_with (go_at_call 24; refine HM.out.mono ?_; rintro e w' ⟨rfl, rfl⟩)
    refine HP.out.mono ?_
    rintro e w2 ⟨rfl, hb⟩
    have h2 := HH.out.below hb
    have kp := Keep.of_below hb S
    clear HP HM HH
    go_wp2_with fail
    go_ret
    exact ⟨rfl, h2, kp⟩
  · obtain ⟨k, x, hk, hx, hxk⟩ := place_some hp
    have e1 : D.hit key (fun x => badR x D.now D.cool D.fails t) = { D with R := D.R.set k (badR x D.now D.cool D.fails t) } := by unfold HD.hit; rw [if_neg hp, hk]; simp [hx]
    have e2 : D.ec key = 0 := by unfold HD.ec; rw [if_neg hp]
    rw [e1, e2]
    rw [hk] at HP
    obtain ⟨b, hb, hl, _⟩ := h.recs.get hx
    obtain ⟨g, hA, hg, _, hcell⟩ := h.row.cell (by have := (List.getElem?_eq_some_iff.1 hb).1; omega)
    have ck := hcell k b hb
    subst hA
    have hkn : k < D.R.length := (List.getElem?_eq_some_iff.1 hx).1
    have KK := bk.Bx.mk (fun W (hW : Below w.heap.size w W) => bad_any ((rec1_of h hl).below hW) (hwi x (List.mem_of_getElem? hx)) t)
    have HB := bk.Bx.mk hb
    have HG := bk.Bx.mk hg
    clear e1 e2 h hp hk hx hl hcell hxk hs hb hwi
    obtain ⟨y, hy⟩ : ∃ y, badR x D.now D.cool D.fails t = y := ⟨_, rfl⟩
    rw [hy] at KK ⊢
    clear hy
    obtain ⟨n, hn⟩ : ∃ n, D.R.length = n := ⟨_, rfl⟩
    rw [hn] at HP c4 hkn
    clear hn
    go_enter Try.func35, Try.ntmps35
    go_wp2_with (go_at_call 24; refine HM.out.mono ?_; rintro e w' ⟨rfl, rfl⟩)
    refine HP.out.mono ?_
    rintro e w2 ⟨rfl, hb2⟩
    have c4' : w2.cell? ⟨r, 4, none⟩ = some (.slice (some ⟨g, 0, none⟩) n c) := (hb2.cell (p := ⟨r, 4, none⟩) HLT.out).trans c4
    have ck' : w2.cell? ⟨g, k, none⟩ = some (bp b) := (hb2.cell (p := ⟨g, k, none⟩) HG.out).trans ck
    have KD := bk.Bx.mk (KK.out w2 hb2)
    have HB2 := bk.Bx.mk hb2
    clear c4 ck KK HP HM hb2
    go_wp2_with fail
    refine KD.out.mono ?_
    rintro e w3 ⟨rfl, hl3, ho3⟩
    have hf := wr_done HH.out HB.out HB2.out hl3 ho3
    have HF := bk.Bx.mk hf
    clear hf hl3 ho3 KD c4' ck' HB2 HB HH HG HLT
    go_wp2_with fail
    go_ret
    exact ⟨rfl, HF.out.1, HF.out.2⟩
set_option maxHeartbeats 400000 in
theorem hbad_any (h : Hx w S r D A c q bs) (hs : D.R.length ≤ 1000) (hwi : ∀ x ∈ D.R, x.wi < 65536) (key : Int) (t : Bool) :
    Calls Try.prog 17 #[bp r, .int .i64 key, .bool t] w (Wr S r (D.hit key (fun x => badR x D.now D.cool D.fails t)) A c q bs (.int .i64 (D.ec key)) w) := by
  have HM := bk.Bx.mk (pass_bad h hs hwi key t)
  clear h
  generalize (D.hit key (fun x => badR x D.now D.cool D.fails t)) = D' at *
  generalize D.ec key = ec at *
  go_enter Try.func17, Try.ntmps17
  go_wp2_with fail
  refine HM.out.mono ?_
  rintro e w2 ⟨rfl, h1, h2⟩
  clear HM
  go_wp2_with fail
  go_ret
  exact ⟨rfl, h1, h2⟩

set_option maxHeartbeats 2000000 in
theorem pass_back (h : Hx w S r D A c q bs) (hs : D.R.length ≤ 1000) (key : Int) (t : Bool) :
    Calls Try.prog 35 #[bp r, .int .i64 key, .bool t, .func (.func 38) #[bp r] #[]] w (Wr S r (D.hit key (fun x => backR x t)) A c q bs (.int .i64 (D.ec key)) w) := by
  have HM := Lib.hid (hmade_yes h)
  have HP := bk.Bx.mk (findI_any h hs key)
  have HH := bk.Bx.mk h
  have c4 := h.hd.cell 4
  simp at c4
  have HLT := bk.Bx.mk h.hd.lt
  by_cases hp : D.place key < 0
  · have e1 : D.hit key (fun x => backR x t) = D := by unfold HD.hit; rw [if_pos hp]
    have e2 : D.ec key = 30 := by unfold HD.ec; rw [if_pos hp]
    rw [e1, e2]
    clear e1 e2 h
    generalize D.place key = z at *
    generalize hn : D.R.length = n at *
    go_enter Try.func35, Try.ntmps35
    go_wp2_with (go_at_call 24; refine HM.out.mono ?_; rintro e w' ⟨rfl, rfl⟩)
    refine HP.out.mono ?_
    rintro e w2 ⟨rfl, hb⟩
    have h2 := HH.out.below hb
    have kp := Keep.of_below hb S
    clear HP HM HH
    go_wp2_with fail
    go_ret
    exact ⟨rfl, h2, kp⟩
  · obtain ⟨k, x, hk, hx, hxk⟩ := place_some hp
    have e1 : D.hit key (fun x => backR x t) = { D with R := D.R.set k (backR x t) } := by unfold HD.hit; rw [if_neg hp, hk]; simp [hx]
    have e2 : D.ec key = 0 := by unfold HD.ec; rw [if_neg hp]
    rw [e1, e2]
    rw [hk] at HP
    obtain ⟨b, hb, hl, _⟩ := h.recs.get hx
    obtain ⟨g, hA, hg, _, hcell⟩ := h.row.cell (by have := (List.getElem?_eq_some_iff.1 hb).1; omega)
    have ck := hcell k b hb
    subst hA
    have hkn : k < D.R.length := (List.getElem?_eq_some_iff.1 hx).1
    have KK := bk.Bx.mk (fun W (hW : Below w.heap.size w W) => back_any ((rec1_of h hl).below hW) t)
    have HB := bk.Bx.mk hb
    have HG := bk.Bx.mk hg
    clear e1 e2 h hp hk hx hl hcell hxk hs hb
    obtain ⟨y, hy⟩ : ∃ y, backR x t = y := ⟨_, rfl⟩
    rw [hy] at KK ⊢
    clear hy
    obtain ⟨n, hn⟩ : ∃ n, D.R.length = n := ⟨_, rfl⟩
    rw [hn] at HP c4 hkn
    clear hn
    go_enter Try.func35, Try.ntmps35
    go_wp2_with (go_at_call 24; refine HM.out.mono ?_; rintro e w' ⟨rfl, rfl⟩)
    refine HP.out.mono ?_
    rintro e w2 ⟨rfl, hb2⟩
    have c4' : w2.cell? ⟨r, 4, none⟩ = some (.slice (some ⟨g, 0, none⟩) n c) := (hb2.cell (p := ⟨r, 4, none⟩) HLT.out).trans c4
    have ck' : w2.cell? ⟨g, k, none⟩ = some (bp b) := (hb2.cell (p := ⟨g, k, none⟩) HG.out).trans ck
    have KD := bk.Bx.mk (KK.out w2 hb2)
    have HB2 := bk.Bx.mk hb2
    clear c4 ck KK HP HM hb2
    go_wp2_with fail
    refine KD.out.mono ?_
    rintro e w3 ⟨rfl, hl3, ho3⟩
    have hf := wr_done HH.out HB.out HB2.out hl3 ho3
    have HF := bk.Bx.mk hf
    clear hf hl3 ho3 KD c4' ck' HB2 HB HH HG HLT
    go_wp2_with fail
    go_ret
    exact ⟨rfl, HF.out.1, HF.out.2⟩
set_option maxHeartbeats 400000 in
theorem hback_any (h : Hx w S r D A c q bs) (hs : D.R.length ≤ 1000) (key : Int) (t : Bool) :
    Calls Try.prog 18 #[bp r, .int .i64 key, .bool t] w (Wr S r (D.hit key (fun x => backR x t)) A c q bs (.int .i64 (D.ec key)) w) := by
  have HM := bk.Bx.mk (pass_back h hs key t)
  clear h
  generalize (D.hit key (fun x => backR x t)) = D' at *
  generalize D.ec key = ec at *
  go_enter Try.func18, Try.ntmps18
  go_wp2_with fail
  refine HM.out.mono ?_
  rintro e w2 ⟨rfl, h1, h2⟩
  clear HM
  go_wp2_with fail
  go_ret
  exact ⟨rfl, h1, h2⟩

/-- Try of a record -/
def tryR (x : RD) (now : Int) : RD := { x with br := bk.tryb x.br now }
def HD.tried (D : HD) (i : Int) : HD := match D.rec? i with | some x => { D with R := D.R.set i.toNat (tryR x D.now) } | none => D
def HD.tryV (D : HD) (i : Int) : Value := match D.rec? i with | some x => .tuple #[.bool (bk.tryt x.br D.now), .int .i64 (bk.ec (bk.tryE x.br D.now))] | none => .tuple #[.bool false, .int .i64 2]
set_option maxHeartbeats 400000 in
theorem htry_no (h : Hx w S r D A c q bs) {i : Int} (hi : i < 0 ∨ (D.R.length : Int) ≤ i) : Calls Try.prog 8 #[bp r, .int .i64 i] w fun e w' => e = .returned (.tuple #[.bool false, .int .i64 2]) ∧ w = w' := by
  have HM := Lib.hid (hmade_yes h)
  have HA := Lib.hid (at_no h hi)
  clear h hi
  go_enter Try.func8, Try.ntmps8
  go_wp2_with (first
    | (go_at_call 24; refine HM.out.mono ?_; rintro e w' ⟨rfl, rfl⟩)
    | (go_at_call 25; refine HA.out.mono ?_; rintro e w' ⟨rfl, rfl⟩))
  go_ret2
  exact ⟨rfl, rfl⟩
set_option maxHeartbeats 4000000 in
theorem htry_yes (h : Hx w S r D A c q bs) (hs : D.R.length ≤ 1000) {k : Nat} {x : RD} (hx : D.R[k]? = some x) :
    Calls Try.prog 8 #[bp r, .int .i64 (k : Int)] w (Wr S r { D with R := D.R.set k (tryR x D.now) } A c q bs (.tuple #[.bool (bk.tryt x.br D.now), .int .i64 (bk.ec (bk.tryE x.br D.now))]) w) := by
  have hmix : Try.prog.follows .mixedOrders = true := by kernel_rfl
  obtain ⟨b, hb, hl, _⟩ := h.recs.get hx
  have HM := Lib.hid (hmade_yes h)
  have HA := Lib.hid (at_yes h hb hs)
  have HH := bk.Bx.mk h
  have HB := bk.Bx.mk hb
  have HR := bk.Bx.mk (rec1_of h hl)
  have HT := bk.Bx.mk (bk.try_any x.br D.now)
  unfold bk.tv at HT
  obtain ⟨y, hy⟩ : ∃ y, tryR x D.now = y := ⟨_, rfl⟩
  have hy2 : y = { x with br := bk.tryb x.br D.now } := hy.symm
  rw [hy]
  generalize bk.tryb x.br D.now = z at *
  generalize bk.tryt x.br D.now = tt at *
  generalize bk.ec (bk.tryE x.br D.now) = ee at *
  have HY := bk.Bx.mk hy2
  have a1 := fun u => qt.bel_cell (HR.out.h1) u
  have a7 := fun u => qt.bel_cell (HR.out.rc.cell 7) u
  have a8 := fun u => qt.bel_cell (HR.out.rc.cell 8) u
  have a9 := fun u => qt.bel_cell (HR.out.rc.cell 9) u
  have a10 := fun u => qt.bel_cell (HR.out.rc.cell 10) u
  simp at a1 a7 a8 a9 a10
  clear h hl hy hy2 hx hb
  go_enter Try.func8, Try.ntmps8
  go_wp2_with (first
    | (go_at_call 24; refine HM.out.mono ?_; rintro e w' ⟨rfl, rfl⟩)
    | (go_at_call 25; refine HA.out.mono ?_; rintro e w' ⟨rfl, rfl⟩))
  refine qt.region_bel_store 1 11 14 hmix (by decide +kernel) (fun c a w d v h => by cases d <;> exact h) ?_
  simp only [List.take_succ_cons, List.take_zero, List.drop_succ_cons, List.drop_zero]
  repeat (go_big_quiet_step (first
    | (go_at_call 26; exact bel_grew _ HT.out)))
  refine wpQuiet_nil ?_
  rintro w4 ⟨u, rfl⟩
  have h4 := HR.out.below u.b
  obtain ⟨p1, p2⟩ := put_br h4.rc z
  have hf := wr_done (x := y) HH.out HB.out u.b (by rw [HY.out]; exact p1) p2
  have HF := bk.Bx.mk hf
  have hl2 := h4.rc
  generalize u.w' = w4 at *
  have f := fun i => hl2.frozen i
  have d7 := hl2.cell 7
  have d8 := hl2.cell 8
  have d9 := hl2.cell 9
  have d10 := hl2.cell 10
  simp at d7 d8 d9 d10
  clear h4 hl2 p1 p2 hf HR HT HY HH HB a1 a7 a8 a9 a10
  go_wp2_with fail
  go_ret2
  exact ⟨rfl, HF.out.1, HF.out.2⟩
theorem htry_any (h : Hx w S r D A c q bs) (hs : D.R.length ≤ 1000) (i : Int) : Calls Try.prog 8 #[bp r, .int .i64 i] w (Wr S r (D.tried i) A c q bs (D.tryV i) w) := by
  unfold HD.tried HD.tryV
  cases e : D.rec? i with
  | none =>
    refine (htry_no h (rec_none e)).mono ?_
    rintro e2 w' ⟨rfl, rfl⟩
    exact ⟨rfl, h, Keep.refl _ _ _⟩
  | some x =>
    obtain ⟨k, rfl, hk⟩ := rec_some e
    exact htry_yes h hs hk
end
end Go.Proofs.Ytpidjekabnnmcaa.hp
