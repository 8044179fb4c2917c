/-
  Given for the seat's laws: the contracts of connect.may, connect.Print. No condition but those of the theorems.
-/
import Derived.Test.YtghdaengkgiekaaGreatDoorYCTake
import Derived.Test.YtghdaengkgiekaaGreatDoorYKApp
import Derived.Test.YtghdaengkgiekaaGreatDoorYHText
import Derived.Test.YtghdaengkgiekaaGreatDoorYSChars
import Derived.Deep.CutBlock
import Derived.Deep.DeepCutAuto
namespace Go.Proofs.YtghdaengkgiekaaGreatDoor.cn
open Go.RowKit mem hd
set_option linter.unusedVariables false

def tgtOf (a : A) : hostp.T := ⟨⟨a.k, a.t⟩, a.p⟩
def mayA (a : A) : Bool := hostp.mayT (tgtOf a) && (a.sg || (a.us.isEmpty && a.ps.isEmpty)) && (a.hp || a.tk.isEmpty) && !(decide ((58 : UInt8) ∈ a.us))
def cn_ : Str := [67, 79, 78, 78, 69, 67, 84, 32]
def lineOf (a : A) : Str := cn_ ++ hostp.print (tgtOf a) ++ [32] ++ HTTP11
def signOf (a : A) : Str := [66, 97, 115, 105, 99, 32] ++ sx.enc (a.us ++ [58] ++ a.ps)
def fldsOf (a : A) : Flds := [(sHost, hostp.print (tgtOf a))] ++ (if a.sg then [(sSign, signOf a)] else []) ++ (if a.hp then [(sHops, a.tk)] else [])
theorem tt_eq (a : A) : hw.tt (a.k : Int) (S a.t) a.p = tgtOf a := by
  unfold hw.tt hw.hh tgtOf
  rw [Int.toNat_natCast]
  rfl
theorem mayT_call (a : A) (w : World) : Calls Tryz.prog 53 #[.agg #[.int .u8 (a.k : Int), .string (S a.t), .int .i64 a.p]] w (Gives (.bool (hostp.mayT (tgtOf a))) w) := by
  have h := hw.mayTarget_any (a.k : Int) (S a.t) a.p (by omega) w
  rw [tt_eq] at h
  exact h
theorem print_call {w : World} (he : hw.Env w) (a : A) : Calls Tryz.prog 30 #[.agg #[.int .u8 (a.k : Int), .string (S a.t), .int .i64 a.p]] w (Gives (.string (S (hostp.print (tgtOf a)))) w) := by
  have h := hw.print_any (a.k : Int) (S a.t) a.p (by omega) w he
  rw [tt_eq] at h
  exact h
theorem has58 (l : Str) (w : World) : Calls Tryz.prog 54 #[.string (S l), .string ⟨#[58]⟩] w fun e w' => e = .returned (.bool (decide ((58 : UInt8) ∈ l))) ∧ w' = w := by
  have h := Tryz.strings_Contains_one (S l) 58 w
  rw [show (S l).data.toList = l from rfl, hw.ix_mem] at h
  exact h
theorem print_len {a : A} : (hostp.print (tgtOf a)).length ≤ 200 := by
  by_cases hm : hostp.mayT (tgtOf a) = true
  · have hp : (hostp.print (tgtOf a)) = hostp.print (hw.tt (a.k : Int) (S a.t) a.p) := by rw [tt_eq]
    have hm' : hostp.mayT (hw.tt (a.k : Int) (S a.t) a.p) = true := by rw [tt_eq]; exact hm
    obtain ⟨h1, h2, h3⟩ := hw.mayT_parts hm'
    have htl := hw.text_len h1
    have hnl : (hostp.nm 10 a.p.toNat).length ≤ 5 := hostp.nm_len (b := 10) (by omega) 4 a.p.toNat (by omega)
    rw [hp]
    unfold hostp.print
    rw [if_pos hm']
    split
    · rw [List.length_cons, List.length_append, List.length_cons, List.length_cons]
      show _ + (_ + 1 + 1) + 1 ≤ _
      change (hostp.text (hw.hh (a.k : Int) (S a.t))).length + ((hostp.nm 10 a.p.toNat).length + 1 + 1) + 1 ≤ 200
      omega
    · rw [List.length_append, List.length_cons]
      change (hostp.text (hw.hh (a.k : Int) (S a.t))).length + ((hostp.nm 10 a.p.toNat).length + 1) ≤ 200
      omega
  · unfold hostp.print
    rw [if_neg hm]
    simp
set_option maxRecDepth 100000 in
set_option maxHeartbeats 8000000 in
theorem may_any (a : A) (w : World) (hu : a.us.length ≤ 600) (hp : a.ps.length ≤ 600) : Calls Tryz.prog 29 #[av a] w (Gives (.bool (mayA a)) w) := by
  obtain ⟨m, hm⟩ : ∃ m, mayA a = m := ⟨_, rfl⟩
  rw [hm]
  have c1 : ∀ W, (Op.stringOp .add (S a.us) (S a.ps)).run Tryz.prog W = .ok (.string (S (a.us ++ a.ps))) W := fun W => cat _ _ (by omega) (by omega) W
  have HM := Bx.mk (mayT_call a)
  have HC := Bx.mk (has58 a.us)
  have he1 : (S (a.us ++ a.ps)).toList.isEmpty = (a.us.isEmpty && a.ps.isEmpty) := by rw [S_toList]; cases a.us <;> simp
  have he2 : (S a.tk).toList.isEmpty = a.tk.isEmpty := by rw [S_toList]
  unfold mayA at hm
  unfold av
  generalize hostp.mayT (tgtOf a) = mt at *
  generalize (a.us.isEmpty && a.ps.isEmpty) = b1 at *
  generalize a.tk.isEmpty = b2 at *
  generalize decide ((58 : UInt8) ∈ a.us) = b3 at *
  generalize (a.k : Int) = k at *
  generalize S (a.us ++ a.ps) = sup at *
  generalize S a.us = us at *
  generalize S a.ps = ps at *
  generalize S a.tk = tk at *
  generalize S a.t = t at *
  generalize a.p = p at *
  generalize a.sg = sg at *
  generalize a.hp = hp' at *
  have hbox := Lies.new w 27 #[.int .u8 k, .string t, .int .i64 p, .bool sg, .string us, .string ps, .bool hp', .string tk]
  have hb1 : Below w.heap.size w (w.alloc (.cells #[.int .u8 k, .string t, .int .i64 p, .bool sg, .string us, .string ps, .bool hp', .string tk] 27)) := (Below.refl _ _).alloc (Nat.le_refl _) _
  have HX := Bx.mk hbox
  have HB := Bx.mk hb1
  have HMM := Bx.mk hm
  clear hbox hb1 hu hp hm
  go_enter Tryz.func29, Tryz.ntmps29
  go_upto_region 1 with fail
  generalize w.alloc (.cells #[.int .u8 k, .string t, .int .i64 p, .bool sg, .string us, .string ps, .bool hp', .string tk] 27) = W1 at *
  obtain ⟨r0, r1, r2, r3, r4, r5, r6, r7⟩ := eight HX.out
  go_wp2_with fail
  refine (HM.out _).mono ?_
  rintro e w2 ⟨rfl, hb2⟩
  have HB2 := Bx.mk (HB.out.trans (hb2.mono HB.out.size))
  have HX2 := Bx.mk (HX.out.below hb2 HX.out.lt)
  clear hb2 HB HX r0 r1 r2 r3 r4 r5 r6 r7 HM
  obtain ⟨r0, r1, r2, r3, r4, r5, r6, r7⟩ := eight HX2.out
  cases mt with
  | false =>
    have hmf : m = false := by have := HMM.out; simpa using this.symm
    subst hmf
    go_wp2_with fail
    exact bodyPost_ret (v := .bool false) (by simp [results, Tryz.results29, go_sem]) rfl ⟨rfl, HB2.out⟩
  | true =>
  cases sg <;> cases b1
  · have hmf : m = false := by have := HMM.out; simpa using this.symm
    subst hmf
    go_wp2_with fail
    exact bodyPost_ret (v := .bool false) (by simp [results, Tryz.results29, go_sem]) rfl ⟨rfl, HB2.out⟩
  all_goals
    cases hp' <;> cases b2
    · have hmf : m = false := by have := HMM.out; simpa using this.symm
      subst hmf
      go_wp2_with fail
      exact bodyPost_ret (v := .bool false) (by simp [results, Tryz.results29, go_sem]) rfl ⟨rfl, HB2.out⟩
    all_goals
      have hmf : m = !b3 := by have := HMM.out; simpa using this.symm
      subst hmf
      go_wp2_with fail
      refine (HC.out _).mono ?_
      rintro e w3 ⟨rfl, hw3⟩
      replace hw3 := hw3.symm
      subst hw3
      go_wp2_with fail
      exact bodyPost_ret (v := .bool (!b3)) (by simp [results, Tryz.results29, go_sem]) rfl ⟨rfl, HB2.out⟩
end Go.Proofs.YtghdaengkgiekaaGreatDoor.cn

/-
  Given for the seat's laws: the contract of connect.Print. No condition but those of the theorems.
-/
namespace Go.Proofs.YtghdaengkgiekaaGreatDoor.cn
open Go.RowKit mem hd
set_option linter.unusedVariables false

/-- texts of at most 600 bytes -/
structure SmallA (a : A) : Prop where
  us : a.us.length ≤ 600
  ps : a.ps.length ≤ 600
  tk : a.tk.length ≤ 600
def PrTo (a : A) (w : World) (e : Ending) (w' : World) : Prop :=
  (mayA a = true → PrintTo (lineOf a) (fldsOf a) w e w') ∧ (mayA a = false → e = .returned (.tuple #[.slice none 0 0, .int .i64 2]) ∧ Below w.heap.size w w')
theorem line_len (a : A) : (lineOf a).length ≤ 300 := by
  have := print_len (a := a)
  unfold lineOf
  simp only [List.length_append]
  show _ + _ + _ + _ ≤ _
  have h1 : cn_.length = 8 := rfl
  have h2 : HTTP11.length = 8 := rfl
  simp only [List.length_cons, List.length_nil]
  omega
theorem sign_len {a : A} (h : SmallA a) : (signOf a).length ≤ 1700 := by
  unfold signOf
  rw [List.length_append, sx.enc_len]
  unfold sx.size
  have := h.us
  have := h.ps
  simp only [List.length_append, List.length_cons, List.length_nil]
  omega
theorem small_of {a : A} (h : SmallA a) : Small (lineOf a) (fldsOf a) := by
  have h1 := line_len a
  have h2 := print_len (a := a)
  have h3 := sign_len h
  have h4 := h.tk
  refine ⟨by omega, ?_, ?_⟩
  · unfold fldsOf
    cases a.sg <;> cases a.hp <;> simp
  · intro p hp
    unfold fldsOf at hp
    rcases List.mem_append.1 hp with hp | hp
    · rcases List.mem_append.1 hp with hp | hp
      · simp at hp
        subst hp
        exact ⟨show sHost.length ≤ 2000 by decide, by show (hostp.print _).length ≤ _; omega⟩
      · cases hs : a.sg
        · simp [hs] at hp
        · simp [hs] at hp
          subst hp
          exact ⟨show sSign.length ≤ 2000 by decide, by show (signOf a).length ≤ _; omega⟩
    · cases hs : a.hp
      · simp [hs] at hp
      · simp [hs] at hp
        subst hp
        exact ⟨show sHops.length ≤ 2000 by decide, by show a.tk.length ≤ _; omega⟩
/-- a head on its way -/
structure HW (w W : World) (gh : Nat) (ln : ByteArray) (A : Option Addr) (n c : Nat) (fs : Flds) (cs : Array Value) : Prop where
  box : Lies W w.heap.size 27 cs
  hd : Lies W gh 47 #[.string ln, .slice A n c]
  row : RowF W w.heap.size (.slice A n c) fs
  hn : fs.length = n
  be : Below w.heap.size w W
  ge : w.heap.size < gh
theorem HW.next {w W W' : World} {gh : Nat} {ln : ByteArray} {A : Option Addr} {n c : Nat} {fs : Flds} {cs : Array Value} (H : HW w W gh ln A n c fs cs) (hb : Below W.heap.size W W') : HW w W' gh ln A n c fs cs :=
  ⟨H.box.below hb H.box.lt, H.hd.below hb H.hd.lt, rown_same H.row fun g hg => hb.block g (rown_lt H.row hg).2, H.hn, H.be.trans (hb.mono H.be.size), H.ge⟩
theorem HW.push {w W : World} {gh : Nat} {ln : ByteArray} {A : Option Addr} {n c : Nat} {fs : Flds} {cs : Array Value} (H : HW w W gh ln A n c fs cs) (p : Str × Str) (hl : n ≤ 1000) {m : Nat} (hm : n + 1 = m) :
    ∃ A3 c3 W4, (Builtin.append_ #[45, 45] 45 #[.slice A n c, .slice (some ⟨W.heap.size, 0, none⟩) 1 1]).run Tryz.prog (W.alloc (.cells #[.string (S p.1), .string (S p.2)] 54)) = .ok (.slice A3 (m : Nat) c3) W4 ∧
      Lies W4 gh 47 #[.string ln, .slice A n c] ∧ Lies W4 w.heap.size 27 cs ∧ HW w (W4.setCell ⟨gh, 1, none⟩ (.slice A3 (m : Nat) c3)) gh ln A3 m c3 (fs ++ [p]) cs := by
  subst hm
  have hB : w.heap.size ≤ W.heap.size := H.be.size
  obtain ⟨A3, c3, W4, hrun, ho, hk⟩ := pushF H.row H.hn hB p (by omega)
  have ne : ∀ {g : Nat} {t : TypeId} {cs : Array Value}, Lies W g t cs → 54 ≠ t → (Value.slice A n c).ownBlock ≠ some g := fun h ht => rown_ne H.row h ht
  have hm4 : Lies W4 gh 47 #[.string ln, .slice A n c] := H.hd.of_same (hk.block _ H.hd.lt (ne H.hd (by decide)))
  have hx4 : Lies W4 w.heap.size 27 cs := H.box.of_same (hk.block _ H.box.lt (ne H.box (by decide)))
  have hb4 : Below w.heap.size w W4 := H.be.trans (hk.below hB fun k h1 h2 => by have := (rown_lt H.row h2).1; omega)
  have hge := H.ge
  refine ⟨A3, c3, W4, hrun, hm4, hx4, hx4.far (p := ⟨gh, 1, none⟩) (by show w.heap.size ≠ gh; omega) _, hm4.set 1 _, ?_, by simp [H.hn], hb4.setCell (p := ⟨gh, 1, none⟩) (by show w.heap.size ≤ gh; omega) _, H.ge⟩
  exact rown_same ho fun g hg => Below.heap_setCell _ _ _ _ fun e => rown_ne ho hm4 (by decide) (by rw [hg]; exact congrArg some e)
theorem pr_of {a : A} {w W w' : World} {e : Ending} (hm : mayA a = true) (hb : Below w.heap.size w W) {fs : Flds} (hf : fs = fldsOf a) (h : PrintTo (lineOf a) fs W e w') : PrTo a w e w' := by
  subst hf
  refine ⟨fun _ => ⟨fun hp => ?_, fun hp => ?_⟩, fun h' => by rw [hm] at h'; cases h'⟩
  · obtain ⟨A, c, rfl, hr, hb2⟩ := h.1 hp
    exact ⟨A, c, rfl, hr.weak hb.size, hb.trans (hb2.mono hb.size)⟩
  · obtain ⟨rfl, hb2⟩ := h.2 hp
    exact ⟨rfl, hb.trans (hb2.mono hb.size)⟩
theorem pr_form {l : Str} {fs : Flds} {w w' : World} {e : Ending} (h : PrintTo l fs w e w') : ∃ A n c q, e = .returned (.tuple #[.slice A n c, .int .i64 q]) := by
  by_cases hp : prints l fs
  · obtain ⟨A, c, rfl, _⟩ := h.1 hp
    exact ⟨_, _, _, _, rfl⟩
  · obtain ⟨rfl, _⟩ := h.2 hp
    exact ⟨_, _, _, _, rfl⟩
theorem enc_call {w : World} (s : Str) (hs : s.length ≤ 9000) : ∃ W1 c, (convert 9 29 (.string (S s))).run Tryz.prog w = .ok (.slice (some ⟨w.heap.size, 0, none⟩) s.length c) W1 ∧ Below w.heap.size w W1 ∧
    Calls Tryz.prog 31 #[.slice (some ⟨w.heap.size, 0, none⟩) s.length c] W1 (Gives (.string (S (sx.enc s))) W1) := by
  have hconv := conv_any (S s) w
  rw [S_size] at hconv
  have hsp : Spell (Lib.bytesWorld w 5 (S s)) (fun g => g < (Lib.bytesWorld w 5 (S s)).heap.size) (some ⟨w.heap.size, 0, none⟩) s.length (grownCap w s.length 0 5) s := (conv_row s w (by omega)).spell rfl
  refine ⟨_, _, hconv, conv_below (S s) w, ?_⟩
  exact sx.encode_any (b := s) ⟨hsp.len, hsp.cap, hsp.non, hsp.max, hsp.rng, hsp.lies⟩ (by omega)
set_option maxRecDepth 100000 in
set_option maxHeartbeats 16000000 in
theorem cprint_any {w : World} (he : hw.Env w) (a : A) (hz : SmallA a) : Calls Tryz.prog 11 #[av a] w (PrTo a w) := by
  have hbox := Lies.new w 27 #[.int .u8 (a.k : Int), .string (S a.t), .int .i64 a.p, .bool a.sg, .string (S a.us), .string (S a.ps), .bool a.hp, .string (S a.tk)]
  have hb1 : Below w.heap.size w (w.alloc (.cells #[.int .u8 (a.k : Int), .string (S a.t), .int .i64 a.p, .bool a.sg, .string (S a.us), .string (S a.ps), .bool a.hp, .string (S a.tk)] 27)) := (Below.refl _ _).alloc (Nat.le_refl _) _
  have HX := Bx.mk hbox
  have HB := Bx.mk hb1
  have HE := Bx.mk he
  have HZ := Bx.mk hz
  have HM := Bx.mk (fun w => may_any a w hz.us hz.ps)
  have HPr := Bx.mk (fun (w : World) (he : hw.Env w) => print_call he a)
  obtain ⟨at_, hat⟩ : ∃ at_, hostp.print (tgtOf a) = at_ := ⟨_, rfl⟩
  have hatl : at_.length ≤ 200 := by rw [← hat]; exact print_len
  have hln : lineOf a = cn_ ++ at_ ++ [32] ++ HTTP11 := by unfold lineOf; rw [hat]
  rw [hat] at HPr
  have HAT := Bx.mk hat
  obtain ⟨l1, hl1⟩ : ∃ x, x = S (cn_ ++ at_) := ⟨_, rfl⟩
  obtain ⟨l2, hl2⟩ : ∃ x, x = S (cn_ ++ at_ ++ [32]) := ⟨_, rfl⟩
  obtain ⟨ln, hl3⟩ : ∃ x, x = S (lineOf a) := ⟨_, rfl⟩
  have c1 : ∀ W, (Op.stringOp .add ⟨#[67, 79, 78, 78, 69, 67, 84, 32]⟩ (S at_)).run Tryz.prog W = .ok (.string l1) W := fun W => by rw [hl1]; exact cat cn_ at_ (by decide) (by omega) W
  have c2 : ∀ W, (Op.stringOp .add l1 ⟨#[32]⟩).run Tryz.prog W = .ok (.string l2) W := fun W => by rw [hl1, hl2]; exact cat _ [32] (by rw [List.length_append]; have : cn_.length = 8 := rfl; omega) (by decide) W
  have c3 : ∀ W, (Op.stringOp .add l2 ⟨#[72, 84, 84, 80, 47, 49, 46, 49]⟩).run Tryz.prog W = .ok (.string ln) W := fun W => by rw [hl2, hl3, hln]; exact cat _ HTTP11 (by rw [List.length_append, List.length_append]; have : cn_.length = 8 := rfl; simp only [List.length_cons, List.length_nil]; omega) (by decide) W
  have HLN := Bx.mk hl3
  cases hm : mayA a with
  | false =>
    simp only [hm] at HM
    have hno : ∀ w', Below w.heap.size w w' → PrTo a w (.returned (.tuple #[.slice none 0 0, .int .i64 2])) w' := fun w' hb => ⟨fun h => (by rw [hm] at h; cases h), fun _ => ⟨rfl, hb⟩⟩
    have HNo := Bx.mk hno
    have hv : ∀ x, x = av a → Calls Tryz.prog 11 #[x] w (PrTo a w) := fun x hx => by
      unfold av at HM hx
      generalize hk : (a.k : Int) = k at *
      generalize ht : S a.t = t at *
      generalize hp : a.p = p at *
      generalize hsg : a.sg = sg at *
      generalize hus : S a.us = us at *
      generalize hps : S a.ps = ps at *
      generalize hhp : a.hp = hp' at *
      generalize htk : S a.tk = tk at *
      subst hx
      clear hno hm hbox hb1 he hz hat hatl hln hl1 hl2 hl3 c1 c2 c3 hk ht hp hsg hus hps hhp htk
      go_enter Tryz.func11, Tryz.ntmps11
      go_upto_region 1 with fail
      generalize w.alloc (.cells #[.int .u8 k, .string t, .int .i64 p, .bool sg, .string us, .string ps, .bool hp', .string tk] 27) = W1 at *
      obtain ⟨r0, r1, r2, r3, r4, r5, r6, r7⟩ := eight HX.out
      go_wp2_with fail
      refine (HM.out _).mono ?_
      rintro e w2 ⟨rfl, hb2⟩
      have HB2 := Bx.mk (HB.out.trans (hb2.mono HB.out.size))
      clear hb2
      go_wp2_with fail
      exact bodyPost_ret (v := .tuple #[.slice none 0 0, .int .i64 2]) (by simp [results, Tryz.results11, go_sem]) rfl (HNo.out _ HB2.out)
    exact hv _ rfl
  | true =>
    simp only [hm] at HM
    have HMa := Bx.mk hm
    have hfl : fldsOf a = [(sHost, at_)] ++ (if a.sg then [(sSign, signOf a)] else []) ++ (if a.hp then [(sHops, a.tk)] else []) := by unfold fldsOf; rw [hat]
    have c4 : ∀ W, (Op.stringOp .add (S a.us) ⟨#[58]⟩).run Tryz.prog W = .ok (.string (S (a.us ++ [58]))) W := fun W => cat _ [58] (by have := hz.us; omega) (by decide) W
    have c5 : ∀ W, (Op.stringOp .add (S (a.us ++ [58])) (S a.ps)).run Tryz.prog W = .ok (.string (S (a.us ++ [58] ++ a.ps))) W := fun W => cat _ _ (by rw [List.length_append]; have := hz.us; simp only [List.length_cons, List.length_nil]; omega) (by have := hz.ps; omega) W
    have hsl := sign_len hz
    have c6 : ∀ W, (Op.stringOp .add ⟨#[66, 97, 115, 105, 99, 32]⟩ (S (sx.enc (a.us ++ [58] ++ a.ps)))).run Tryz.prog W = .ok (.string (S (signOf a))) W := fun W => cat [66, 97, 115, 105, 99, 32] _ (by decide) (by unfold signOf at hsl; rw [List.length_append] at hsl; omega) W
    have HEn := Bx.mk (fun (w : World) => enc_call (w := w) (a.us ++ [58] ++ a.ps) (by have := hz.us; have := hz.ps; simp only [List.length_append, List.length_cons, List.length_nil]; omega))
    have HFL := Bx.mk hfl
    have hv : ∀ x, x = av a → Calls Tryz.prog 11 #[x] w (PrTo a w) := fun x hx => by
      unfold av at HM hx
      generalize hk : (a.k : Int) = k at *
      generalize ht : S a.t = t at *
      generalize hp : a.p = p at *
      generalize hpl : (a.us ++ [58] ++ a.ps).length = pl at *
      generalize S (a.us ++ [58] ++ a.ps) = sup at *
      generalize S (sx.enc (a.us ++ [58] ++ a.ps)) = sen at *
      generalize S (a.us ++ [58]) = su1 at *
      generalize S a.us = us at *
      generalize S a.ps = ps at *
      clear hm hbox hb1 he hz hat hatl hln hl1 hl2 hl3 hfl hsl hk ht hp
      cases hsg : a.sg <;> cases hhp : a.hp
      · rw [hsg, hhp] at hx HM HX HB HFL
        subst hx
        clear hsg hhp
        go_enter Tryz.func11, Tryz.ntmps11
        go_upto_region 1 with fail
        generalize w.alloc (.cells #[.int .u8 k, .string t, .int .i64 p, .bool false, .string us, .string ps, .bool false, .string (S a.tk)] 27) = W1 at *
        obtain ⟨r0, r1, r2, r3, r4, r5, r6, r7⟩ := eight HX.out
        go_wp2_with fail
        refine (HM.out _).mono ?_
        rintro e w2 ⟨rfl, hb2⟩
        have HB2 := Bx.mk (HB.out.trans (hb2.mono HB.out.size))
        have HX2 := Bx.mk (HX.out.below hb2 HX.out.lt)
        clear hb2 HB HX r0 r1 r2 r3 r4 r5 r6 r7 HM
        obtain ⟨r0, r1, r2, r3, r4, r5, r6, r7⟩ := eight HX2.out
        have HP2 := Bx.mk (HPr.out w2 (HE.out.below HB2.out))
        go_wp2_with fail
        refine HP2.out.mono ?_
        rintro e w3 ⟨rfl, hb3⟩
        have h0 : HW w ((w3.alloc (.cells #[.string (S sHost), .string (S at_)] 54)).alloc (.cells #[.string ln, .slice (some ⟨w3.heap.size, 0, none⟩) 1 1] 47)) (w3.heap.size + 1) ln (some ⟨w3.heap.size, 0, none⟩) 1 1 [(sHost, at_)] #[.int .u8 k, .string t, .int .i64 p, .bool false, .string us, .string ps, .bool false, .string (S a.tk)] := by
          have hx3 := HX2.out.below hb3 HX2.out.lt
          have hal := (Below.refl w3.heap.size w3).alloc (Nat.le_refl _) (.cells #[.string (S sHost), .string (S at_)] 54)
          have hal2 := hal.alloc hal.size (.cells #[.string ln, .slice (some ⟨w3.heap.size, 0, none⟩) 1 1] 47)
          have hb : Below w.heap.size w w3 := HB2.out.trans (hb3.mono HB2.out.size)
          have hl := Lies.new (w3.alloc (.cells #[.string (S sHost), .string (S at_)] 54)) 47 #[.string ln, .slice (some ⟨w3.heap.size, 0, none⟩) 1 1]
          rw [show (w3.alloc (.cells #[.string (S sHost), .string (S at_)] 54)).heap.size = w3.heap.size + 1 by simp] at hl
          have ho := World.ownsRow_lit (base := w.heap.size) (e := 54) (size := 2) w3 #[.string (S sHost), .string (S at_)] 1 hb.size (by unfold maxLen; omega) rfl
          refine ⟨hx3.below hal2 hx3.lt, hl, rown_same ho fun g hg => Below.heap_alloc _ _ _ (rown_lt ho hg).2, rfl, hb.trans (hal2.mono hb.size), by have := hx3.lt; omega⟩
        have H := Bx.mk h0
        clear h0 hb3 HX2 HB2 HP2 HPr r0 r1 r2 r3 r4 r5 r6 r7
        go_upto_region 5 with fail
        change Code.wp _ _ _ _ ((w3.alloc (.cells #[.string (S sHost), .string (S at_)] 54)).alloc (.cells #[.string ln, .slice (some ⟨w3.heap.size, 0, none⟩) 1 1] 47))
        generalize ((w3.alloc (.cells #[.string (S sHost), .string (S at_)] 54)).alloc (.cells #[.string ln, .slice (some ⟨w3.heap.size, 0, none⟩) 1 1] 47)) = W at *
        generalize w3.heap.size + 1 = gh at *
        generalize w3.heap.size = gr at *
        obtain ⟨r0, r1, r2, r3, r4, r5, r6, r7⟩ := eight H.out.box
        have y0 := H.out.hd.cell 0; have y1 := H.out.hd.cell 1
        simp at y0 y1
        have hfs : [(sHost, at_)] = fldsOf a := by rw [HFL.out]; simp
        have hsm := small_of HZ.out
        rw [← hfs] at hsm
        have hpp := print_any (l := lineOf a) (rowF_at H.out.row H.out.hn) (fun g hg => hg) hsm
        rw [← HLN.out] at hpp
        have HPP := Bx.mk hpp
        have HFS := Bx.mk hfs
        clear hpp hsm hfs
        go_wp2_with fail
        refine HPP.out.mono ?_
        intro e w' hpr
        have HF := Bx.mk (pr_of HMa.out H.out.be HFS.out hpr)
        obtain ⟨A9, n9, c9, q9, rfl⟩ := pr_form hpr
        clear hpr
        go_wp2_with fail
        exact bodyPost_ret (v := .tuple #[.slice A9 n9 c9, .int .i64 q9]) (by simp [results, Tryz.results11, go_sem]) rfl HF.out
      · rw [hsg, hhp] at hx HM HX HB HFL
        subst hx
        clear hsg hhp
        go_enter Tryz.func11, Tryz.ntmps11
        go_upto_region 1 with fail
        generalize w.alloc (.cells #[.int .u8 k, .string t, .int .i64 p, .bool false, .string us, .string ps, .bool true, .string (S a.tk)] 27) = W1 at *
        obtain ⟨r0, r1, r2, r3, r4, r5, r6, r7⟩ := eight HX.out
        go_wp2_with fail
        refine (HM.out _).mono ?_
        rintro e w2 ⟨rfl, hb2⟩
        have HB2 := Bx.mk (HB.out.trans (hb2.mono HB.out.size))
        have HX2 := Bx.mk (HX.out.below hb2 HX.out.lt)
        clear hb2 HB HX r0 r1 r2 r3 r4 r5 r6 r7 HM
        obtain ⟨r0, r1, r2, r3, r4, r5, r6, r7⟩ := eight HX2.out
        have HP2 := Bx.mk (HPr.out w2 (HE.out.below HB2.out))
        go_wp2_with fail
        refine HP2.out.mono ?_
        rintro e w3 ⟨rfl, hb3⟩
        have h0 : HW w ((w3.alloc (.cells #[.string (S sHost), .string (S at_)] 54)).alloc (.cells #[.string ln, .slice (some ⟨w3.heap.size, 0, none⟩) 1 1] 47)) (w3.heap.size + 1) ln (some ⟨w3.heap.size, 0, none⟩) 1 1 [(sHost, at_)] #[.int .u8 k, .string t, .int .i64 p, .bool false, .string us, .string ps, .bool true, .string (S a.tk)] := by
          have hx3 := HX2.out.below hb3 HX2.out.lt
          have hal := (Below.refl w3.heap.size w3).alloc (Nat.le_refl _) (.cells #[.string (S sHost), .string (S at_)] 54)
          have hal2 := hal.alloc hal.size (.cells #[.string ln, .slice (some ⟨w3.heap.size, 0, none⟩) 1 1] 47)
          have hb : Below w.heap.size w w3 := HB2.out.trans (hb3.mono HB2.out.size)
          have hl := Lies.new (w3.alloc (.cells #[.string (S sHost), .string (S at_)] 54)) 47 #[.string ln, .slice (some ⟨w3.heap.size, 0, none⟩) 1 1]
          rw [show (w3.alloc (.cells #[.string (S sHost), .string (S at_)] 54)).heap.size = w3.heap.size + 1 by simp] at hl
          have ho := World.ownsRow_lit (base := w.heap.size) (e := 54) (size := 2) w3 #[.string (S sHost), .string (S at_)] 1 hb.size (by unfold maxLen; omega) rfl
          refine ⟨hx3.below hal2 hx3.lt, hl, rown_same ho fun g hg => Below.heap_alloc _ _ _ (rown_lt ho hg).2, rfl, hb.trans (hal2.mono hb.size), by have := hx3.lt; omega⟩
        have H := Bx.mk h0
        clear h0 hb3 HX2 HB2 HP2 HPr r0 r1 r2 r3 r4 r5 r6 r7
        go_upto_region 5 with fail
        change Code.wp _ _ _ _ ((w3.alloc (.cells #[.string (S sHost), .string (S at_)] 54)).alloc (.cells #[.string ln, .slice (some ⟨w3.heap.size, 0, none⟩) 1 1] 47))
        generalize ((w3.alloc (.cells #[.string (S sHost), .string (S at_)] 54)).alloc (.cells #[.string ln, .slice (some ⟨w3.heap.size, 0, none⟩) 1 1] 47)) = W at *
        generalize w3.heap.size + 1 = gh at *
        generalize w3.heap.size = gr at *
        obtain ⟨r0, r1, r2, r3, r4, r5, r6, r7⟩ := eight H.out.box
        obtain ⟨A5, c5', W6, hrun2, q1, q2, hnx⟩ := H.out.push (sHops, a.tk) (by omega) (m := 2) rfl
        have z1 := H.out.hd.cell 1
        simp at z1
        have HR2 := Bx.mk hrun2
        have H6 := Bx.mk hnx
        have hge2 := H.out.ge
        have u0 := q1.cell 0; have u1 := q1.cell 1; have uf := q1.frozen 1
        simp at u0 u1
        clear hrun2 hnx H q1 q2
        have H := H6
        clear H6
        have hfs : [(sHost, at_)] ++ [(sHops, a.tk)] = fldsOf a := by rw [HFL.out]; simp
        have hsm := small_of HZ.out
        rw [← hfs] at hsm
        have hpp := print_any (l := lineOf a) (rowF_at H.out.row H.out.hn) (fun g hg => hg) hsm
        rw [← HLN.out] at hpp
        have HPP := Bx.mk hpp
        have HFS := Bx.mk hfs
        clear hpp hsm hfs
        go_wp2_with (at_builtin; first | (refine wpList_append_g rfl _ _ 45 45 rfl rfl rfl rfl HR.out ?_; clear HR) | (refine wpList_append_g rfl _ _ 45 45 rfl rfl rfl rfl HR2.out ?_; clear HR2))
        refine HPP.out.mono ?_
        intro e w' hpr
        have HF := Bx.mk (pr_of HMa.out H.out.be HFS.out hpr)
        obtain ⟨A9, n9, c9, q9, rfl⟩ := pr_form hpr
        clear hpr
        go_wp2_with fail
        exact bodyPost_ret (v := .tuple #[.slice A9 n9 c9, .int .i64 q9]) (by simp [results, Tryz.results11, go_sem]) rfl HF.out
      · rw [hsg, hhp] at hx HM HX HB HFL
        subst hx
        clear hsg hhp
        go_enter Tryz.func11, Tryz.ntmps11
        go_upto_region 1 with fail
        generalize w.alloc (.cells #[.int .u8 k, .string t, .int .i64 p, .bool true, .string us, .string ps, .bool false, .string (S a.tk)] 27) = W1 at *
        obtain ⟨r0, r1, r2, r3, r4, r5, r6, r7⟩ := eight HX.out
        go_wp2_with fail
        refine (HM.out _).mono ?_
        rintro e w2 ⟨rfl, hb2⟩
        have HB2 := Bx.mk (HB.out.trans (hb2.mono HB.out.size))
        have HX2 := Bx.mk (HX.out.below hb2 HX.out.lt)
        clear hb2 HB HX r0 r1 r2 r3 r4 r5 r6 r7 HM
        obtain ⟨r0, r1, r2, r3, r4, r5, r6, r7⟩ := eight HX2.out
        have HP2 := Bx.mk (HPr.out w2 (HE.out.below HB2.out))
        go_wp2_with fail
        refine HP2.out.mono ?_
        rintro e w3 ⟨rfl, hb3⟩
        have h0 : HW w ((w3.alloc (.cells #[.string (S sHost), .string (S at_)] 54)).alloc (.cells #[.string ln, .slice (some ⟨w3.heap.size, 0, none⟩) 1 1] 47)) (w3.heap.size + 1) ln (some ⟨w3.heap.size, 0, none⟩) 1 1 [(sHost, at_)] #[.int .u8 k, .string t, .int .i64 p, .bool true, .string us, .string ps, .bool false, .string (S a.tk)] := by
          have hx3 := HX2.out.below hb3 HX2.out.lt
          have hal := (Below.refl w3.heap.size w3).alloc (Nat.le_refl _) (.cells #[.string (S sHost), .string (S at_)] 54)
          have hal2 := hal.alloc hal.size (.cells #[.string ln, .slice (some ⟨w3.heap.size, 0, none⟩) 1 1] 47)
          have hb : Below w.heap.size w w3 := HB2.out.trans (hb3.mono HB2.out.size)
          have hl := Lies.new (w3.alloc (.cells #[.string (S sHost), .string (S at_)] 54)) 47 #[.string ln, .slice (some ⟨w3.heap.size, 0, none⟩) 1 1]
          rw [show (w3.alloc (.cells #[.string (S sHost), .string (S at_)] 54)).heap.size = w3.heap.size + 1 by simp] at hl
          have ho := World.ownsRow_lit (base := w.heap.size) (e := 54) (size := 2) w3 #[.string (S sHost), .string (S at_)] 1 hb.size (by unfold maxLen; omega) rfl
          refine ⟨hx3.below hal2 hx3.lt, hl, rown_same ho fun g hg => Below.heap_alloc _ _ _ (rown_lt ho hg).2, rfl, hb.trans (hal2.mono hb.size), by have := hx3.lt; omega⟩
        have H := Bx.mk h0
        clear h0 hb3 HX2 HB2 HP2 HPr r0 r1 r2 r3 r4 r5 r6 r7
        go_upto_region 5 with fail
        change Code.wp _ _ _ _ ((w3.alloc (.cells #[.string (S sHost), .string (S at_)] 54)).alloc (.cells #[.string ln, .slice (some ⟨w3.heap.size, 0, none⟩) 1 1] 47))
        generalize ((w3.alloc (.cells #[.string (S sHost), .string (S at_)] 54)).alloc (.cells #[.string ln, .slice (some ⟨w3.heap.size, 0, none⟩) 1 1] 47)) = W at *
        generalize w3.heap.size + 1 = gh at *
        generalize w3.heap.size = gr at *
        obtain ⟨r0, r1, r2, r3, r4, r5, r6, r7⟩ := eight H.out.box
        obtain ⟨We, ce, V, be, te⟩ := HEn.out W
        have TE := Bx.mk te
        have H2 := Bx.mk (H.out.next be)
        clear te be
        go_wp2_with fail
        refine TE.out.mono ?_
        rintro e w5 ⟨rfl, hb5⟩
        have H3 := Bx.mk (H2.out.next hb5)
        obtain ⟨A3, c3', W4, hrun, q1, q2, hnx⟩ := H3.out.push (sSign, signOf a) (by omega) (m := 2) rfl
        have z1 := H3.out.hd.cell 1
        simp at z1
        have HR := Bx.mk hrun
        have H4 := Bx.mk hnx
        have hge := H3.out.ge
        have t0 := q1.cell 0; have t1 := q1.cell 1; have tf := q1.frozen 1
        simp at t0 t1
        clear hb5 V hrun hnx H H2 TE r0 r1 r2 r3 r4 r5 r6 r7 HEn
        obtain ⟨r0, r1, r2, r3, r4, r5, r6, r7⟩ := eight q2
        clear q1 q2 H3
        have H := H4
        clear H4
        have hfs : [(sHost, at_)] ++ [(sSign, signOf a)] = fldsOf a := by rw [HFL.out]; simp
        have hsm := small_of HZ.out
        rw [← hfs] at hsm
        have hpp := print_any (l := lineOf a) (rowF_at H.out.row H.out.hn) (fun g hg => hg) hsm
        rw [← HLN.out] at hpp
        have HPP := Bx.mk hpp
        have HFS := Bx.mk hfs
        clear hpp hsm hfs
        go_wp2_with (at_builtin; first | (refine wpList_append_g rfl _ _ 45 45 rfl rfl rfl rfl HR.out ?_; clear HR) | (refine wpList_append_g rfl _ _ 45 45 rfl rfl rfl rfl HR2.out ?_; clear HR2))
        refine HPP.out.mono ?_
        intro e w' hpr
        have HF := Bx.mk (pr_of HMa.out H.out.be HFS.out hpr)
        obtain ⟨A9, n9, c9, q9, rfl⟩ := pr_form hpr
        clear hpr
        go_wp2_with fail
        exact bodyPost_ret (v := .tuple #[.slice A9 n9 c9, .int .i64 q9]) (by simp [results, Tryz.results11, go_sem]) rfl HF.out
      · rw [hsg, hhp] at hx HM HX HB HFL
        subst hx
        clear hsg hhp
        go_enter Tryz.func11, Tryz.ntmps11
        go_upto_region 1 with fail
        generalize w.alloc (.cells #[.int .u8 k, .string t, .int .i64 p, .bool true, .string us, .string ps, .bool true, .string (S a.tk)] 27) = W1 at *
        obtain ⟨r0, r1, r2, r3, r4, r5, r6, r7⟩ := eight HX.out
        go_wp2_with fail
        refine (HM.out _).mono ?_
        rintro e w2 ⟨rfl, hb2⟩
        have HB2 := Bx.mk (HB.out.trans (hb2.mono HB.out.size))
        have HX2 := Bx.mk (HX.out.below hb2 HX.out.lt)
        clear hb2 HB HX r0 r1 r2 r3 r4 r5 r6 r7 HM
        obtain ⟨r0, r1, r2, r3, r4, r5, r6, r7⟩ := eight HX2.out
        have HP2 := Bx.mk (HPr.out w2 (HE.out.below HB2.out))
        go_wp2_with fail
        refine HP2.out.mono ?_
        rintro e w3 ⟨rfl, hb3⟩
        have h0 : HW w ((w3.alloc (.cells #[.string (S sHost), .string (S at_)] 54)).alloc (.cells #[.string ln, .slice (some ⟨w3.heap.size, 0, none⟩) 1 1] 47)) (w3.heap.size + 1) ln (some ⟨w3.heap.size, 0, none⟩) 1 1 [(sHost, at_)] #[.int .u8 k, .string t, .int .i64 p, .bool true, .string us, .string ps, .bool true, .string (S a.tk)] := by
          have hx3 := HX2.out.below hb3 HX2.out.lt
          have hal := (Below.refl w3.heap.size w3).alloc (Nat.le_refl _) (.cells #[.string (S sHost), .string (S at_)] 54)
          have hal2 := hal.alloc hal.size (.cells #[.string ln, .slice (some ⟨w3.heap.size, 0, none⟩) 1 1] 47)
          have hb : Below w.heap.size w w3 := HB2.out.trans (hb3.mono HB2.out.size)
          have hl := Lies.new (w3.alloc (.cells #[.string (S sHost), .string (S at_)] 54)) 47 #[.string ln, .slice (some ⟨w3.heap.size, 0, none⟩) 1 1]
          rw [show (w3.alloc (.cells #[.string (S sHost), .string (S at_)] 54)).heap.size = w3.heap.size + 1 by simp] at hl
          have ho := World.ownsRow_lit (base := w.heap.size) (e := 54) (size := 2) w3 #[.string (S sHost), .string (S at_)] 1 hb.size (by unfold maxLen; omega) rfl
          refine ⟨hx3.below hal2 hx3.lt, hl, rown_same ho fun g hg => Below.heap_alloc _ _ _ (rown_lt ho hg).2, rfl, hb.trans (hal2.mono hb.size), by have := hx3.lt; omega⟩
        have H := Bx.mk h0
        clear h0 hb3 HX2 HB2 HP2 HPr r0 r1 r2 r3 r4 r5 r6 r7
        go_upto_region 5 with fail
        change Code.wp _ _ _ _ ((w3.alloc (.cells #[.string (S sHost), .string (S at_)] 54)).alloc (.cells #[.string ln, .slice (some ⟨w3.heap.size, 0, none⟩) 1 1] 47))
        generalize ((w3.alloc (.cells #[.string (S sHost), .string (S at_)] 54)).alloc (.cells #[.string ln, .slice (some ⟨w3.heap.size, 0, none⟩) 1 1] 47)) = W at *
        generalize w3.heap.size + 1 = gh at *
        generalize w3.heap.size = gr at *
        obtain ⟨r0, r1, r2, r3, r4, r5, r6, r7⟩ := eight H.out.box
        obtain ⟨We, ce, V, be, te⟩ := HEn.out W
        have TE := Bx.mk te
        have H2 := Bx.mk (H.out.next be)
        clear te be
        go_wp2_with fail
        refine TE.out.mono ?_
        rintro e w5 ⟨rfl, hb5⟩
        have H3 := Bx.mk (H2.out.next hb5)
        obtain ⟨A3, c3', W4, hrun, q1, q2, hnx⟩ := H3.out.push (sSign, signOf a) (by omega) (m := 2) rfl
        have z1 := H3.out.hd.cell 1
        simp at z1
        have HR := Bx.mk hrun
        have H4 := Bx.mk hnx
        have hge := H3.out.ge
        have t0 := q1.cell 0; have t1 := q1.cell 1; have tf := q1.frozen 1
        simp at t0 t1
        clear hb5 V hrun hnx H H2 TE r0 r1 r2 r3 r4 r5 r6 r7 HEn
        obtain ⟨r0, r1, r2, r3, r4, r5, r6, r7⟩ := eight q2
        clear q1 q2 H3
        have H := H4
        clear H4
        obtain ⟨A5, c5', W6, hrun2, q1, q2, hnx⟩ := H.out.push (sHops, a.tk) (by omega) (m := 3) rfl
        rw [show (W4.setCell ⟨gh, 1, none⟩ (.slice A3 (2 : Nat) c3')).heap.size = W4.heap.size by simp] at hrun2
        have HR2 := Bx.mk hrun2
        have H6 := Bx.mk hnx
        have hge2 := H.out.ge
        have u0 := q1.cell 0; have u1 := q1.cell 1; have uf := q1.frozen 1
        simp at u0 u1
        clear hrun2 hnx H q1 q2
        have H := H6
        clear H6
        have hfs : [(sHost, at_)] ++ [(sSign, signOf a)] ++ [(sHops, a.tk)] = fldsOf a := by rw [HFL.out]; simp
        have hsm := small_of HZ.out
        rw [← hfs] at hsm
        have hpp := print_any (l := lineOf a) (rowF_at H.out.row H.out.hn) (fun g hg => hg) hsm
        rw [← HLN.out] at hpp
        have HPP := Bx.mk hpp
        have HFS := Bx.mk hfs
        clear hpp hsm hfs
        go_wp2_with (at_builtin; first | (refine wpList_append_g rfl _ _ 45 45 rfl rfl rfl rfl HR.out ?_; clear HR z1) | (refine wpList_append_g rfl _ _ 45 45 rfl rfl rfl rfl HR2.out ?_; clear HR2))
        refine HPP.out.mono ?_
        intro e w' hpr
        have HF := Bx.mk (pr_of HMa.out H.out.be HFS.out hpr)
        obtain ⟨A9, n9, c9, q9, rfl⟩ := pr_form hpr
        clear hpr
        go_wp2_with fail
        exact bodyPost_ret (v := .tuple #[.slice A9 n9 c9, .int .i64 q9]) (by simp [results, Tryz.results11, go_sem]) rfl HF.out
    exact hv _ rfl
end Go.Proofs.YtghdaengkgiekaaGreatDoor.cn
