/-
  Given for the seat's laws: the contracts of the reader's methods. No condition but those of the theorems.
-/
import Derived.Test.YtefpplkoohnfbabGreatDoorAKMem
namespace Go.Proofs.YtefpplkoohnfbabGreatDoor.ak
open Go.RowKit mem hostp hw own
set_option linter.unusedVariables false

section
variable {W : World} {B g : Nat} {t : TypeId} {r : R} {rest : List Value}
theorem Rd.cells (h : Rd W B g t r rest) : ∃ A c, Lies W g t (Value.slice A r.l.length c :: .int .i64 (r.k : Int) :: .int .i64 (r.f : Int) :: rest).toArray ∧ Spell W (fun h => h < B) A r.l.length c r.l ∧
    W.cell? ⟨g, 0, none⟩ = some (.slice A r.l.length c) ∧ W.cell? ⟨g, 1, none⟩ = some (.int .i64 (r.k : Int)) ∧ W.cell? ⟨g, 2, none⟩ = some (.int .i64 (r.f : Int)) ∧
    W.frozen? ⟨g, 0, none⟩ = false ∧ W.frozen? ⟨g, 1, none⟩ = false ∧ W.frozen? ⟨g, 2, none⟩ = false := by
  obtain ⟨A, c, hl, hs⟩ := h.lies
  refine ⟨A, c, hl, hs, ?_, ?_, ?_, hl.frozen 0, hl.frozen 1, hl.frozen 2⟩
  · rw [hl.cell]; rfl
  · rw [hl.cell]; rfl
  · rw [hl.cell]; rfl
theorem Rd.setF (h : Rd W B g t r rest) (e : Nat) : Rd (W.setCell ⟨g, 2, none⟩ (.int .i64 (e : Int))) B g t ⟨r.l, r.k, e⟩ rest ∧ Kp g W (W.setCell ⟨g, 2, none⟩ (.int .i64 (e : Int))) := by
  obtain ⟨A, c, hl, hs⟩ := h.lies
  have hb : Below B W (W.setCell ⟨g, 2, none⟩ (.int .i64 (e : Int))) := (Below.refl _ _).setCell (by exact h.ge) _
  refine ⟨⟨⟨A, c, ?_, hs.below hb (fun g hg => hg)⟩, h.ge, h.sum⟩, (kp_refl g W).setCell (.inr rfl) _⟩
  have := hl.set 2 (.int .i64 (e : Int))
  simpa using this
theorem fail_any (h : Rd W B g t r rest) (e : Nat) : Calls Tryz.prog 20 #[.pointer (some ⟨g, 0, none⟩), .int .i64 (e : Int)] W (RdTo (.tuple #[]) B g t (r.fail e) rest W) := by
  obtain ⟨A, c, hl, hs, c0, c1, c2, f0, f1, f2⟩ := h.cells
  by_cases hf : r.f = 0
  · have e0 : r.fail e = ⟨r.l, r.k, e⟩ := by unfold R.fail; rw [if_pos hf]
    have HS := Bx.mk (h.setF e)
    have c2' : W.cell? ⟨g, 2, none⟩ = some (.int .i64 0) := by rw [c2, hf]; rfl
    rw [e0]
    clear h hl hs c0 c1 c2 hf e0
    go_enter Tryz.func20, Tryz.ntmps20
    go_wp2_with fail
    go_end0
    exact ⟨rfl, HS.out.1, HS.out.2⟩
  · have e0 : r.fail e = r := by unfold R.fail; rw [if_neg hf]
    have HS := Bx.mk h
    have q : (((r.f : Nat) : Int) == 0) = false := by simp; omega
    rw [e0]
    generalize ((r.f : Nat) : Int) = z at *
    clear h hl hs c0 c1 hf e0
    go_enter Tryz.func20, Tryz.ntmps20
    go_wp2_with fail
    go_end0
    exact ⟨rfl, HS.out, kp_refl _ _⟩
theorem Rd.strs (h : Rd W B g t r rest) {A : Option Addr} {c n : Nat} (hs : Spell W (fun h => h < B) A r.l.length c r.l) (hn : n ≤ r.l.length) :
    ∃ L d, (∀ V, (Instr.slice 28 (.slice A r.l.length c) (some (.int .i64 (n : Int))) none none).run Tryz.prog V = .ok (.slice L (r.l.length - n) d) V) ∧ (convert 28 9 (.slice A n c)).run Tryz.prog W = .ok (.string (S (r.l.take n))) W ∧ n ≤ c ∧
      ∀ V, V = (W.setCell ⟨g, 0, none⟩ (.slice L (r.l.length - n) d)).setCell ⟨g, 1, none⟩ (.int .i64 ((r.k + n : Nat) : Int)) → r.f = 0 → Rd V B g t ⟨r.l.drop n, r.k + n, 0⟩ rest ∧ Kp g W V := by
  have ht := Src.takeN hs n hn
  rw [ints_take] at ht
  refine ⟨cutA A c n, c - n, fun V => cut_l V A r.l.length c n hn, spell_str ht, by have := hs.cap; omega, ?_⟩
  rintro V rfl hf
  obtain ⟨A', c', hl', hs'⟩ := h.lies
  have hlen := h.sum
  have hd := hs.cut n (r.l.length - n) (by omega)
  rw [ints_drop, ints_take] at hd
  have e1 : (r.l.drop n).take (r.l.length - n) = r.l.drop n := List.take_of_length_le (by simp)
  have e2 : (r.l.drop n).length = r.l.length - n := by simp
  rw [e1] at hd
  have hb : Below B W ((W.setCell ⟨g, 0, none⟩ (.slice (cutA A c n) (r.l.length - n) (c - n))).setCell ⟨g, 1, none⟩ (.int .i64 ((r.k + n : Nat) : Int))) := ((Below.refl _ _).setCell (by exact h.ge) _).setCell (by exact h.ge) _
  refine ⟨⟨⟨cutA A c n, c - n, ?_, ?_⟩, h.ge, ?_⟩, ((kp_refl g W).setCell (.inr rfl) _).setCell (.inr rfl) _⟩
  · have := (hl'.set 0 (.slice (cutA A c n) (r.l.length - n) (c - n))).set 1 (.int .i64 ((r.k + n : Nat) : Int))
    rw [hf] at this
    show Lies _ g t (Value.slice (cutA A c n) (r.l.drop n).length (c - n) :: .int .i64 ((r.k + n : Nat) : Int) :: .int .i64 ((0 : Nat) : Int) :: rest).toArray
    rw [e2]
    simpa using this
  · show Spell _ _ _ (r.l.drop n).length _ (r.l.drop n)
    rw [e2]
    exact hd.below hb (fun g hg => hg)
  · show r.k + n + (r.l.drop n).length ≤ _
    rw [e2]
    omega
set_option maxHeartbeats 2000000 in
set_option maxRecDepth 100000 in
theorem text_any (h : Rd W B g t r rest) (n : Nat) (hn : n ≤ 100000) : Calls Tryz.prog 17 #[.pointer (some ⟨g, 0, none⟩), .int .i64 (n : Int)] W (RdTo (.string (S (r.text n).1)) B g t (r.text n).2 rest W) := by
  obtain ⟨A, c, hl, hs, c0, c1, c2, f0, f1, f2⟩ := h.cells
  have e0 : S [] = ⟨#[]⟩ := rfl
  by_cases hf : r.f = 0
  · by_cases hlt : r.l.length < n
    · have et : r.text n = ([], ⟨r.l, r.k, 5⟩) := by unfold R.text; rw [if_neg (by omega), if_pos hlt]
      have ef : r.fail 5 = ⟨r.l, r.k, 5⟩ := by unfold R.fail; rw [if_pos hf]
      have HF := Bx.mk (fail_any h 5)
      rw [ef] at HF
      rw [et, e0]
      have q : ((r.l.length : Nat) : Int) < (n : Int) := by omega
      clear h hl hs c1 c2 hf hlt et ef
      go_enter Tryz.func17, Tryz.ntmps17
      go_wp2_with fail
      refine HF.out.mono ?_
      rintro e W2 ⟨rfl, h2, b2⟩
      obtain ⟨A, c, hl, hs, c0, c1, c2, f0, f1, f2⟩ := h2.cells
      have c2' : W2.cell? ⟨g, 2, none⟩ = some (.int .i64 5) := c2
      have H2 := Bx.mk h2
      have B2 := Bx.mk b2
      clear h2 b2 hl hs c0 c1 c2
      go_wp2_with fail
      exact bodyPost_ret (v := .string ⟨#[]⟩) (by simp [results, Tryz.results17, go_sem]) rfl ⟨rfl, H2.out, B2.out⟩
    · have et : r.text n = (r.l.take n, ⟨r.l.drop n, r.k + n, 0⟩) := by unfold R.text; rw [if_neg (by omega), if_neg hlt]
      obtain ⟨L, d, q1, q2, hnc, hV⟩ := h.strs hs (show n ≤ r.l.length by omega)
      have hsum := h.sum
      have hcap := hs.cap
      have hmax := hs.max
      have HV := Bx.mk hV
      have c2' : W.cell? ⟨g, 2, none⟩ = some (.int .i64 0) := by rw [c2, hf]; rfl
      have HF := Bx.mk hf
      have q3 : ((r.k + n : Nat) : Int) = (r.k : Int) + (n : Int) := by omega
      rw [q3] at HV
      rw [et]
      have q : ¬ ((r.l.length : Nat) : Int) < (n : Int) := by omega
      have q4 : r.k ≤ 100000 := by omega
      have q5 : n ≤ r.l.length := by omega
      clear h hl hs hlt et hV hf c2 q3
      generalize r.l.length = m at *
      generalize S (r.l.take n) = s at *
      generalize r.k = k at *
      go_enter Tryz.func17, Tryz.ntmps17
      go_wp2_with fail
      obtain ⟨h1, h2⟩ := HV.out _ rfl HF.out
      exact bodyPost_ret (v := .string s) (by simp [results, Tryz.results17, go_sem]) rfl ⟨rfl, h1, h2⟩
  · have et : r.text n = ([], r) := text_bad hf n
    have q1 : (((r.f : Nat) : Int) != 0) = true := by simp; omega
    rw [et, e0]
    by_cases hlt : r.l.length < n
    · have HF := Bx.mk (fail_any h 5)
      rw [fail_bad hf] at HF
      have q : ((r.l.length : Nat) : Int) < (n : Int) := by omega
      clear h hl hs c1 c2 hf hlt et
      go_enter Tryz.func17, Tryz.ntmps17
      go_wp2_with fail
      refine HF.out.mono ?_
      rintro e W2 ⟨rfl, h2, b2⟩
      obtain ⟨A, c, hl, hs, c0, c1, c2, f0, f1, f2⟩ := h2.cells
      have H2 := Bx.mk h2
      have B2 := Bx.mk b2
      clear h2 b2 hl hs c0 c1
      go_wp2_with fail
      exact bodyPost_ret (v := .string ⟨#[]⟩) (by simp [results, Tryz.results17, go_sem]) rfl ⟨rfl, H2.out, B2.out⟩
    · have H2 := Bx.mk h
      have q : ¬ ((r.l.length : Nat) : Int) < (n : Int) := by omega
      clear h hl hs c1 hf hlt et
      go_enter Tryz.func17, Tryz.ntmps17
      go_wp2_with fail
      exact bodyPost_ret (v := .string ⟨#[]⟩) (by simp [results, Tryz.results17, go_sem]) rfl ⟨rfl, H2.out, kp_refl _ _⟩
/-- what one byte's text is -/
theorem text_one (r : R) : (r.text 1).1 = [] ∨ ∃ c, (r.text 1).1 = [c] := by
  unfold R.text
  split
  · exact .inl rfl
  · split
    · exact .inl rfl
    · rename_i h1 h2
      match hl : r.l with
      | [] => rw [hl] at h2; simp at h2
      | c :: l => exact .inr ⟨c, rfl⟩
set_option maxHeartbeats 1000000 in
theorem next_any (h : Rd W B g t r rest) : Calls Tryz.prog 21 #[.pointer (some ⟨g, 0, none⟩)] W (RdTo (.int .u8 (r.next.1.toNat : Int)) B g t r.next.2 rest W) := by
  have HT := Bx.mk (text_any h 1 (by omega))
  clear h
  unfold R.next
  rcases text_one r with e | ⟨c, e⟩
  · rw [e] at HT ⊢
    generalize (r.text 1).2 = r2 at *
    have e0 : S [] = ⟨#[]⟩ := rfl
    rw [e0] at HT
    clear e
    go_enter Tryz.func21, Tryz.ntmps21
    go_wp2_with fail
    refine HT.out.mono ?_
    rintro e W2 ⟨rfl, h2, b2⟩
    have H2 := Bx.mk h2
    have B2 := Bx.mk b2
    clear h2 b2
    go_wp2_with fail
    exact bodyPost_ret (v := .int .u8 0) (by simp [results, Tryz.results21, go_sem]) rfl ⟨rfl, H2.out, B2.out⟩
  · rw [e] at HT ⊢
    generalize (r.text 1).2 = r2 at *
    have e0 : S [c] = ⟨#[c]⟩ := rfl
    rw [e0] at HT
    clear e
    go_enter Tryz.func21, Tryz.ntmps21
    go_wp2_with fail
    refine HT.out.mono ?_
    rintro e W2 ⟨rfl, h2, b2⟩
    have H2 := Bx.mk h2
    have B2 := Bx.mk b2
    clear h2 b2
    go_wp2_with fail
    exact bodyPost_ret (v := .int .u8 (c.toNat : Int)) (by simp [results, Tryz.results21, go_sem]; rfl) rfl ⟨rfl, H2.out, B2.out⟩
set_option maxHeartbeats 1000000 in
theorem only_any (h : Rd W B g t r rest) (c : UInt8) (e : Nat) : Calls Tryz.prog 15 #[.pointer (some ⟨g, 0, none⟩), .int .u8 (c.toNat : Int), .int .i64 (e : Int)] W (RdTo (.tuple #[]) B g t (r.only c e) rest W) := by
  have HT := Bx.mk (next_any h)
  clear h
  unfold R.only
  generalize r.next.2 = r2 at *
  generalize r.next.1 = x at *
  by_cases hx : x = c
  · subst hx
    rw [if_pos rfl]
    go_enter Tryz.func15, Tryz.ntmps15
    go_wp2_with fail
    refine HT.out.mono ?_
    rintro e W2 ⟨rfl, h2, b2⟩
    have H2 := Bx.mk h2
    have B2 := Bx.mk b2
    clear h2 b2
    go_wp2_with fail
    go_end0
    exact ⟨rfl, H2.out, B2.out⟩
  · rw [if_neg hx]
    have q : ((x.toNat : Int) != (c.toNat : Int)) = true := by
      rw [bne_iff_ne]
      intro e
      exact hx (UInt8.toNat_inj.1 (by omega))
    generalize (x.toNat : Int) = z at *
    generalize (c.toNat : Int) = y at *
    clear hx
    go_enter Tryz.func15, Tryz.ntmps15
    go_wp2_with fail
    refine HT.out.mono ?_
    rintro e W2 ⟨rfl, h2, b2⟩
    have H2 := Bx.mk h2
    have B2 := Bx.mk b2
    clear h2 b2
    go_wp2_with fail
    refine (fail_any H2.out _).mono ?_
    rintro e W3 ⟨rfl, h3, b3⟩
    have H3 := Bx.mk h3
    have B3 := Bx.mk b3
    clear h3 b3
    go_wp2_with fail
    go_end0
    exact ⟨rfl, H3.out, kp_trans B2.out B3.out⟩
theorem u8_neI {x c : UInt8} (h : x ≠ c) : ((x.toNat : Int) == (c.toNat : Int)) = false := by
  rw [beq_eq_false_iff_ne]
  intro e
  exact h (UInt8.toNat_inj.1 (by omega))
def AddrTo (k n : Nat) (B g : Nat) (t : TypeId) (r : R) (rest : List Value) (W : World) (e : Ending) (W' : World) : Prop := e = .returned (.tuple #[.int .u8 (k : Int), .int .i64 (n : Int)]) ∧ Rd W' B g t r rest ∧ Kp g W W'
set_option maxHeartbeats 1000000 in
theorem addr_any (h : Rd W B g t r rest) (e : Nat) : Calls Tryz.prog 16 #[.pointer (some ⟨g, 0, none⟩), .int .i64 (e : Int)] W (AddrTo (r.addr e).1.1 (r.addr e).1.2 B g t (r.addr e).2 rest W) := by
  have HT := Bx.mk (next_any h)
  clear h
  unfold R.addr
  generalize r.next.2 = r2 at *
  generalize r.next.1 = x at *
  by_cases h1 : x = 1
  · subst h1
    rw [if_pos rfl]
    have HT2 : Bx (Calls Tryz.prog 21 #[.pointer (some ⟨g, 0, none⟩)] W (RdTo (.int .u8 1) B g t r2 rest W)) := HT
    clear HT
    go_enter Tryz.func16, Tryz.ntmps16
    go_wp2_with fail
    refine HT2.out.mono ?_
    rintro e W2 ⟨rfl, h2, b2⟩
    have H2 := Bx.mk h2
    have B2 := Bx.mk b2
    clear h2 b2
    go_wp2_with fail
    exact bodyPost_ret (v := .tuple #[.int .u8 1, .int .i64 4]) (by simp [results, Tryz.results16, go_sem]) rfl ⟨rfl, H2.out, B2.out⟩
  · rw [if_neg h1]
    have q1 := u8_neI h1
    by_cases h4 : x = 4
    · subst h4
      rw [if_pos rfl]
      have HT2 : Bx (Calls Tryz.prog 21 #[.pointer (some ⟨g, 0, none⟩)] W (RdTo (.int .u8 4) B g t r2 rest W)) := HT
      clear HT q1 h1
      go_enter Tryz.func16, Tryz.ntmps16
      go_wp2_with fail
      refine HT2.out.mono ?_
      rintro e W2 ⟨rfl, h2, b2⟩
      have H2 := Bx.mk h2
      have B2 := Bx.mk b2
      clear h2 b2
      go_wp2_with fail
      exact bodyPost_ret (v := .tuple #[.int .u8 2, .int .i64 16]) (by simp [results, Tryz.results16, go_sem]) rfl ⟨rfl, H2.out, B2.out⟩
    · rw [if_neg h4]
      have q4 := u8_neI h4
      by_cases h3 : x = 3
      · subst h3
        rw [if_pos rfl]
        have HT2 : Bx (Calls Tryz.prog 21 #[.pointer (some ⟨g, 0, none⟩)] W (RdTo (.int .u8 3) B g t r2 rest W)) := HT
        clear HT q1 h1 q4 h4
        have hb := r2.next.1.toNat_lt
        go_enter Tryz.func16, Tryz.ntmps16
        go_wp2_with fail
        refine HT2.out.mono ?_
        rintro e W2 ⟨rfl, h2, b2⟩
        have H2 := Bx.mk h2
        have B2 := Bx.mk b2
        clear h2 b2
        go_wp2_with fail
        refine (next_any H2.out).mono ?_
        rintro e W3 ⟨rfl, h3, b3⟩
        have H3 := Bx.mk h3
        have B3 := Bx.mk b3
        clear h3 b3 HT2
        generalize r2.next.2 = r3 at *
        generalize r2.next.1.toNat = y at *
        go_wp2_with fail
        exact bodyPost_ret (v := .tuple #[.int .u8 3, .int .i64 (y : Int)]) (by simp [results, Tryz.results16, go_sem]) rfl ⟨rfl, H3.out, kp_trans B2.out B3.out⟩
      · rw [if_neg h3]
        have q3 := u8_neI h3
        have e1 : ((1 : UInt8).toNat : Int) = 1 := rfl
        have e4 : ((4 : UInt8).toNat : Int) = 4 := rfl
        have e3 : ((3 : UInt8).toNat : Int) = 3 := rfl
        rw [e1] at q1
        rw [e4] at q4
        rw [e3] at q3
        generalize (x.toNat : Int) = z at *
        clear h1 h3 h4 e1 e3 e4
        go_enter Tryz.func16, Tryz.ntmps16
        go_wp2_with fail
        refine HT.out.mono ?_
        rintro e W2 ⟨rfl, h2, b2⟩
        have H2 := Bx.mk h2
        have B2 := Bx.mk b2
        clear h2 b2
        go_wp2_with fail
        refine (fail_any H2.out _).mono ?_
        rintro e W3 ⟨rfl, h3, b3⟩
        have H3 := Bx.mk h3
        have B3 := Bx.mk b3
        clear h3 b3
        go_wp2_with fail
        exact bodyPost_ret (v := .tuple #[.int .u8 0, .int .i64 0]) (by simp [results, Tryz.results16, go_sem]) rfl ⟨rfl, H3.out, kp_trans B2.out B3.out⟩
theorem or_port {x y : Nat} (hx : x < 2 ^ 8) (hy : y < 2 ^ 8) : bits .or .i64 ((x : Int) * 256) (y : Int) = ((256 * x + y : Nat) : Int) := by
  have e : (x : Int) * 256 = ((2 ^ 8 * x : Nat) : Int) := by omega
  rw [e]
  show IntKind.i64.wrap ((BitVec.ofInt 64 ((2 ^ 8 * x : Nat) : Int) ||| BitVec.ofInt 64 ((y : Nat) : Int)).toNat : Int) = _
  rw [BitVec.toNat_or, BitVec.ofInt_natCast, BitVec.ofInt_natCast, BitVec.toNat_ofNat, BitVec.toNat_ofNat, Nat.mod_eq_of_lt (by omega), Nat.mod_eq_of_lt (by omega), ← Nat.two_pow_add_eq_or_of_lt hy]
  have e2 : ((2 ^ 8 * x + y : Nat) : Int) % 2 ^ 64 = ((256 * x + y : Nat) : Int) := by omega
  simp only [IntKind.wrap, IntKind.bits, IntKind.signed, e2]
  rw [if_neg]
  simp
  omega
set_option maxHeartbeats 1000000 in
theorem port_any (h : Rd W B g t r rest) : Calls Tryz.prog 19 #[.pointer (some ⟨g, 0, none⟩)] W (RdTo (.int .i64 (r.port.1 : Int)) B g t r.port.2 rest W) := by
  have HT := Bx.mk (next_any h)
  clear h
  unfold R.port
  have hx := r.next.1.toNat_lt
  have hy := r.next.2.next.1.toNat_lt
  generalize r.next.2 = r2 at *
  generalize r.next.1.toNat = x at *
  dsimp only
  go_enter Tryz.func19, Tryz.ntmps19
  go_wp2_with fail
  refine HT.out.mono ?_
  rintro e W2 ⟨rfl, h2, b2⟩
  have H2 := Bx.mk h2
  have B2 := Bx.mk b2
  clear h2 b2
  go_wp2_with fail
  refine (next_any H2.out).mono ?_
  rintro e W3 ⟨rfl, h3, b3⟩
  have H3 := Bx.mk h3
  have B3 := Bx.mk b3
  clear h3 b3 HT
  generalize r2.next.2 = r3 at *
  generalize r2.next.1.toNat = y at *
  go_wp2_with fail
  exact bodyPost_ret (v := .int .i64 ((256 * x + y : Nat) : Int)) (by simp [results, Tryz.results19, go_sem, or_port hx hy]) rfl ⟨rfl, H3.out, kp_trans B2.out B3.out⟩
end
end Go.Proofs.YtefpplkoohnfbabGreatDoor.ak
