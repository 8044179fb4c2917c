/-
  Given for the seat's laws: the walk of AsciiStays. No condition but that MaxLen's cell holds some int.
-/
import Derived.Test.YtliajejgkinkjabAwake
import Derived.Test.YtliajejgkinkjabBytes
import Derived.Test.YtliajejgkinkjabAppend
namespace Go.Proofs.Ytliajejgkinkjab.stays
open Go.RowKit mem reader plain awake
set_option linter.unusedVariables false

/-- what Line answers of what is left: the line, the error, how many bytes are read -/
def lineA (ys : List Int) (m : Int) : ByteArray × Int × Nat :=
  if m < 0 then (⟨#[]⟩, 2, 0) else if (lineF ys m).2 = 0 then (strOfNums (ys.take (lineF ys m).1.toNat), 0, (lineF ys m).1.toNat + 2) else (⟨#[]⟩, (lineF ys m).2, 0)

theorem line_any {w : World} {B r : Nat} {A : Option Addr} {n c : Nat} {xs : List Int} {k : Nat} (h : Has w B r A n c xs k) (m : Int) :
    Calls Try.prog 8 #[.pointer (some ⟨r, 0, none⟩), .int .i64 m] w (Reads (.tuple #[.string (lineA (xs.drop k) m).1, .int .i64 (lineA (xs.drop k) m).2.1]) w B r A n c xs (k + (lineA (xs.drop k) m).2.2)) := by
  by_cases hm : m < 0
  · have e : lineA (xs.drop k) m = (⟨#[]⟩, 2, 0) := if_pos hm
    rw [e]
    exact line_neg h m hm
  · rcases lineF_cases (xs.drop k) m with ⟨i, hf, _⟩ | hf | hf
    · have e : lineA (xs.drop k) m = (strOfNums ((xs.drop k).take i), 0, i + 2) := by
        unfold lineA
        rw [if_neg hm, hf]
        rfl
      rw [e]
      exact line_ok h m (by omega) i hf
    · have e : lineA (xs.drop k) m = (⟨#[]⟩, 5, 0) := by
        unfold lineA
        rw [if_neg hm, hf]
        rfl
      rw [e]
      exact line_err h m (by omega) 0 5 hf (.inl rfl)
    · have e : lineA (xs.drop k) m = (⟨#[]⟩, 6, 0) := by
        unfold lineA
        rw [if_neg hm, hf]
        rfl
      rw [e]
      exact line_err h m (by omega) 0 6 hf (.inr rfl)

theorem lineA_five {ys : List Int} {m : Int} (h : (lineA ys m).2.1 = 5) : (lineA ys m).2.2 = 0 := by
  unfold lineA at h ⊢
  split
  · rfl
  · rename_i h0
    rw [if_neg h0] at h
    split
    · rename_i h1
      rw [if_pos h1] at h
      simp at h
    · rfl

theorem lineA_more (ys zs : List Int) (m : Int) (h : (lineA ys m).2.1 ≠ 5) : lineA (ys ++ zs) m = lineA ys m := by
  by_cases hm : m < 0
  · unfold lineA
    rw [if_pos hm, if_pos hm]
  · have h5 : (lineF ys m).2 ≠ 5 := by
      intro e
      apply h
      unfold lineA
      rw [if_neg hm, e]
      rfl
    have hf := lineF_more ys zs m h5
    unfold lineA
    rw [if_neg hm, if_neg hm, hf]
    rcases lineF_cases ys m with ⟨i, e, hi⟩ | e | e
    · rw [e]
      have : (ys ++ zs).take i = ys.take i := List.take_append_of_le_length (by omega)
      simp [this]
    · rw [e]
      rfl
    · rw [e]
      rfl

/-- what holds between two calls: the two inputs, below S -/
structure Base (w W : World) (S : Nat) (A0 : Option Addr) (l0 c0 : Nat) (bs : List Int) (A : Option Addr) (l c : Nat) (ls : List Int) : Prop where
  below : Below w.heap.size w W
  first : Src W (fun g => g < w.heap.size) A0 l0 c0 bs
  long : Src W (fun g => g < S) A l c ls
  s0 : w.heap.size ≤ S
  s1 : S ≤ W.heap.size
  mx : Max W
  mw : Max w

section
variable {w W W' : World} {S : Nat} {A0 : Option Addr} {l0 c0 : Nat} {bs : List Int} {A : Option Addr} {l c : Nat} {ls : List Int}
theorem Base.next (h : Base w W S A0 l0 c0 bs A l c ls) (hb : Below S W W') : Base w W' S A0 l0 c0 bs A l c ls :=
  ⟨h.below.trans (hb.mono h.s0), h.first.below hb (fun g hg => by have := h.s0; omega), h.long.below hb (fun g hg => hg), h.s0, Nat.le_trans h.s1 hb.size, h.mx.keep (hb.block 0 (by have := h.mw.lt; have := h.s0; omega)), h.mw⟩
theorem Base.fresh (h : Base w W S A0 l0 c0 bs A l c ls) (hb : Below W.heap.size W W') : Base w W' S A0 l0 c0 bs A l c ls := h.next (hb.mono h.s1)
theorem Base.at (h : Base w W S A0 l0 c0 bs A l c ls) {r : Nat} (hr : S ≤ r) (hk : Keep W.heap.size (fun g => g = r) W W') : Base w W' S A0 l0 c0 bs A l c ls :=
  h.next (hk.below h.s1 (fun k hk' e => by omega))
theorem Base.newB (h : Base w W S A0 l0 c0 bs A l c ls) (hl : l0 ≤ 5000) : Calls Try.prog 7 #[.slice A0 l0 c0] W (News bs W) := new_has h.first hl h.mx
theorem Base.newL (h : Base w W S A0 l0 c0 bs A l c ls) (hl : l ≤ 5000) : Calls Try.prog 7 #[.slice A l c] W (News ls W) := new_has h.long hl h.mx
end

theorem has_other {w w' : World} {B B' r r' : Nat} {A A' : Option Addr} {n n' c c' : Nat} {xs xs' : List Int} {k k' : Nat} (h : Has w B r A n c xs k) (h' : Has w B' r' A' n' c' xs' k') (hne : r ≠ r') (hk : Keep w.heap.size (fun g => g = r') w w') : Has w' B r A n c xs k :=
  h.keep (hk.block r h.head.lt hne) (fun g hg => hk.block g (own_lt h.own hg).2 (fun e => by subst e; exact own_ne h.own h'.head (by decide) hg))
    (hk.block 0 h.mx.lt (fun e => by have := h'.base; omega))

set_option maxHeartbeats 400000 in
theorem stays_out (A0 : Option Addr) (l0 c0 : Nat) (A1 : Option Addr) (l1 c1 : Nat) (n : Int) (w : World) (hm : Max w) (hs : 300 < l0 ∨ 100 < l1) : Calls Try.prog 3 #[.slice A0 l0 c0, .slice A1 l1 c1, .int .i64 n] w fun e w' => e = .returned (.bool true) ∧ Below w.heap.size w w' := by
  have HA := Lib.hid (awake_any w hm)
  clear hm
  by_cases h1 : 300 < l0
  · go_enter Try.func3, Try.ntmps3
    go_wp2_with fail
    refine HA.out.mono ?_
    rintro e w1 ⟨rfl, h1⟩
    go_wp2
    go_ret
    exact ⟨rfl, h1⟩
  · have h2 : 100 < l1 := by omega
    clear hs
    go_enter Try.func3, Try.ntmps3
    go_wp2_with fail
    refine HA.out.mono ?_
    rintro e w1 ⟨rfl, h1⟩
    go_wp2
    go_ret
    exact ⟨rfl, h1⟩

set_option maxRecDepth 100000 in
set_option maxHeartbeats 2000000 in
theorem stays_five_mm (A0 : Option Addr) (l0 c0 : Nat) (bs : List Int) (A1 : Option Addr) (l1 c1 : Nat) (ms : List Int) (n : Int) (w : World) (hm : Max w) (hl0 : l0 ≤ 300) (hl1 : l1 ≤ 100)
    (hs0 : Src w (fun g => g < w.heap.size) A0 l0 c0 bs) (hs1 : Src w (fun g => g < w.heap.size) A1 l1 c1 ms) (hn : ((l0 + l1 : Nat) : Int) < n) (h5 : (lineA bs n).2.1 = 5) :
    Calls Try.prog 3 #[.slice A0 l0 c0, .slice A1 l1 c1, .int .i64 n] w fun e w' => e = .returned (.bool true) ∧ Below w.heap.size w w' := by
  have HA := Lib.hid (awake_any w hm)
  have HS0 := Lib.hid hs0
  have HS1 := Lib.hid hs1
  have HM := Lib.hid hm
  have hlb := hs0.len
  have hlm := hs1.len
  have HLB := Lib.hid hlb
  have HLM := Lib.hid hlm
  obtain ⟨x1, e1, k1, hx1⟩ : ∃ (x : ByteArray) (e : Int), ∃ k : Nat, lineA bs n = (x, e, k) := ⟨_, _, _, rfl⟩
  obtain ⟨x2, e2, k2, hx2⟩ : ∃ (x : ByteArray) (e : Int), ∃ k : Nat, lineA (bs ++ ms) n = (x, e, k) := ⟨_, _, _, rfl⟩
  obtain rfl : k1 = 0 := by have := lineA_five h5; rw [hx1] at this; exact this
  obtain rfl : e1 = 5 := by rw [hx1] at h5; exact h5
  have HX1 := Lib.hid hx1
  have HX2 := Lib.hid hx2
  clear hx1 hx2 h5 hlb hlm hs0 hs1 hm
  go_enter Try.func3, Try.ntmps3
  go_wp2_with fail
  refine HA.out.mono ?_
  rintro e w1 ⟨rfl, b1⟩
  have HC := Lib.hid (copy_any (HS0.out.below b1 (fun g hg => hg)) (by omega))
  have HB1 := Lib.hid b1
  clear b1 HA
  go_wp2_with fail
  refine HC.out.mono ?_
  rintro e w2 ⟨A2, c2, rfl, ho2, b2⟩
  have b12 := HB1.out.trans (b2.mono HB1.out.size)
  obtain ⟨A3, c3, w3, happ, ho3, hg3, _⟩ := append_at ho2 (HS1.out.below b12 (fun g hg => hg)) (by omega) b2.size
  have b13 : Below w.heap.size w w3 := b12.grown hg3 b12.size (fun g e => by have := (own_lt ho2 e).1; have := HB1.out.size; omega)
  have hbase : Base w w3 w3.heap.size A0 l0 c0 bs A3 (l0 + l1) c3 (bs ++ ms) := ⟨b13, HS0.out.below b13 (fun g hg => hg), (src_of_own ho3 (by intro x hx; rcases List.mem_append.1 hx with hx | hx; exact HS0.out.rng x hx; exact HS1.out.rng x hx)).weak (fun g hg => hg.2.1), b13.size, Nat.le_refl _, HM.out.keep (b13.block 0 HM.out.lt), HM.out⟩
  have HAPP := Lib.hid happ
  have HB3 := Lib.hid hbase
  clear happ ho3 hg3 ho2 b2 b12 b13 hbase HB1 HC
  go_wp2_with (at_builtin; refine wpList_append_eq rfl _ _ rfl rfl rfl rfl HAPP.out ?_)
  refine (HB3.out.newB (by omega)).mono ?_
  rintro e w4 ⟨r, A4, c4, rfl, hh4, b4⟩
  have HB4 := Lib.hid (HB3.out.fresh b4)
  have HR4 := Lib.hid hh4
  clear b4 hh4 HAPP
  go_wp2_with fail
  refine (HB4.out.newL (by omega)).mono ?_
  rintro e w5 ⟨m, A5, c5, rfl, hh5, b5⟩
  have HB5 := Lib.hid (HB4.out.fresh b5)
  have HR5 := Lib.hid (HR4.out.below b5 (Nat.le_refl _))
  have HM5 := Lib.hid hh5
  have hrm := Lib.hid (show r < m by have := HR4.out.head.lt; have := hh5.base.2; omega)
  have hr3 := Lib.hid (show w3.heap.size ≤ r from HR4.out.base.2)
  have hm3 := Lib.hid (show w3.heap.size ≤ m by have := hh5.base.2; have := HB4.out.s1; omega)
  have HL1 := Lib.hid (line_any HR5.out n)
  clear b5 hh5 HR4
  rw [List.drop_zero, HX1.out] at HL1
  go_wp2_with fail
  refine HL1.out.mono ?_
  rintro e w6 ⟨rfl, hh6, k6⟩
  have HB6 := Lib.hid (HB5.out.at hr3.out k6)
  have HR6 := Lib.hid hh6
  have HM6 := Lib.hid (has_other HM5.out HR5.out (by have := hrm.out; omega) k6)
  have HL2 := Lib.hid (line_any HM6.out n)
  clear hh6 k6 HM5 HR5 HB5 HL1
  rw [List.drop_zero, HX2.out] at HL2
  go_wp2_with fail
  refine HL2.out.mono ?_
  rintro e w7 ⟨rfl, hh7, k7⟩
  have HB7 := Lib.hid (HB6.out.at hm3.out k7)
  have HM7 := Lib.hid hh7
  have HR7 := Lib.hid (has_other HR6.out HM6.out (by have := hrm.out; omega) k7)
  have ha1 := at_has w7 HR7.out
  have ha2 := at_has w7 HM7.out
  rw [Nat.zero_add] at ha1 ha2
  have HA1 := Lib.hid ha1
  have HA2 := Lib.hid ha2
  clear hh7 k7 HM6 HR6 HB6 HL2 ha1 ha2
  try dsimp only at HA1 HA2
  go_wp2_with fail
  refine HA1.out.mono ?_
  rintro e w' ⟨rfl, rfl⟩
  go_wp2_with fail
  clear HA1 HA2 HR7 HM7
  refine (HB7.out.newB (by omega)).mono ?_
  rintro e w8 ⟨r2, A8, c8, rfl, hh8, b8⟩
  have HB8 := Lib.hid (HB7.out.fresh b8)
  have HR8 := Lib.hid hh8
  clear b8 hh8
  go_wp2_with fail
  refine (HB8.out.newL (by omega)).mono ?_
  rintro e w9 ⟨m2, A9, c9, rfl, hh9, b9⟩
  have HB9 := Lib.hid (HB8.out.fresh b9)
  have hr9 := HR8.out.below b9 (Nat.le_refl _)
  have hlr : bs.length = l0 := HLB.out
  have hll : (bs ++ ms).length = l0 + l1 := by rw [List.length_append, HLB.out, HLM.out]
  rw [hll] at hh9
  rw [hlr] at hr9
  have HR9 := Lib.hid hr9
  have HM9 := Lib.hid hh9
  have hrm2 := Lib.hid (show r2 < m2 by have := HR8.out.head.lt; have := hh9.base.2; omega)
  have hr32 := Lib.hid (show w3.heap.size ≤ r2 by have := HR8.out.base.2; have := HB7.out.s1; omega)
  have hm32 := Lib.hid (show w3.heap.size ≤ m2 by have := hh9.base.2; have := HB8.out.s1; omega)
  clear b9 hh9 hr9 hlr hll HR8
  have HY1 := Lib.hid (bytes_more HR9.out n (by omega) (by omega))
  go_wp2_with fail
  refine HY1.out.mono ?_
  rintro e w10 ⟨rfl, hh10, k10⟩
  have HB10 := Lib.hid (HB9.out.at hr32.out k10)
  have HR10 := Lib.hid hh10
  have HM10 := Lib.hid (has_other HM9.out HR9.out (by have := hrm2.out; omega) k10)
  clear hh10 k10 HM9 HY1
  have HY2 := Lib.hid (bytes_more HM10.out n (by omega) (by omega))
  go_wp2_with fail
  refine HY2.out.mono ?_
  rintro e w11 ⟨rfl, hh11, k11⟩
  have HB11 := Lib.hid (HB10.out.at hm32.out k11)
  have HR11 := Lib.hid (has_other HR10.out HM10.out (by have := hrm2.out; omega) k11)
  clear hh11 k11 HM10 HR10 HR9 HY2 HB9 HB10
  have HAT := Lib.hid (at_has w11 HR11.out)
  have hnl : ((l0 : Nat) : Int) < n := by omega
  have hnd : decide (((l0 : Nat) : Int) < n) = true := decide_eq_true hnl
  go_wp2_with fail
  refine HAT.out.mono ?_
  rintro e w' ⟨rfl, rfl⟩
  go_wp2
  go_ret
  exact ⟨rfl, HB11.out.below⟩

set_option maxRecDepth 100000 in
set_option maxHeartbeats 2000000 in
theorem stays_five_mo (A0 : Option Addr) (l0 c0 : Nat) (bs : List Int) (A1 : Option Addr) (l1 c1 : Nat) (ms : List Int) (n : Int) (w : World) (hm : Max w) (hl0 : l0 ≤ 300) (hl1 : l1 ≤ 100)
    (hs0 : Src w (fun g => g < w.heap.size) A0 l0 c0 bs) (hs1 : Src w (fun g => g < w.heap.size) A1 l1 c1 ms) (N : Nat) (hN : n = (N : Int)) (hn : l0 < N) (hn2 : N ≤ l0 + l1) (h5 : (lineA bs n).2.1 = 5) :
    Calls Try.prog 3 #[.slice A0 l0 c0, .slice A1 l1 c1, .int .i64 n] w fun e w' => e = .returned (.bool true) ∧ Below w.heap.size w w' := by
  have HA := Lib.hid (awake_any w hm)
  have HS0 := Lib.hid hs0
  have HS1 := Lib.hid hs1
  have HM := Lib.hid hm
  have hlb := hs0.len
  have hlm := hs1.len
  have HLB := Lib.hid hlb
  have HLM := Lib.hid hlm
  obtain ⟨x1, e1, k1, hx1⟩ : ∃ (x : ByteArray) (e : Int), ∃ k : Nat, lineA bs n = (x, e, k) := ⟨_, _, _, rfl⟩
  obtain ⟨x2, e2, k2, hx2⟩ : ∃ (x : ByteArray) (e : Int), ∃ k : Nat, lineA (bs ++ ms) n = (x, e, k) := ⟨_, _, _, rfl⟩
  obtain rfl : k1 = 0 := by have := lineA_five h5; rw [hx1] at this; exact this
  obtain rfl : e1 = 5 := by rw [hx1] at h5; exact h5
  have HX1 := Lib.hid hx1
  have HX2 := Lib.hid hx2
  clear hx1 hx2 h5 hlb hlm hs0 hs1 hm
  subst hN
  go_enter Try.func3, Try.ntmps3
  go_wp2_with fail
  refine HA.out.mono ?_
  rintro e w1 ⟨rfl, b1⟩
  have HC := Lib.hid (copy_any (HS0.out.below b1 (fun g hg => hg)) (by omega))
  have HB1 := Lib.hid b1
  clear b1 HA
  go_wp2_with fail
  refine HC.out.mono ?_
  rintro e w2 ⟨A2, c2, rfl, ho2, b2⟩
  have b12 := HB1.out.trans (b2.mono HB1.out.size)
  obtain ⟨A3, c3, w3, happ, ho3, hg3, _⟩ := append_at ho2 (HS1.out.below b12 (fun g hg => hg)) (by omega) b2.size
  have b13 : Below w.heap.size w w3 := b12.grown hg3 b12.size (fun g e => by have := (own_lt ho2 e).1; have := HB1.out.size; omega)
  have hbase : Base w w3 w3.heap.size A0 l0 c0 bs A3 (l0 + l1) c3 (bs ++ ms) := ⟨b13, HS0.out.below b13 (fun g hg => hg), (src_of_own ho3 (by intro x hx; rcases List.mem_append.1 hx with hx | hx; exact HS0.out.rng x hx; exact HS1.out.rng x hx)).weak (fun g hg => hg.2.1), b13.size, Nat.le_refl _, HM.out.keep (b13.block 0 HM.out.lt), HM.out⟩
  have HAPP := Lib.hid happ
  have HB3 := Lib.hid hbase
  clear happ ho3 hg3 ho2 b2 b12 b13 hbase HB1 HC
  go_wp2_with (at_builtin; refine wpList_append_eq rfl _ _ rfl rfl rfl rfl HAPP.out ?_)
  refine (HB3.out.newB (by omega)).mono ?_
  rintro e w4 ⟨r, A4, c4, rfl, hh4, b4⟩
  have HB4 := Lib.hid (HB3.out.fresh b4)
  have HR4 := Lib.hid hh4
  clear b4 hh4 HAPP
  go_wp2_with fail
  refine (HB4.out.newL (by omega)).mono ?_
  rintro e w5 ⟨m, A5, c5, rfl, hh5, b5⟩
  have HB5 := Lib.hid (HB4.out.fresh b5)
  have HR5 := Lib.hid (HR4.out.below b5 (Nat.le_refl _))
  have HM5 := Lib.hid hh5
  have hrm := Lib.hid (show r < m by have := HR4.out.head.lt; have := hh5.base.2; omega)
  have hr3 := Lib.hid (show w3.heap.size ≤ r from HR4.out.base.2)
  have hm3 := Lib.hid (show w3.heap.size ≤ m by have := hh5.base.2; have := HB4.out.s1; omega)
  have HL1 := Lib.hid (line_any HR5.out (N : Int))
  clear b5 hh5 HR4
  rw [List.drop_zero, HX1.out] at HL1
  go_wp2_with fail
  refine HL1.out.mono ?_
  rintro e w6 ⟨rfl, hh6, k6⟩
  have HB6 := Lib.hid (HB5.out.at hr3.out k6)
  have HR6 := Lib.hid hh6
  have HM6 := Lib.hid (has_other HM5.out HR5.out (by have := hrm.out; omega) k6)
  have HL2 := Lib.hid (line_any HM6.out (N : Int))
  clear hh6 k6 HM5 HR5 HB5 HL1
  rw [List.drop_zero, HX2.out] at HL2
  go_wp2_with fail
  refine HL2.out.mono ?_
  rintro e w7 ⟨rfl, hh7, k7⟩
  have HB7 := Lib.hid (HB6.out.at hm3.out k7)
  have HM7 := Lib.hid hh7
  have HR7 := Lib.hid (has_other HR6.out HM6.out (by have := hrm.out; omega) k7)
  have ha1 := at_has w7 HR7.out
  have ha2 := at_has w7 HM7.out
  rw [Nat.zero_add] at ha1 ha2
  have HA1 := Lib.hid ha1
  have HA2 := Lib.hid ha2
  clear hh7 k7 HM6 HR6 HB6 HL2 ha1 ha2
  try dsimp only at HA1 HA2
  go_wp2_with fail
  refine HA1.out.mono ?_
  rintro e w' ⟨rfl, rfl⟩
  go_wp2_with fail
  clear HA1 HA2 HR7 HM7
  refine (HB7.out.newB (by omega)).mono ?_
  rintro e w8 ⟨r2, A8, c8, rfl, hh8, b8⟩
  have HB8 := Lib.hid (HB7.out.fresh b8)
  have HR8 := Lib.hid hh8
  clear b8 hh8
  go_wp2_with fail
  refine (HB8.out.newL (by omega)).mono ?_
  rintro e w9 ⟨m2, A9, c9, rfl, hh9, b9⟩
  have HB9 := Lib.hid (HB8.out.fresh b9)
  have hr9 := HR8.out.below b9 (Nat.le_refl _)
  have hlr : bs.length = l0 := HLB.out
  have hll : (bs ++ ms).length = l0 + l1 := by rw [List.length_append, HLB.out, HLM.out]
  rw [hll] at hh9
  rw [hlr] at hr9
  have HR9 := Lib.hid hr9
  have HM9 := Lib.hid hh9
  have hrm2 := Lib.hid (show r2 < m2 by have := HR8.out.head.lt; have := hh9.base.2; omega)
  have hr32 := Lib.hid (show w3.heap.size ≤ r2 by have := HR8.out.base.2; have := HB7.out.s1; omega)
  have hm32 := Lib.hid (show w3.heap.size ≤ m2 by have := hh9.base.2; have := HB8.out.s1; omega)
  clear b9 hh9 hr9 hlr hll HR8
  have HY1 := Lib.hid (bytes_more HR9.out (N : Int) (by omega) (by omega))
  go_wp2_with fail
  refine HY1.out.mono ?_
  rintro e w10 ⟨rfl, hh10, k10⟩
  have HB10 := Lib.hid (HB9.out.at hr32.out k10)
  have HR10 := Lib.hid hh10
  have HM10 := Lib.hid (has_other HM9.out HR9.out (by have := hrm2.out; omega) k10)
  clear hh10 k10 HM9 HY1
  have HY2 := Lib.hid (bytes_ok HM10.out N (by omega))
  go_wp2_with fail
  refine HY2.out.mono ?_
  rintro e w11 ⟨AY, cY, rfl, ho11, hh11, k11⟩
  have HB11 := Lib.hid (HB10.out.at hm32.out k11)
  have HR11 := Lib.hid (has_other HR10.out HM10.out (by have := hrm2.out; omega) k11)
  clear hh11 k11 HM10 HR10 HR9 HY2 HB9 HB10
  have HAT := Lib.hid (at_has w11 HR11.out)
  have hnl : ((l0 : Nat) : Int) < (N : Int) := by omega
  have hnd : decide (l0 < N) = true := decide_eq_true hn
  have hnd2 : decide (((l0 : Nat) : Int) < (N : Int)) = true := decide_eq_true hnl
  go_wp2_with fail
  refine HAT.out.mono ?_
  rintro e w' ⟨rfl, rfl⟩
  go_wp2
  go_ret
  exact ⟨rfl, HB11.out.below⟩

set_option maxRecDepth 100000 in
set_option maxHeartbeats 2000000 in
theorem stays_five_ok (A0 : Option Addr) (l0 c0 : Nat) (bs : List Int) (A1 : Option Addr) (l1 c1 : Nat) (ms : List Int) (n : Int) (w : World) (hm : Max w) (hl0 : l0 ≤ 300) (hl1 : l1 ≤ 100)
    (hs0 : Src w (fun g => g < w.heap.size) A0 l0 c0 bs) (hs1 : Src w (fun g => g < w.heap.size) A1 l1 c1 ms) (N : Nat) (hN : n = (N : Int)) (hn : N ≤ l0) (h5 : (lineA bs n).2.1 = 5) :
    Calls Try.prog 3 #[.slice A0 l0 c0, .slice A1 l1 c1, .int .i64 n] w fun e w' => e = .returned (.bool true) ∧ Below w.heap.size w w' := by
  have HA := Lib.hid (awake_any w hm)
  have HS0 := Lib.hid hs0
  have HS1 := Lib.hid hs1
  have HM := Lib.hid hm
  have hlb := hs0.len
  have hlm := hs1.len
  have HLB := Lib.hid hlb
  have HLM := Lib.hid hlm
  obtain ⟨x1, e1, k1, hx1⟩ : ∃ (x : ByteArray) (e : Int), ∃ k : Nat, lineA bs n = (x, e, k) := ⟨_, _, _, rfl⟩
  obtain ⟨x2, e2, k2, hx2⟩ : ∃ (x : ByteArray) (e : Int), ∃ k : Nat, lineA (bs ++ ms) n = (x, e, k) := ⟨_, _, _, rfl⟩
  obtain rfl : k1 = 0 := by have := lineA_five h5; rw [hx1] at this; exact this
  obtain rfl : e1 = 5 := by rw [hx1] at h5; exact h5
  have HX1 := Lib.hid hx1
  have HX2 := Lib.hid hx2
  clear hx1 hx2 h5 hlb hlm hs0 hs1 hm
  subst hN
  go_enter Try.func3, Try.ntmps3
  go_wp2_with fail
  refine HA.out.mono ?_
  rintro e w1 ⟨rfl, b1⟩
  have HC := Lib.hid (copy_any (HS0.out.below b1 (fun g hg => hg)) (by omega))
  have HB1 := Lib.hid b1
  clear b1 HA
  go_wp2_with fail
  refine HC.out.mono ?_
  rintro e w2 ⟨A2, c2, rfl, ho2, b2⟩
  have b12 := HB1.out.trans (b2.mono HB1.out.size)
  obtain ⟨A3, c3, w3, happ, ho3, hg3, _⟩ := append_at ho2 (HS1.out.below b12 (fun g hg => hg)) (by omega) b2.size
  have b13 : Below w.heap.size w w3 := b12.grown hg3 b12.size (fun g e => by have := (own_lt ho2 e).1; have := HB1.out.size; omega)
  have hbase : Base w w3 w3.heap.size A0 l0 c0 bs A3 (l0 + l1) c3 (bs ++ ms) := ⟨b13, HS0.out.below b13 (fun g hg => hg), (src_of_own ho3 (by intro x hx; rcases List.mem_append.1 hx with hx | hx; exact HS0.out.rng x hx; exact HS1.out.rng x hx)).weak (fun g hg => hg.2.1), b13.size, Nat.le_refl _, HM.out.keep (b13.block 0 HM.out.lt), HM.out⟩
  have HAPP := Lib.hid happ
  have HB3 := Lib.hid hbase
  clear happ ho3 hg3 ho2 b2 b12 b13 hbase HB1 HC
  go_wp2_with (at_builtin; refine wpList_append_eq rfl _ _ rfl rfl rfl rfl HAPP.out ?_)
  refine (HB3.out.newB (by omega)).mono ?_
  rintro e w4 ⟨r, A4, c4, rfl, hh4, b4⟩
  have HB4 := Lib.hid (HB3.out.fresh b4)
  have HR4 := Lib.hid hh4
  clear b4 hh4 HAPP
  go_wp2_with fail
  refine (HB4.out.newL (by omega)).mono ?_
  rintro e w5 ⟨m, A5, c5, rfl, hh5, b5⟩
  have HB5 := Lib.hid (HB4.out.fresh b5)
  have HR5 := Lib.hid (HR4.out.below b5 (Nat.le_refl _))
  have HM5 := Lib.hid hh5
  have hrm := Lib.hid (show r < m by have := HR4.out.head.lt; have := hh5.base.2; omega)
  have hr3 := Lib.hid (show w3.heap.size ≤ r from HR4.out.base.2)
  have hm3 := Lib.hid (show w3.heap.size ≤ m by have := hh5.base.2; have := HB4.out.s1; omega)
  have HL1 := Lib.hid (line_any HR5.out (N : Int))
  clear b5 hh5 HR4
  rw [List.drop_zero, HX1.out] at HL1
  go_wp2_with fail
  refine HL1.out.mono ?_
  rintro e w6 ⟨rfl, hh6, k6⟩
  have HB6 := Lib.hid (HB5.out.at hr3.out k6)
  have HR6 := Lib.hid hh6
  have HM6 := Lib.hid (has_other HM5.out HR5.out (by have := hrm.out; omega) k6)
  have HL2 := Lib.hid (line_any HM6.out (N : Int))
  clear hh6 k6 HM5 HR5 HB5 HL1
  rw [List.drop_zero, HX2.out] at HL2
  go_wp2_with fail
  refine HL2.out.mono ?_
  rintro e w7 ⟨rfl, hh7, k7⟩
  have HB7 := Lib.hid (HB6.out.at hm3.out k7)
  have HM7 := Lib.hid hh7
  have HR7 := Lib.hid (has_other HR6.out HM6.out (by have := hrm.out; omega) k7)
  have ha1 := at_has w7 HR7.out
  have ha2 := at_has w7 HM7.out
  rw [Nat.zero_add] at ha1 ha2
  have HA1 := Lib.hid ha1
  have HA2 := Lib.hid ha2
  clear hh7 k7 HM6 HR6 HB6 HL2 ha1 ha2
  try dsimp only at HA1 HA2
  go_wp2_with fail
  refine HA1.out.mono ?_
  rintro e w' ⟨rfl, rfl⟩
  go_wp2_with fail
  clear HA1 HA2 HR7 HM7
  refine (HB7.out.newB (by omega)).mono ?_
  rintro e w8 ⟨r2, A8, c8, rfl, hh8, b8⟩
  have HB8 := Lib.hid (HB7.out.fresh b8)
  have HR8 := Lib.hid hh8
  clear b8 hh8
  go_wp2_with fail
  refine (HB8.out.newL (by omega)).mono ?_
  rintro e w9 ⟨m2, A9, c9, rfl, hh9, b9⟩
  have HB9 := Lib.hid (HB8.out.fresh b9)
  have hr9 := HR8.out.below b9 (Nat.le_refl _)
  have hlr : bs.length = l0 := HLB.out
  have hll : (bs ++ ms).length = l0 + l1 := by rw [List.length_append, HLB.out, HLM.out]
  rw [hll] at hh9
  rw [hlr] at hr9
  have HR9 := Lib.hid hr9
  have HM9 := Lib.hid hh9
  have hrm2 := Lib.hid (show r2 < m2 by have := HR8.out.head.lt; have := hh9.base.2; omega)
  have hr32 := Lib.hid (show w3.heap.size ≤ r2 by have := HR8.out.base.2; have := HB7.out.s1; omega)
  have hm32 := Lib.hid (show w3.heap.size ≤ m2 by have := hh9.base.2; have := HB8.out.s1; omega)
  clear b9 hh9 hr9 hlr hll HR8
  have HY1 := Lib.hid (bytes_ok HR9.out N (by omega))
  go_wp2_with fail
  refine HY1.out.mono ?_
  rintro e w10 ⟨AX, cX, rfl, ho10, hh10, k10⟩
  have HB10 := Lib.hid (HB9.out.at hr32.out k10)
  have HR10 := Lib.hid hh10
  have HM10 := Lib.hid (has_other HM9.out HR9.out (by have := hrm2.out; omega) k10)
  have HOX := Lib.hid ho10
  clear ho10
  clear hh10 k10 HM9 HY1
  have HY2 := Lib.hid (bytes_ok HM10.out N (by omega))
  go_wp2_with fail
  refine HY2.out.mono ?_
  rintro e w11 ⟨AY, cY, rfl, ho11, hh11, k11⟩
  have HB11 := Lib.hid (HB10.out.at hm32.out k11)
  have HR11 := Lib.hid (has_other HR10.out HM10.out (by have := hrm2.out; omega) k11)
  have hsrcx := src_of_own HOX.out (fun x hx => HS0.out.rng x (List.mem_of_mem_drop (List.mem_of_mem_take hx)))
  have hsrcx11 : Src w11 (fun g => w9.heap.size ≤ g ∧ g < w10.heap.size ∧ (Value.slice AX N cX).ownBlock = some g) AX N cX ((bs.drop 0).take N) :=
    hsrcx.keep (fun g hg => k11.block g hg.2.1 (fun e => by subst e; exact own_ne HOX.out HM10.out.head (by decide) hg.2.2))
  have hsrcy := src_of_own ho11 (fun x hx => by
    rcases List.mem_append.1 (List.mem_of_mem_drop (List.mem_of_mem_take hx)) with hx | hx
    · exact HS0.out.rng x hx
    · exact HS1.out.rng x hx)
  have hsm := same_any w11 hsrcx11 hsrcy
  have heq : sameB ((bs.drop 0).take N) (((bs ++ ms).drop 0).take N) = true := by
    rw [List.drop_zero, List.drop_zero, List.take_append_of_le_length (by rw [HLB.out]; exact hn)]
    exact sameB_refl _
  rw [heq] at hsm
  have HSM := Lib.hid hsm
  clear hsrcx hsrcx11 hsrcy hsm heq ho11 HOX
  clear hh11 k11 HM10 HR10 HR9 HY2 HB9 HB10
  go_wp2_with fail
  refine HSM.out.mono ?_
  rintro e w12 ⟨rfl, hst⟩
  have HST := Lib.hid hst
  clear hst
  go_wp2
  go_ret
  exact ⟨rfl, HB11.out.below.trans (Still.below HST.out _)⟩

set_option maxRecDepth 100000 in
set_option maxHeartbeats 2000000 in
theorem stays_other_neg (A0 : Option Addr) (l0 c0 : Nat) (bs : List Int) (A1 : Option Addr) (l1 c1 : Nat) (ms : List Int) (n : Int) (w : World) (hm : Max w) (hl0 : l0 ≤ 300) (hl1 : l1 ≤ 100)
    (hs0 : Src w (fun g => g < w.heap.size) A0 l0 c0 bs) (hs1 : Src w (fun g => g < w.heap.size) A1 l1 c1 ms) (hn : n < 0) (h5 : (lineA bs n).2.1 ≠ 5) :
    Calls Try.prog 3 #[.slice A0 l0 c0, .slice A1 l1 c1, .int .i64 n] w fun e w' => e = .returned (.bool true) ∧ Below w.heap.size w w' := by
  have HA := Lib.hid (awake_any w hm)
  have HS0 := Lib.hid hs0
  have HS1 := Lib.hid hs1
  have HM := Lib.hid hm
  have hlb := hs0.len
  have hlm := hs1.len
  have HLB := Lib.hid hlb
  have HLM := Lib.hid hlm
  obtain ⟨x1, e1, k1, hx1⟩ : ∃ (x : ByteArray) (e : Int), ∃ k : Nat, lineA bs n = (x, e, k) := ⟨_, _, _, rfl⟩
  obtain ⟨x2, e2, k2, hx2⟩ : ∃ (x : ByteArray) (e : Int), ∃ k : Nat, lineA (bs ++ ms) n = (x, e, k) := ⟨_, _, _, rfl⟩
  have hsame := lineA_more bs ms n h5
  rw [hx1, hx2] at hsame
  obtain ⟨rfl, rfl, rfl⟩ : x2 = x1 ∧ e2 = e1 ∧ k2 = k1 := by simpa using hsame
  rw [hx1] at h5
  have hne1 : ((e2 : Int) == 5) = false := beq_eq_false_iff_ne.2 h5
  have hne2 : ((e2 : Int) != 5) = true := by rw [bne_iff_ne]; exact h5
  have hne3 : ((e2 : Int) != e2) = false := by simp
  have hne4 : (x2.toList != x2.toList) = false := by simp
  have hne5 : (((k2 : Nat) : Int) != (k2 : Int)) = false := by simp
  clear hsame
  have HX1 := Lib.hid hx1
  have HX2 := Lib.hid hx2
  clear hx1 hx2 h5 hlb hlm hs0 hs1 hm
  go_enter Try.func3, Try.ntmps3
  go_wp2_with fail
  refine HA.out.mono ?_
  rintro e w1 ⟨rfl, b1⟩
  have HC := Lib.hid (copy_any (HS0.out.below b1 (fun g hg => hg)) (by omega))
  have HB1 := Lib.hid b1
  clear b1 HA
  go_wp2_with fail
  refine HC.out.mono ?_
  rintro e w2 ⟨A2, c2, rfl, ho2, b2⟩
  have b12 := HB1.out.trans (b2.mono HB1.out.size)
  obtain ⟨A3, c3, w3, happ, ho3, hg3, _⟩ := append_at ho2 (HS1.out.below b12 (fun g hg => hg)) (by omega) b2.size
  have b13 : Below w.heap.size w w3 := b12.grown hg3 b12.size (fun g e => by have := (own_lt ho2 e).1; have := HB1.out.size; omega)
  have hbase : Base w w3 w3.heap.size A0 l0 c0 bs A3 (l0 + l1) c3 (bs ++ ms) := ⟨b13, HS0.out.below b13 (fun g hg => hg), (src_of_own ho3 (by intro x hx; rcases List.mem_append.1 hx with hx | hx; exact HS0.out.rng x hx; exact HS1.out.rng x hx)).weak (fun g hg => hg.2.1), b13.size, Nat.le_refl _, HM.out.keep (b13.block 0 HM.out.lt), HM.out⟩
  have HAPP := Lib.hid happ
  have HB3 := Lib.hid hbase
  clear happ ho3 hg3 ho2 b2 b12 b13 hbase HB1 HC
  go_wp2_with (at_builtin; refine wpList_append_eq rfl _ _ rfl rfl rfl rfl HAPP.out ?_)
  refine (HB3.out.newB (by omega)).mono ?_
  rintro e w4 ⟨r, A4, c4, rfl, hh4, b4⟩
  have HB4 := Lib.hid (HB3.out.fresh b4)
  have HR4 := Lib.hid hh4
  clear b4 hh4 HAPP
  go_wp2_with fail
  refine (HB4.out.newL (by omega)).mono ?_
  rintro e w5 ⟨m, A5, c5, rfl, hh5, b5⟩
  have HB5 := Lib.hid (HB4.out.fresh b5)
  have HR5 := Lib.hid (HR4.out.below b5 (Nat.le_refl _))
  have HM5 := Lib.hid hh5
  have hrm := Lib.hid (show r < m by have := HR4.out.head.lt; have := hh5.base.2; omega)
  have hr3 := Lib.hid (show w3.heap.size ≤ r from HR4.out.base.2)
  have hm3 := Lib.hid (show w3.heap.size ≤ m by have := hh5.base.2; have := HB4.out.s1; omega)
  have HL1 := Lib.hid (line_any HR5.out n)
  clear b5 hh5 HR4
  rw [List.drop_zero, HX1.out] at HL1
  go_wp2_with fail
  refine HL1.out.mono ?_
  rintro e w6 ⟨rfl, hh6, k6⟩
  have HB6 := Lib.hid (HB5.out.at hr3.out k6)
  have HR6 := Lib.hid hh6
  have HM6 := Lib.hid (has_other HM5.out HR5.out (by have := hrm.out; omega) k6)
  have HL2 := Lib.hid (line_any HM6.out n)
  clear hh6 k6 HM5 HR5 HB5 HL1
  rw [List.drop_zero, HX2.out] at HL2
  go_wp2_with fail
  refine HL2.out.mono ?_
  rintro e w7 ⟨rfl, hh7, k7⟩
  have HB7 := Lib.hid (HB6.out.at hm3.out k7)
  have HM7 := Lib.hid hh7
  have HR7 := Lib.hid (has_other HR6.out HM6.out (by have := hrm.out; omega) k7)
  have ha1 := at_has w7 HR7.out
  have ha2 := at_has w7 HM7.out
  rw [Nat.zero_add] at ha1 ha2
  have HA1 := Lib.hid ha1
  have HA2 := Lib.hid ha2
  clear hh7 k7 HM6 HR6 HB6 HL2 ha1 ha2
  try dsimp only at HA1 HA2
  go_wp2_with fail
  refine HA1.out.mono ?_
  rintro e w' ⟨rfl, rfl⟩
  go_wp2_with fail
  refine HA2.out.mono ?_
  rintro e w' ⟨rfl, rfl⟩
  go_wp2_with fail
  clear HA1 HA2 HR7 HM7
  refine (HB7.out.newB (by omega)).mono ?_
  rintro e w8 ⟨r2, A8, c8, rfl, hh8, b8⟩
  have HB8 := Lib.hid (HB7.out.fresh b8)
  have HR8 := Lib.hid hh8
  clear b8 hh8
  go_wp2_with fail
  refine (HB8.out.newL (by omega)).mono ?_
  rintro e w9 ⟨m2, A9, c9, rfl, hh9, b9⟩
  have HB9 := Lib.hid (HB8.out.fresh b9)
  have hr9 := HR8.out.below b9 (Nat.le_refl _)
  have hlr : bs.length = l0 := HLB.out
  have hll : (bs ++ ms).length = l0 + l1 := by rw [List.length_append, HLB.out, HLM.out]
  rw [hll] at hh9
  rw [hlr] at hr9
  have HR9 := Lib.hid hr9
  have HM9 := Lib.hid hh9
  have hrm2 := Lib.hid (show r2 < m2 by have := HR8.out.head.lt; have := hh9.base.2; omega)
  have hr32 := Lib.hid (show w3.heap.size ≤ r2 by have := HR8.out.base.2; have := HB7.out.s1; omega)
  have hm32 := Lib.hid (show w3.heap.size ≤ m2 by have := hh9.base.2; have := HB8.out.s1; omega)
  clear b9 hh9 hr9 hlr hll HR8
  have HY1 := Lib.hid (bytes_neg HR9.out n hn)
  go_wp2_with fail
  refine HY1.out.mono ?_
  rintro e w10 ⟨rfl, hh10, k10⟩
  have HB10 := Lib.hid (HB9.out.at hr32.out k10)
  have HR10 := Lib.hid hh10
  have HM10 := Lib.hid (has_other HM9.out HR9.out (by have := hrm2.out; omega) k10)
  clear hh10 k10 HM9 HY1
  have HY2 := Lib.hid (bytes_neg HM10.out n hn)
  go_wp2_with fail
  refine HY2.out.mono ?_
  rintro e w11 ⟨rfl, hh11, k11⟩
  have HB11 := Lib.hid (HB10.out.at hm32.out k11)
  have HR11 := Lib.hid (has_other HR10.out HM10.out (by have := hrm2.out; omega) k11)
  clear hh11 k11 HM10 HR10 HR9 HY2 HB9 HB10
  have hsm := same_any w11 (Src.nil w11 (fun _ => False)) (Src.nil w11 (fun _ => False))
  rw [sameB_refl] at hsm
  have HSM := Lib.hid hsm
  clear hsm
  go_wp2_with fail
  refine HSM.out.mono ?_
  rintro e w12 ⟨rfl, hst⟩
  have HST := Lib.hid hst
  clear hst
  go_wp2
  go_ret
  exact ⟨rfl, HB11.out.below.trans (Still.below HST.out _)⟩

set_option maxRecDepth 100000 in
set_option maxHeartbeats 2000000 in
theorem stays_other_mm (A0 : Option Addr) (l0 c0 : Nat) (bs : List Int) (A1 : Option Addr) (l1 c1 : Nat) (ms : List Int) (n : Int) (w : World) (hm : Max w) (hl0 : l0 ≤ 300) (hl1 : l1 ≤ 100)
    (hs0 : Src w (fun g => g < w.heap.size) A0 l0 c0 bs) (hs1 : Src w (fun g => g < w.heap.size) A1 l1 c1 ms) (hn : ((l0 + l1 : Nat) : Int) < n) (h5 : (lineA bs n).2.1 ≠ 5) :
    Calls Try.prog 3 #[.slice A0 l0 c0, .slice A1 l1 c1, .int .i64 n] w fun e w' => e = .returned (.bool true) ∧ Below w.heap.size w w' := by
  have HA := Lib.hid (awake_any w hm)
  have HS0 := Lib.hid hs0
  have HS1 := Lib.hid hs1
  have HM := Lib.hid hm
  have hlb := hs0.len
  have hlm := hs1.len
  have HLB := Lib.hid hlb
  have HLM := Lib.hid hlm
  obtain ⟨x1, e1, k1, hx1⟩ : ∃ (x : ByteArray) (e : Int), ∃ k : Nat, lineA bs n = (x, e, k) := ⟨_, _, _, rfl⟩
  obtain ⟨x2, e2, k2, hx2⟩ : ∃ (x : ByteArray) (e : Int), ∃ k : Nat, lineA (bs ++ ms) n = (x, e, k) := ⟨_, _, _, rfl⟩
  have hsame := lineA_more bs ms n h5
  rw [hx1, hx2] at hsame
  obtain ⟨rfl, rfl, rfl⟩ : x2 = x1 ∧ e2 = e1 ∧ k2 = k1 := by simpa using hsame
  rw [hx1] at h5
  have hne1 : ((e2 : Int) == 5) = false := beq_eq_false_iff_ne.2 h5
  have hne2 : ((e2 : Int) != 5) = true := by rw [bne_iff_ne]; exact h5
  have hne3 : ((e2 : Int) != e2) = false := by simp
  have hne4 : (x2.toList != x2.toList) = false := by simp
  have hne5 : (((k2 : Nat) : Int) != (k2 : Int)) = false := by simp
  clear hsame
  have HX1 := Lib.hid hx1
  have HX2 := Lib.hid hx2
  clear hx1 hx2 h5 hlb hlm hs0 hs1 hm
  go_enter Try.func3, Try.ntmps3
  go_wp2_with fail
  refine HA.out.mono ?_
  rintro e w1 ⟨rfl, b1⟩
  have HC := Lib.hid (copy_any (HS0.out.below b1 (fun g hg => hg)) (by omega))
  have HB1 := Lib.hid b1
  clear b1 HA
  go_wp2_with fail
  refine HC.out.mono ?_
  rintro e w2 ⟨A2, c2, rfl, ho2, b2⟩
  have b12 := HB1.out.trans (b2.mono HB1.out.size)
  obtain ⟨A3, c3, w3, happ, ho3, hg3, _⟩ := append_at ho2 (HS1.out.below b12 (fun g hg => hg)) (by omega) b2.size
  have b13 : Below w.heap.size w w3 := b12.grown hg3 b12.size (fun g e => by have := (own_lt ho2 e).1; have := HB1.out.size; omega)
  have hbase : Base w w3 w3.heap.size A0 l0 c0 bs A3 (l0 + l1) c3 (bs ++ ms) := ⟨b13, HS0.out.below b13 (fun g hg => hg), (src_of_own ho3 (by intro x hx; rcases List.mem_append.1 hx with hx | hx; exact HS0.out.rng x hx; exact HS1.out.rng x hx)).weak (fun g hg => hg.2.1), b13.size, Nat.le_refl _, HM.out.keep (b13.block 0 HM.out.lt), HM.out⟩
  have HAPP := Lib.hid happ
  have HB3 := Lib.hid hbase
  clear happ ho3 hg3 ho2 b2 b12 b13 hbase HB1 HC
  go_wp2_with (at_builtin; refine wpList_append_eq rfl _ _ rfl rfl rfl rfl HAPP.out ?_)
  refine (HB3.out.newB (by omega)).mono ?_
  rintro e w4 ⟨r, A4, c4, rfl, hh4, b4⟩
  have HB4 := Lib.hid (HB3.out.fresh b4)
  have HR4 := Lib.hid hh4
  clear b4 hh4 HAPP
  go_wp2_with fail
  refine (HB4.out.newL (by omega)).mono ?_
  rintro e w5 ⟨m, A5, c5, rfl, hh5, b5⟩
  have HB5 := Lib.hid (HB4.out.fresh b5)
  have HR5 := Lib.hid (HR4.out.below b5 (Nat.le_refl _))
  have HM5 := Lib.hid hh5
  have hrm := Lib.hid (show r < m by have := HR4.out.head.lt; have := hh5.base.2; omega)
  have hr3 := Lib.hid (show w3.heap.size ≤ r from HR4.out.base.2)
  have hm3 := Lib.hid (show w3.heap.size ≤ m by have := hh5.base.2; have := HB4.out.s1; omega)
  have HL1 := Lib.hid (line_any HR5.out n)
  clear b5 hh5 HR4
  rw [List.drop_zero, HX1.out] at HL1
  go_wp2_with fail
  refine HL1.out.mono ?_
  rintro e w6 ⟨rfl, hh6, k6⟩
  have HB6 := Lib.hid (HB5.out.at hr3.out k6)
  have HR6 := Lib.hid hh6
  have HM6 := Lib.hid (has_other HM5.out HR5.out (by have := hrm.out; omega) k6)
  have HL2 := Lib.hid (line_any HM6.out n)
  clear hh6 k6 HM5 HR5 HB5 HL1
  rw [List.drop_zero, HX2.out] at HL2
  go_wp2_with fail
  refine HL2.out.mono ?_
  rintro e w7 ⟨rfl, hh7, k7⟩
  have HB7 := Lib.hid (HB6.out.at hm3.out k7)
  have HM7 := Lib.hid hh7
  have HR7 := Lib.hid (has_other HR6.out HM6.out (by have := hrm.out; omega) k7)
  have ha1 := at_has w7 HR7.out
  have ha2 := at_has w7 HM7.out
  rw [Nat.zero_add] at ha1 ha2
  have HA1 := Lib.hid ha1
  have HA2 := Lib.hid ha2
  clear hh7 k7 HM6 HR6 HB6 HL2 ha1 ha2
  try dsimp only at HA1 HA2
  go_wp2_with fail
  refine HA1.out.mono ?_
  rintro e w' ⟨rfl, rfl⟩
  go_wp2_with fail
  refine HA2.out.mono ?_
  rintro e w' ⟨rfl, rfl⟩
  go_wp2_with fail
  clear HA1 HA2 HR7 HM7
  refine (HB7.out.newB (by omega)).mono ?_
  rintro e w8 ⟨r2, A8, c8, rfl, hh8, b8⟩
  have HB8 := Lib.hid (HB7.out.fresh b8)
  have HR8 := Lib.hid hh8
  clear b8 hh8
  go_wp2_with fail
  refine (HB8.out.newL (by omega)).mono ?_
  rintro e w9 ⟨m2, A9, c9, rfl, hh9, b9⟩
  have HB9 := Lib.hid (HB8.out.fresh b9)
  have hr9 := HR8.out.below b9 (Nat.le_refl _)
  have hlr : bs.length = l0 := HLB.out
  have hll : (bs ++ ms).length = l0 + l1 := by rw [List.length_append, HLB.out, HLM.out]
  rw [hll] at hh9
  rw [hlr] at hr9
  have HR9 := Lib.hid hr9
  have HM9 := Lib.hid hh9
  have hrm2 := Lib.hid (show r2 < m2 by have := HR8.out.head.lt; have := hh9.base.2; omega)
  have hr32 := Lib.hid (show w3.heap.size ≤ r2 by have := HR8.out.base.2; have := HB7.out.s1; omega)
  have hm32 := Lib.hid (show w3.heap.size ≤ m2 by have := hh9.base.2; have := HB8.out.s1; omega)
  clear b9 hh9 hr9 hlr hll HR8
  have HY1 := Lib.hid (bytes_more HR9.out n (by omega) (by omega))
  go_wp2_with fail
  refine HY1.out.mono ?_
  rintro e w10 ⟨rfl, hh10, k10⟩
  have HB10 := Lib.hid (HB9.out.at hr32.out k10)
  have HR10 := Lib.hid hh10
  have HM10 := Lib.hid (has_other HM9.out HR9.out (by have := hrm2.out; omega) k10)
  clear hh10 k10 HM9 HY1
  have HY2 := Lib.hid (bytes_more HM10.out n (by omega) (by omega))
  go_wp2_with fail
  refine HY2.out.mono ?_
  rintro e w11 ⟨rfl, hh11, k11⟩
  have HB11 := Lib.hid (HB10.out.at hm32.out k11)
  have HR11 := Lib.hid (has_other HR10.out HM10.out (by have := hrm2.out; omega) k11)
  clear hh11 k11 HM10 HR10 HR9 HY2 HB9 HB10
  have HAT := Lib.hid (at_has w11 HR11.out)
  have hnl : ((l0 : Nat) : Int) < n := by omega
  have hnd : decide (((l0 : Nat) : Int) < n) = true := decide_eq_true hnl
  go_wp2_with fail
  refine HAT.out.mono ?_
  rintro e w' ⟨rfl, rfl⟩
  go_wp2
  go_ret
  exact ⟨rfl, HB11.out.below⟩

set_option maxRecDepth 100000 in
set_option maxHeartbeats 2000000 in
theorem stays_other_mo (A0 : Option Addr) (l0 c0 : Nat) (bs : List Int) (A1 : Option Addr) (l1 c1 : Nat) (ms : List Int) (n : Int) (w : World) (hm : Max w) (hl0 : l0 ≤ 300) (hl1 : l1 ≤ 100)
    (hs0 : Src w (fun g => g < w.heap.size) A0 l0 c0 bs) (hs1 : Src w (fun g => g < w.heap.size) A1 l1 c1 ms) (N : Nat) (hN : n = (N : Int)) (hn : l0 < N) (hn2 : N ≤ l0 + l1) (h5 : (lineA bs n).2.1 ≠ 5) :
    Calls Try.prog 3 #[.slice A0 l0 c0, .slice A1 l1 c1, .int .i64 n] w fun e w' => e = .returned (.bool true) ∧ Below w.heap.size w w' := by
  have HA := Lib.hid (awake_any w hm)
  have HS0 := Lib.hid hs0
  have HS1 := Lib.hid hs1
  have HM := Lib.hid hm
  have hlb := hs0.len
  have hlm := hs1.len
  have HLB := Lib.hid hlb
  have HLM := Lib.hid hlm
  obtain ⟨x1, e1, k1, hx1⟩ : ∃ (x : ByteArray) (e : Int), ∃ k : Nat, lineA bs n = (x, e, k) := ⟨_, _, _, rfl⟩
  obtain ⟨x2, e2, k2, hx2⟩ : ∃ (x : ByteArray) (e : Int), ∃ k : Nat, lineA (bs ++ ms) n = (x, e, k) := ⟨_, _, _, rfl⟩
  have hsame := lineA_more bs ms n h5
  rw [hx1, hx2] at hsame
  obtain ⟨rfl, rfl, rfl⟩ : x2 = x1 ∧ e2 = e1 ∧ k2 = k1 := by simpa using hsame
  rw [hx1] at h5
  have hne1 : ((e2 : Int) == 5) = false := beq_eq_false_iff_ne.2 h5
  have hne2 : ((e2 : Int) != 5) = true := by rw [bne_iff_ne]; exact h5
  have hne3 : ((e2 : Int) != e2) = false := by simp
  have hne4 : (x2.toList != x2.toList) = false := by simp
  have hne5 : (((k2 : Nat) : Int) != (k2 : Int)) = false := by simp
  clear hsame
  have HX1 := Lib.hid hx1
  have HX2 := Lib.hid hx2
  clear hx1 hx2 h5 hlb hlm hs0 hs1 hm
  subst hN
  go_enter Try.func3, Try.ntmps3
  go_wp2_with fail
  refine HA.out.mono ?_
  rintro e w1 ⟨rfl, b1⟩
  have HC := Lib.hid (copy_any (HS0.out.below b1 (fun g hg => hg)) (by omega))
  have HB1 := Lib.hid b1
  clear b1 HA
  go_wp2_with fail
  refine HC.out.mono ?_
  rintro e w2 ⟨A2, c2, rfl, ho2, b2⟩
  have b12 := HB1.out.trans (b2.mono HB1.out.size)
  obtain ⟨A3, c3, w3, happ, ho3, hg3, _⟩ := append_at ho2 (HS1.out.below b12 (fun g hg => hg)) (by omega) b2.size
  have b13 : Below w.heap.size w w3 := b12.grown hg3 b12.size (fun g e => by have := (own_lt ho2 e).1; have := HB1.out.size; omega)
  have hbase : Base w w3 w3.heap.size A0 l0 c0 bs A3 (l0 + l1) c3 (bs ++ ms) := ⟨b13, HS0.out.below b13 (fun g hg => hg), (src_of_own ho3 (by intro x hx; rcases List.mem_append.1 hx with hx | hx; exact HS0.out.rng x hx; exact HS1.out.rng x hx)).weak (fun g hg => hg.2.1), b13.size, Nat.le_refl _, HM.out.keep (b13.block 0 HM.out.lt), HM.out⟩
  have HAPP := Lib.hid happ
  have HB3 := Lib.hid hbase
  clear happ ho3 hg3 ho2 b2 b12 b13 hbase HB1 HC
  go_wp2_with (at_builtin; refine wpList_append_eq rfl _ _ rfl rfl rfl rfl HAPP.out ?_)
  refine (HB3.out.newB (by omega)).mono ?_
  rintro e w4 ⟨r, A4, c4, rfl, hh4, b4⟩
  have HB4 := Lib.hid (HB3.out.fresh b4)
  have HR4 := Lib.hid hh4
  clear b4 hh4 HAPP
  go_wp2_with fail
  refine (HB4.out.newL (by omega)).mono ?_
  rintro e w5 ⟨m, A5, c5, rfl, hh5, b5⟩
  have HB5 := Lib.hid (HB4.out.fresh b5)
  have HR5 := Lib.hid (HR4.out.below b5 (Nat.le_refl _))
  have HM5 := Lib.hid hh5
  have hrm := Lib.hid (show r < m by have := HR4.out.head.lt; have := hh5.base.2; omega)
  have hr3 := Lib.hid (show w3.heap.size ≤ r from HR4.out.base.2)
  have hm3 := Lib.hid (show w3.heap.size ≤ m by have := hh5.base.2; have := HB4.out.s1; omega)
  have HL1 := Lib.hid (line_any HR5.out (N : Int))
  clear b5 hh5 HR4
  rw [List.drop_zero, HX1.out] at HL1
  go_wp2_with fail
  refine HL1.out.mono ?_
  rintro e w6 ⟨rfl, hh6, k6⟩
  have HB6 := Lib.hid (HB5.out.at hr3.out k6)
  have HR6 := Lib.hid hh6
  have HM6 := Lib.hid (has_other HM5.out HR5.out (by have := hrm.out; omega) k6)
  have HL2 := Lib.hid (line_any HM6.out (N : Int))
  clear hh6 k6 HM5 HR5 HB5 HL1
  rw [List.drop_zero, HX2.out] at HL2
  go_wp2_with fail
  refine HL2.out.mono ?_
  rintro e w7 ⟨rfl, hh7, k7⟩
  have HB7 := Lib.hid (HB6.out.at hm3.out k7)
  have HM7 := Lib.hid hh7
  have HR7 := Lib.hid (has_other HR6.out HM6.out (by have := hrm.out; omega) k7)
  have ha1 := at_has w7 HR7.out
  have ha2 := at_has w7 HM7.out
  rw [Nat.zero_add] at ha1 ha2
  have HA1 := Lib.hid ha1
  have HA2 := Lib.hid ha2
  clear hh7 k7 HM6 HR6 HB6 HL2 ha1 ha2
  try dsimp only at HA1 HA2
  go_wp2_with fail
  refine HA1.out.mono ?_
  rintro e w' ⟨rfl, rfl⟩
  go_wp2_with fail
  refine HA2.out.mono ?_
  rintro e w' ⟨rfl, rfl⟩
  go_wp2_with fail
  clear HA1 HA2 HR7 HM7
  refine (HB7.out.newB (by omega)).mono ?_
  rintro e w8 ⟨r2, A8, c8, rfl, hh8, b8⟩
  have HB8 := Lib.hid (HB7.out.fresh b8)
  have HR8 := Lib.hid hh8
  clear b8 hh8
  go_wp2_with fail
  refine (HB8.out.newL (by omega)).mono ?_
  rintro e w9 ⟨m2, A9, c9, rfl, hh9, b9⟩
  have HB9 := Lib.hid (HB8.out.fresh b9)
  have hr9 := HR8.out.below b9 (Nat.le_refl _)
  have hlr : bs.length = l0 := HLB.out
  have hll : (bs ++ ms).length = l0 + l1 := by rw [List.length_append, HLB.out, HLM.out]
  rw [hll] at hh9
  rw [hlr] at hr9
  have HR9 := Lib.hid hr9
  have HM9 := Lib.hid hh9
  have hrm2 := Lib.hid (show r2 < m2 by have := HR8.out.head.lt; have := hh9.base.2; omega)
  have hr32 := Lib.hid (show w3.heap.size ≤ r2 by have := HR8.out.base.2; have := HB7.out.s1; omega)
  have hm32 := Lib.hid (show w3.heap.size ≤ m2 by have := hh9.base.2; have := HB8.out.s1; omega)
  clear b9 hh9 hr9 hlr hll HR8
  have HY1 := Lib.hid (bytes_more HR9.out (N : Int) (by omega) (by omega))
  go_wp2_with fail
  refine HY1.out.mono ?_
  rintro e w10 ⟨rfl, hh10, k10⟩
  have HB10 := Lib.hid (HB9.out.at hr32.out k10)
  have HR10 := Lib.hid hh10
  have HM10 := Lib.hid (has_other HM9.out HR9.out (by have := hrm2.out; omega) k10)
  clear hh10 k10 HM9 HY1
  have HY2 := Lib.hid (bytes_ok HM10.out N (by omega))
  go_wp2_with fail
  refine HY2.out.mono ?_
  rintro e w11 ⟨AY, cY, rfl, ho11, hh11, k11⟩
  have HB11 := Lib.hid (HB10.out.at hm32.out k11)
  have HR11 := Lib.hid (has_other HR10.out HM10.out (by have := hrm2.out; omega) k11)
  clear hh11 k11 HM10 HR10 HR9 HY2 HB9 HB10
  have HAT := Lib.hid (at_has w11 HR11.out)
  have hnl : ((l0 : Nat) : Int) < (N : Int) := by omega
  have hnd : decide (l0 < N) = true := decide_eq_true hn
  have hnd2 : decide (((l0 : Nat) : Int) < (N : Int)) = true := decide_eq_true hnl
  go_wp2_with fail
  refine HAT.out.mono ?_
  rintro e w' ⟨rfl, rfl⟩
  go_wp2
  go_ret
  exact ⟨rfl, HB11.out.below⟩

set_option maxRecDepth 100000 in
set_option maxHeartbeats 2000000 in
theorem stays_other_ok (A0 : Option Addr) (l0 c0 : Nat) (bs : List Int) (A1 : Option Addr) (l1 c1 : Nat) (ms : List Int) (n : Int) (w : World) (hm : Max w) (hl0 : l0 ≤ 300) (hl1 : l1 ≤ 100)
    (hs0 : Src w (fun g => g < w.heap.size) A0 l0 c0 bs) (hs1 : Src w (fun g => g < w.heap.size) A1 l1 c1 ms) (N : Nat) (hN : n = (N : Int)) (hn : N ≤ l0) (h5 : (lineA bs n).2.1 ≠ 5) :
    Calls Try.prog 3 #[.slice A0 l0 c0, .slice A1 l1 c1, .int .i64 n] w fun e w' => e = .returned (.bool true) ∧ Below w.heap.size w w' := by
  have HA := Lib.hid (awake_any w hm)
  have HS0 := Lib.hid hs0
  have HS1 := Lib.hid hs1
  have HM := Lib.hid hm
  have hlb := hs0.len
  have hlm := hs1.len
  have HLB := Lib.hid hlb
  have HLM := Lib.hid hlm
  obtain ⟨x1, e1, k1, hx1⟩ : ∃ (x : ByteArray) (e : Int), ∃ k : Nat, lineA bs n = (x, e, k) := ⟨_, _, _, rfl⟩
  obtain ⟨x2, e2, k2, hx2⟩ : ∃ (x : ByteArray) (e : Int), ∃ k : Nat, lineA (bs ++ ms) n = (x, e, k) := ⟨_, _, _, rfl⟩
  have hsame := lineA_more bs ms n h5
  rw [hx1, hx2] at hsame
  obtain ⟨rfl, rfl, rfl⟩ : x2 = x1 ∧ e2 = e1 ∧ k2 = k1 := by simpa using hsame
  rw [hx1] at h5
  have hne1 : ((e2 : Int) == 5) = false := beq_eq_false_iff_ne.2 h5
  have hne2 : ((e2 : Int) != 5) = true := by rw [bne_iff_ne]; exact h5
  have hne3 : ((e2 : Int) != e2) = false := by simp
  have hne4 : (x2.toList != x2.toList) = false := by simp
  have hne5 : (((k2 : Nat) : Int) != (k2 : Int)) = false := by simp
  clear hsame
  have HX1 := Lib.hid hx1
  have HX2 := Lib.hid hx2
  clear hx1 hx2 h5 hlb hlm hs0 hs1 hm
  subst hN
  go_enter Try.func3, Try.ntmps3
  go_wp2_with fail
  refine HA.out.mono ?_
  rintro e w1 ⟨rfl, b1⟩
  have HC := Lib.hid (copy_any (HS0.out.below b1 (fun g hg => hg)) (by omega))
  have HB1 := Lib.hid b1
  clear b1 HA
  go_wp2_with fail
  refine HC.out.mono ?_
  rintro e w2 ⟨A2, c2, rfl, ho2, b2⟩
  have b12 := HB1.out.trans (b2.mono HB1.out.size)
  obtain ⟨A3, c3, w3, happ, ho3, hg3, _⟩ := append_at ho2 (HS1.out.below b12 (fun g hg => hg)) (by omega) b2.size
  have b13 : Below w.heap.size w w3 := b12.grown hg3 b12.size (fun g e => by have := (own_lt ho2 e).1; have := HB1.out.size; omega)
  have hbase : Base w w3 w3.heap.size A0 l0 c0 bs A3 (l0 + l1) c3 (bs ++ ms) := ⟨b13, HS0.out.below b13 (fun g hg => hg), (src_of_own ho3 (by intro x hx; rcases List.mem_append.1 hx with hx | hx; exact HS0.out.rng x hx; exact HS1.out.rng x hx)).weak (fun g hg => hg.2.1), b13.size, Nat.le_refl _, HM.out.keep (b13.block 0 HM.out.lt), HM.out⟩
  have HAPP := Lib.hid happ
  have HB3 := Lib.hid hbase
  clear happ ho3 hg3 ho2 b2 b12 b13 hbase HB1 HC
  go_wp2_with (at_builtin; refine wpList_append_eq rfl _ _ rfl rfl rfl rfl HAPP.out ?_)
  refine (HB3.out.newB (by omega)).mono ?_
  rintro e w4 ⟨r, A4, c4, rfl, hh4, b4⟩
  have HB4 := Lib.hid (HB3.out.fresh b4)
  have HR4 := Lib.hid hh4
  clear b4 hh4 HAPP
  go_wp2_with fail
  refine (HB4.out.newL (by omega)).mono ?_
  rintro e w5 ⟨m, A5, c5, rfl, hh5, b5⟩
  have HB5 := Lib.hid (HB4.out.fresh b5)
  have HR5 := Lib.hid (HR4.out.below b5 (Nat.le_refl _))
  have HM5 := Lib.hid hh5
  have hrm := Lib.hid (show r < m by have := HR4.out.head.lt; have := hh5.base.2; omega)
  have hr3 := Lib.hid (show w3.heap.size ≤ r from HR4.out.base.2)
  have hm3 := Lib.hid (show w3.heap.size ≤ m by have := hh5.base.2; have := HB4.out.s1; omega)
  have HL1 := Lib.hid (line_any HR5.out (N : Int))
  clear b5 hh5 HR4
  rw [List.drop_zero, HX1.out] at HL1
  go_wp2_with fail
  refine HL1.out.mono ?_
  rintro e w6 ⟨rfl, hh6, k6⟩
  have HB6 := Lib.hid (HB5.out.at hr3.out k6)
  have HR6 := Lib.hid hh6
  have HM6 := Lib.hid (has_other HM5.out HR5.out (by have := hrm.out; omega) k6)
  have HL2 := Lib.hid (line_any HM6.out (N : Int))
  clear hh6 k6 HM5 HR5 HB5 HL1
  rw [List.drop_zero, HX2.out] at HL2
  go_wp2_with fail
  refine HL2.out.mono ?_
  rintro e w7 ⟨rfl, hh7, k7⟩
  have HB7 := Lib.hid (HB6.out.at hm3.out k7)
  have HM7 := Lib.hid hh7
  have HR7 := Lib.hid (has_other HR6.out HM6.out (by have := hrm.out; omega) k7)
  have ha1 := at_has w7 HR7.out
  have ha2 := at_has w7 HM7.out
  rw [Nat.zero_add] at ha1 ha2
  have HA1 := Lib.hid ha1
  have HA2 := Lib.hid ha2
  clear hh7 k7 HM6 HR6 HB6 HL2 ha1 ha2
  try dsimp only at HA1 HA2
  go_wp2_with fail
  refine HA1.out.mono ?_
  rintro e w' ⟨rfl, rfl⟩
  go_wp2_with fail
  refine HA2.out.mono ?_
  rintro e w' ⟨rfl, rfl⟩
  go_wp2_with fail
  clear HA1 HA2 HR7 HM7
  refine (HB7.out.newB (by omega)).mono ?_
  rintro e w8 ⟨r2, A8, c8, rfl, hh8, b8⟩
  have HB8 := Lib.hid (HB7.out.fresh b8)
  have HR8 := Lib.hid hh8
  clear b8 hh8
  go_wp2_with fail
  refine (HB8.out.newL (by omega)).mono ?_
  rintro e w9 ⟨m2, A9, c9, rfl, hh9, b9⟩
  have HB9 := Lib.hid (HB8.out.fresh b9)
  have hr9 := HR8.out.below b9 (Nat.le_refl _)
  have hlr : bs.length = l0 := HLB.out
  have hll : (bs ++ ms).length = l0 + l1 := by rw [List.length_append, HLB.out, HLM.out]
  rw [hll] at hh9
  rw [hlr] at hr9
  have HR9 := Lib.hid hr9
  have HM9 := Lib.hid hh9
  have hrm2 := Lib.hid (show r2 < m2 by have := HR8.out.head.lt; have := hh9.base.2; omega)
  have hr32 := Lib.hid (show w3.heap.size ≤ r2 by have := HR8.out.base.2; have := HB7.out.s1; omega)
  have hm32 := Lib.hid (show w3.heap.size ≤ m2 by have := hh9.base.2; have := HB8.out.s1; omega)
  clear b9 hh9 hr9 hlr hll HR8
  have HY1 := Lib.hid (bytes_ok HR9.out N (by omega))
  go_wp2_with fail
  refine HY1.out.mono ?_
  rintro e w10 ⟨AX, cX, rfl, ho10, hh10, k10⟩
  have HB10 := Lib.hid (HB9.out.at hr32.out k10)
  have HR10 := Lib.hid hh10
  have HM10 := Lib.hid (has_other HM9.out HR9.out (by have := hrm2.out; omega) k10)
  have HOX := Lib.hid ho10
  clear ho10
  clear hh10 k10 HM9 HY1
  have HY2 := Lib.hid (bytes_ok HM10.out N (by omega))
  go_wp2_with fail
  refine HY2.out.mono ?_
  rintro e w11 ⟨AY, cY, rfl, ho11, hh11, k11⟩
  have HB11 := Lib.hid (HB10.out.at hm32.out k11)
  have HR11 := Lib.hid (has_other HR10.out HM10.out (by have := hrm2.out; omega) k11)
  have hsrcx := src_of_own HOX.out (fun x hx => HS0.out.rng x (List.mem_of_mem_drop (List.mem_of_mem_take hx)))
  have hsrcx11 : Src w11 (fun g => w9.heap.size ≤ g ∧ g < w10.heap.size ∧ (Value.slice AX N cX).ownBlock = some g) AX N cX ((bs.drop 0).take N) :=
    hsrcx.keep (fun g hg => k11.block g hg.2.1 (fun e => by subst e; exact own_ne HOX.out HM10.out.head (by decide) hg.2.2))
  have hsrcy := src_of_own ho11 (fun x hx => by
    rcases List.mem_append.1 (List.mem_of_mem_drop (List.mem_of_mem_take hx)) with hx | hx
    · exact HS0.out.rng x hx
    · exact HS1.out.rng x hx)
  have hsm := same_any w11 hsrcx11 hsrcy
  have heq : sameB ((bs.drop 0).take N) (((bs ++ ms).drop 0).take N) = true := by
    rw [List.drop_zero, List.drop_zero, List.take_append_of_le_length (by rw [HLB.out]; exact hn)]
    exact sameB_refl _
  rw [heq] at hsm
  have HSM := Lib.hid hsm
  clear hsrcx hsrcx11 hsrcy hsm heq ho11 HOX
  clear hh11 k11 HM10 HR10 HR9 HY2 HB9 HB10
  go_wp2_with fail
  refine HSM.out.mono ?_
  rintro e w12 ⟨rfl, hst⟩
  have HST := Lib.hid hst
  clear hst
  go_wp2
  go_ret
  exact ⟨rfl, HB11.out.below.trans (Still.below HST.out _)⟩

theorem walk (A0 : Option Addr) (l0 c0 : Nat) (bs : List Int) (A1 : Option Addr) (l1 c1 : Nat) (ms : List Int) (n : Int) (w : World) (hm : Max w)
    (hs0 : Src w (fun g => g < w.heap.size) A0 l0 c0 bs) (hs1 : Src w (fun g => g < w.heap.size) A1 l1 c1 ms) :
    Calls Try.prog 3 #[.slice A0 l0 c0, .slice A1 l1 c1, .int .i64 n] w fun e w' => e = .returned (.bool true) ∧ Below w.heap.size w w' := by
  by_cases hs : 300 < l0 ∨ 100 < l1
  · exact stays_out A0 l0 c0 A1 l1 c1 n w hm hs
  · have h0 : l0 ≤ 300 := by omega
    have h1 : l1 ≤ 100 := by omega
    by_cases hn : n < 0
    · refine stays_other_neg A0 l0 c0 bs A1 l1 c1 ms n w hm h0 h1 hs0 hs1 hn ?_
      have : lineA bs n = (⟨#[]⟩, 2, 0) := if_pos hn
      rw [this]
      decide
    · obtain ⟨N, rfl⟩ := Int.eq_ofNat_of_zero_le (show 0 ≤ n by omega)
      by_cases h5 : (lineA bs (N : Int)).2.1 = 5
      · by_cases ha : l0 + l1 < N
        · exact stays_five_mm A0 l0 c0 bs A1 l1 c1 ms _ w hm h0 h1 hs0 hs1 (by omega) h5
        · by_cases hb : l0 < N
          · exact stays_five_mo A0 l0 c0 bs A1 l1 c1 ms _ w hm h0 h1 hs0 hs1 N rfl hb (by omega) h5
          · exact stays_five_ok A0 l0 c0 bs A1 l1 c1 ms _ w hm h0 h1 hs0 hs1 N rfl (by omega) h5
      · by_cases ha : l0 + l1 < N
        · exact stays_other_mm A0 l0 c0 bs A1 l1 c1 ms _ w hm h0 h1 hs0 hs1 (by omega) h5
        · by_cases hb : l0 < N
          · exact stays_other_mo A0 l0 c0 bs A1 l1 c1 ms _ w hm h0 h1 hs0 hs1 N rfl hb (by omega) h5
          · exact stays_other_ok A0 l0 c0 bs A1 l1 c1 ms _ w hm h0 h1 hs0 hs1 N rfl (by omega) h5

end Go.Proofs.Ytliajejgkinkjab.stays
