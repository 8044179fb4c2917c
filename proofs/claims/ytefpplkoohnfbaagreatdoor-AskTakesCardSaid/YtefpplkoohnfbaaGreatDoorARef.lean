/-
  Given for the seat's laws: the contracts of the document's own Take and TakeReply. No condition but those of the theorems.
-/
import Derived.Test.YtefpplkoohnfbaaGreatDoorALOnce
import Derived.Test.YtefpplkoohnfbaaGreatDoorHRName
import Derived.RegionTactic
import Derived.BigRegion
namespace Go.Proofs.YtefpplkoohnfbaaGreatDoor.ak
open Go.RowKit mem hostp hw own
set_option linter.unusedVariables false

theorem cutLH (V : World) (A : Option Addr) (n c k j : Nat) (h : k ≤ j) (h2 : j ≤ c) : (Instr.slice 22 (.slice A n c) (some (.int .i64 (k : Int))) (some (.int .i64 (j : Int))) none).run Tryz.prog V = .ok (.slice (cutA A c k) (j - k) (c - k)) V := by
  obtain ⟨i0, hi, hz0, hz1, hz2⟩ := info_parts (show (Tryz.prog.info? 5).map (fun i => (i.zero, i.size, i.bytes)) = some (some (.int .u8 0), 1, 1) by kernel_rfl)
  rw [run_slice_lh V 22 _ n c (by kernel_rfl) .i64 .i64 _ _ (by omega) (by omega) (by omega)]
  have he : Tryz.prog.elem 22 = 5 := by kernel_rfl
  rw [he]
  have hs : (sizeOf 5).run Tryz.prog V = .ok 1 V := by simp [sizeOf, typeInfo, hi, hz1]
  rw [hs]
  simp only [Result.andThen, sliced, Int.toNat_natCast, Nat.mul_one]
  rfl
theorem cs_at (cs : Str) (k : Nat) (c : UInt8) (h : cs[k]? = some c) (W : World) : (Instr.index 9 (.string (S cs)) (.int .i64 (k : Int))).run Tryz.prog W = .ok (.int .u8 (c.toNat : Int)) W := by
  obtain ⟨hlt, e⟩ := List.getElem?_eq_some_iff.1 h
  rw [run_index_string (P := Tryz.prog) W 9 _ .i64 (k : Int) Tryz.underlying9, dif_pos ⟨by omega, by rw [S_size]; omega⟩]
  simp only [Int.toNat_natCast]
  have : (S cs)[k]'(by rw [S_size]; exact hlt) = c := by
    show (S cs).data[k]'_ = c
    rw [← e]
    simp [S]
  rw [this]
theorem low_get {l : Str} {i : Nat} {c : UInt8} (h : l[i]? = some c) : (low l)[i]? = some (lc c) := by simp [low, h]
set_option maxRecDepth 100000 in
set_option maxHeartbeats 2000000 in
theorem rlower_any (l : Str) (hl : l.length ≤ 3000) (w : World) : Calls Tryz.prog 18 #[.string (S l)] w (Gives (.string (S (low l))) w) := by
  have hsz : (S l).size = l.length := S_size l
  obtain ⟨m, hm⟩ : ∃ m, l.length = m := ⟨_, rfl⟩
  obtain ⟨u, hu⟩ : ∃ u, u = low l := ⟨_, rfl⟩
  have hul : u.length = m := by rw [hu, low_len, hm]
  rw [hm] at hsz hl
  rw [← hu]
  have HM := Bx.mk hm
  have HU := Bx.mk hu
  have HUL := Bx.mk hul
  have h0 : Bx (Made w w (.slice none (0 : Nat) 0) (u.take 0)) := ⟨⟨own_none w _ _, Below.refl _ _⟩⟩
  clear hm hu hul
  go_enter Tryz.func18, Tryz.ntmps18
  go_wp2
  go_loopw [3, 4] (fun s3 s4 wr => ∃ (i : Nat) (A' : Option Addr) (c' : Nat), i ≤ m ∧ s3 = .slice A' i c' ∧ s4 = .int .i64 (i : Int) ∧ Bx (Made w wr (.slice A' i c') (u.take i))) (fun _ s4 _ => m - (intOf s4).toNat)
  case atStart => exact ⟨0, none, 0, by omega, rfl, rfl, h0⟩
  case round =>
    clear h0
    obtain ⟨i, A', c', hi, rfl, rfl, HR⟩ := hrel
    by_cases him : i < m
    · obtain ⟨ch, hch⟩ : ∃ ch, l[i]? = some ch := ⟨_, List.getElem?_eq_getElem (by rw [HM.out]; exact him)⟩
      have hix := fun W => cs_at l i ch hch W
      have hch8 := ch.toNat_lt
      have hug := low_get hch
      obtain ⟨x, hx⟩ : ∃ x, x = lc ch := ⟨_, rfl⟩
      rw [← hx, ← HU.out] at hug
      have htk : u.take (i + 1) = u.take i ++ [x] := by rw [List.take_add_one, hug]; rfl
      have hul : (u.take i).length = i := by rw [List.length_take, HUL.out]; omega
      obtain ⟨A2, c2, w2, happ, hmd⟩ := Made.push HR.out (by rw [hul]; omega) x
      rw [hul] at happ hmd
      rw [← htk] at hmd
      have HAP := Bx.mk happ
      have HMD := Bx.mk hmd
      clear happ hmd htk hul hug hch
      by_cases hr : 65 ≤ ch.toNat ∧ ch.toNat ≤ 90
      · have hxw : (ch.toNat : Int) - 65 + 97 = (x.toNat : Int) := by
          rw [hx, lc_great hr]; omega
        obtain ⟨hr1, hr2⟩ := hr
        clear hx
        go_wp2_with (at_builtin; refine wpList_append_eq rfl _ _ rfl rfl rfl rfl HAP.out ?_)
        go_roundw
        case rel => exact ⟨i + 1, A2, c2, by omega, rfl, by go_num, HMD⟩
        case measure => simp [intOf]; omega
      · have hxc : x = ch := by rw [hx, lc_else hr]
        subst hxc
        clear hx
        rcases Nat.lt_or_ge x.toNat 65 with hlo | hlo
        · clear hr
          go_wp2_with (at_builtin; refine wpList_append_eq rfl _ _ rfl rfl rfl rfl HAP.out ?_)
          go_roundw
          case rel => exact ⟨i + 1, A2, c2, by omega, rfl, by go_num, HMD⟩
          case measure => simp [intOf]; omega
        · have hhi : 90 < x.toNat := by omega
          clear hr
          go_wp2_with (at_builtin; refine wpList_append_eq rfl _ _ rfl rfl rfl rfl HAP.out ?_)
          go_roundw
          case rel => exact ⟨i + 1, A2, c2, by omega, rfl, by go_num, HMD⟩
          case measure => simp [intOf]; omega
    · have htk : u.take i = u := List.take_of_length_le (by rw [HUL.out]; omega)
      rw [htk] at HR
      have hiu : u.length = i := by rw [HUL.out]; omega
      have hconv := spell_str (made_spell HR.out hiu)
      clear htk hiu
      go_wp2
      go_ret
      exact ⟨rfl, HR.out.below⟩
set_option maxHeartbeats 1000000 in
theorem rbegins_any (x : Str) (k : Nat) (hx : x.length ≤ 1000) (w : World) : Calls Tryz.prog 19 #[.string (S x), .int .i64 (k : Int)] w (Says (begins x k) w) := by
  have hsz := S_size x
  unfold begins
  by_cases h : x.length = k
  · rw [if_pos h]
    have HN := rname_any (S x) w
    rw [S_list] at HN
    have HNB := Bx.mk HN
    subst h
    clear HN
    go_enter Tryz.func19, Tryz.ntmps19
    go_wp2_with fail
    refine HNB.out.mono ?_
    rintro e w' ⟨rfl, rfl⟩
    go_wp2_with fail
    go_ret
    exact ⟨rfl, rfl⟩
  · rw [if_neg h]
    have HN := rname_any (S (x ++ [97])) w
    rw [S_list] at HN
    have HNB := Bx.mk HN
    have hadd : (Op.stringOp .add (S x) ⟨#[97]⟩).run Tryz.prog w = .ok (.string (S (x ++ [97]))) w := add_str x [97] hx (by simp) w
    have q : ((x.length : Int) == (k : Int)) = false := by simp; omega
    clear HN h
    generalize S (x ++ [97]) = y at *
    go_enter Tryz.func19, Tryz.ntmps19
    go_wp2_with fail
    refine HNB.out.mono ?_
    rintro e w' ⟨rfl, rfl⟩
    go_wp2_with fail
    go_ret
    exact ⟨rfl, rfl⟩

/-! ### the document's Take -/
def mst (i : Nat) : UInt8 := if i = 0 then 5 else if i = 1 then 1 else 0
theorem pre_short {b : Str} {i : Nat} (hi : i < 3) (h : b.take i = [5, 1, 0].take i) (hl : b.length ≤ i) : tk b = none_ 5 := by
  have : i = 0 ∨ i = 1 ∨ i = 2 := by omega
  rcases this with rfl | rfl | rfl
  · rw [List.eq_nil_of_length_eq_zero (by omega : b.length = 0)]; rfl
  · match b with
    | [] => rfl
    | [a] => simp at h; subst h; rfl
    | a :: c :: r => simp at hl
  · match b with
    | [] => rfl
    | [a] => simp at h
    | [a, c] => simp at h; obtain ⟨rfl, rfl⟩ := h; rfl
    | a :: c :: d :: r => simp at hl
theorem pre_bad {b : Str} {i : Nat} (hi : i < 3) (h : b.take i = [5, 1, 0].take i) {x : UInt8} (hx : b[i]? = some x) (hne : x ≠ mst i) : tk b = none_ (if i = 1 then 140 else 6) := by
  have : i = 0 ∨ i = 1 ∨ i = 2 := by omega
  rcases this with rfl | rfl | rfl
  · match b with
    | [] => simp at hx
    | a :: r => simp at hx; subst hx; rw [tk_cons, if_neg (show ¬ a = 5 from hne)]; rfl
  · match b with
    | [] => simp at hx
    | [a] => simp at hx
    | a :: c :: r => simp at hx h; subst hx h; rw [tk_cons, if_pos rfl, tk1_cons, if_neg (show ¬ c = 1 from hne)]; rfl
  · match b with
    | [] => simp at hx
    | [a] => simp at hx
    | [a, c] => simp at hx
    | a :: c :: d :: r => simp at hx h; obtain ⟨rfl, rfl⟩ := h; subst hx; rw [tk_cons, if_pos rfl, tk1_cons, if_pos rfl, tk2_cons, if_neg (show ¬ d = 0 from hne)]; rfl
theorem pre_next {b : Str} {i : Nat} (hi : i < 3) (h : b.take i = [5, 1, 0].take i) (hx : b[i]? = some (mst i)) : b.take (i + 1) = [5, 1, 0].take (i + 1) := by
  rw [List.take_add_one, h, hx]
  have : i = 0 ∨ i = 1 ∨ i = 2 := by omega
  rcases this with rfl | rfl | rfl <;> rfl
theorem pre_end {b : Str} (h : b.take 3 = [5, 1, 0].take 3) : ∃ r, b = 5 :: 1 :: 0 :: r := by
  refine ⟨b.drop 3, ?_⟩
  conv => lhs; rw [← List.take_append_drop 3 b, h]
  rfl
theorem mst_cell {wr : World} {g : Nat} (h : Lies wr g 5 #[.int .u8 5, .int .u8 1, .int .u8 0]) {i : Nat} (hi : i < 3) : wr.cell? ⟨g, i, none⟩ = some (.int .u8 ((mst i).toNat : Int)) := by
  rw [h.cell]
  have : i = 0 ∨ i = 1 ∨ i = 2 := by omega
  rcases this with rfl | rfl | rfl <;> rfl
abbrev zeroT : Array Value := #[.int .u8 0, .string ⟨#[]⟩, .int .i64 0]
structure RS (w wr : World) (A : Option Addr) (n c : Nat) (b : Str) : Prop where
  be : Below w.heap.size w wr
  res : Lies wr w.heap.size 26 #[.int .u8 0, .string ⟨#[]⟩, .int .i64 0]
  non : Lies wr (w.heap.size + 1) 26 #[.int .u8 0, .string ⟨#[]⟩, .int .i64 0]
  must : Lies wr (w.heap.size + 2) 5 #[.int .u8 5, .int .u8 1, .int .u8 0]
  sp : Spell wr (fun g => g < w.heap.size) A n c b
section
variable {w wr W : World} {A : Option Addr} {n c : Nat} {b : Str}
theorem RS.start (hs : Spell w (fun g => g < w.heap.size) A n c b) : RS w (((w.alloc (.cells #[.int .u8 0, .string ⟨#[]⟩, .int .i64 0] 26)).alloc (.cells #[.int .u8 0, .string ⟨#[]⟩, .int .i64 0] 26)).alloc (.cells #[.int .u8 5, .int .u8 1, .int .u8 0] 5)) A n c b := by
  have h1 := Lies.new w 26 #[.int .u8 0, .string ⟨#[]⟩, .int .i64 0]
  have h2 := Lies.new (w.alloc (.cells #[.int .u8 0, .string ⟨#[]⟩, .int .i64 0] 26)) 26 #[.int .u8 0, .string ⟨#[]⟩, .int .i64 0]
  have h3 := Lies.new ((w.alloc (.cells #[.int .u8 0, .string ⟨#[]⟩, .int .i64 0] 26)).alloc (.cells #[.int .u8 0, .string ⟨#[]⟩, .int .i64 0] 26)) 5 #[.int .u8 5, .int .u8 1, .int .u8 0]
  have z1 : (w.alloc (.cells #[.int .u8 0, .string ⟨#[]⟩, .int .i64 0] 26)).heap.size = w.heap.size + 1 := by simp
  have z2 : ((w.alloc (.cells #[.int .u8 0, .string ⟨#[]⟩, .int .i64 0] 26)).alloc (.cells #[.int .u8 0, .string ⟨#[]⟩, .int .i64 0] 26)).heap.size = w.heap.size + 2 := by simp
  rw [z1] at h2
  rw [z2] at h3
  have hb : Below w.heap.size w (((w.alloc (.cells #[.int .u8 0, .string ⟨#[]⟩, .int .i64 0] 26)).alloc (.cells #[.int .u8 0, .string ⟨#[]⟩, .int .i64 0] 26)).alloc (.cells #[.int .u8 5, .int .u8 1, .int .u8 0] 5)) := (((Below.refl _ _).alloc (Nat.le_refl _) _).alloc (by simp) _).alloc (by simp; omega) _
  exact ⟨hb, (h1.alloc _).alloc _, h2.alloc _, h3, hs.below hb (fun g hg => hg)⟩
theorem RS.next (h : RS w wr A n c b) (hb : Below wr.heap.size wr W) : RS w W A n c b :=
  ⟨h.be.trans (hb.mono h.be.size), h.res.below hb h.res.lt, h.non.below hb h.non.lt, h.must.below hb h.must.lt, h.sp.below (hb.mono h.be.size) (fun g hg => hg)⟩
theorem RS.set (h : RS w wr A n c b) {g : Nat} (hg : w.heap.size + 2 < g) (i : Nat) (v : Value) : RS w (wr.setCell ⟨g, i, none⟩ v) A n c b :=
  ⟨h.be.setCell (p := ⟨g, i, none⟩) (by show w.heap.size ≤ g; omega) _, h.res.far (p := ⟨g, i, none⟩) (by show w.heap.size ≠ g; omega) _, h.non.far (p := ⟨g, i, none⟩) (by show w.heap.size + 1 ≠ g; omega) _, h.must.far (p := ⟨g, i, none⟩) (by show w.heap.size + 2 ≠ g; omega) _,
    h.sp.below (B := w.heap.size) ((Below.refl _ _).setCell (p := ⟨g, i, none⟩) (by show w.heap.size ≤ g; omega) _) (fun g hg => hg)⟩
theorem RS.cells (h : RS w wr A n c b) : wr.cell? ⟨w.heap.size, 0, none⟩ = some (.int .u8 0) ∧ wr.cell? ⟨w.heap.size, 1, none⟩ = some (.string ⟨#[]⟩) ∧ wr.cell? ⟨w.heap.size, 2, none⟩ = some (.int .i64 0) ∧
    wr.cell? ⟨w.heap.size + 1, 0, none⟩ = some (.int .u8 0) ∧ wr.cell? ⟨w.heap.size + 1, 1, none⟩ = some (.string ⟨#[]⟩) ∧ wr.cell? ⟨w.heap.size + 1, 2, none⟩ = some (.int .i64 0) ∧ ∀ i, wr.frozen? ⟨w.heap.size, i, none⟩ = false := by
  have r0 := h.res.cell 0; have r1 := h.res.cell 1; have r2 := h.res.cell 2
  have n0 := h.non.cell 0; have n1 := h.non.cell 1; have n2 := h.non.cell 2
  simp at r0 r1 r2 n0 n1 n2
  exact ⟨r0, r1, r2, n0, n1, n2, fun i => h.res.frozen i⟩
/-- the result is stored -/
theorem RS.fin (h : RS w wr A n c b) (x y z : Value) : (((wr.setCell ⟨w.heap.size, 0, none⟩ x).setCell ⟨w.heap.size, 1, none⟩ y).setCell ⟨w.heap.size, 2, none⟩ z).cell? ⟨w.heap.size, 0, none⟩ = some x ∧
    (((wr.setCell ⟨w.heap.size, 0, none⟩ x).setCell ⟨w.heap.size, 1, none⟩ y).setCell ⟨w.heap.size, 2, none⟩ z).cell? ⟨w.heap.size, 1, none⟩ = some y ∧
    (((wr.setCell ⟨w.heap.size, 0, none⟩ x).setCell ⟨w.heap.size, 1, none⟩ y).setCell ⟨w.heap.size, 2, none⟩ z).cell? ⟨w.heap.size, 2, none⟩ = some z ∧
    Below w.heap.size w (((wr.setCell ⟨w.heap.size, 0, none⟩ x).setCell ⟨w.heap.size, 1, none⟩ y).setCell ⟨w.heap.size, 2, none⟩ z) := by
  have hf := ((h.res.set 0 x).set 1 y).set 2 z
  refine ⟨by rw [hf.cell]; simp, by rw [hf.cell]; simp, by rw [hf.cell]; simp, ?_⟩
  exact ((h.be.setCell (p := ⟨w.heap.size, 0, none⟩) (Nat.le_refl _) x).setCell (p := ⟨w.heap.size, 1, none⟩) (Nat.le_refl _) y).setCell (p := ⟨w.heap.size, 2, none⟩) (Nat.le_refl _) z
end
theorem results_rtake {W : World} {h : Nat} {x y z : Value} (c0 : W.cell? ⟨h, 0, none⟩ = some x) (c1 : W.cell? ⟨h, 1, none⟩ = some y) (c2 : W.cell? ⟨h, 2, none⟩ = some z) (tmps : Array Value) (h2 : tmps[2]?.getD undef = .pointer (some ⟨h, 0, none⟩)) {v3 v4 : Value} (h3 : tmps[3]?.getD undef = v3) (h4 : tmps[4]?.getD undef = v4) :
    (results Tryz.f9 tmps).run Tryz.prog W = .ok (.tuple #[.agg #[x, y, z], v3, v4]) W := by
  simp [results, Tryz.results9, go_sem, h2, h3, h4, c0, c1, c2]
theorem tkP_few {kind n : Nat} {x l : Str} (h : l.length < 2) : tkP kind x n l = none_ 5 := by
  match l with
  | [] => rfl
  | [a] => rfl
  | a :: b :: r => simp at h; omega
theorem tkA_few {kind size : Nat} {s : Str} (h : s.length < size + 2) : tkA kind size s = none_ 5 := by
  unfold tkA
  by_cases hl : s.length < size
  · rw [if_pos hl]
  · rw [if_neg hl]
    exact tkP_few (by simp; omega)
theorem drop_two {s : Str} {k : Nat} {a b : UInt8} (h1 : s[k]? = some a) (h2 : s[k + 1]? = some b) : ∃ r, s.drop k = a :: b :: r := by
  have hk := (List.getElem?_eq_some_iff.1 h1).1
  have hk2 := (List.getElem?_eq_some_iff.1 h2).1
  refine ⟨s.drop (k + 2), ?_⟩
  rw [List.drop_eq_getElem_cons hk, List.drop_eq_getElem_cons hk2]
  rw [List.getElem?_eq_getElem hk] at h1
  rw [List.getElem?_eq_getElem hk2] at h2
  rw [Option.some.inj h1, Option.some.inj h2]
theorem tkA_two {kind size : Nat} {s : Str} {a b : UInt8} (h1 : s[size]? = some a) (h2 : s[size + 1]? = some b) : tkA kind size s = if 256 * a.toNat + b.toNat = 0 then none_ 6 else ⟨kind, s.take size, 256 * a.toNat + b.toNat, 4 + size + 2, 0⟩ := by
  have hk := (List.getElem?_eq_some_iff.1 h1).1
  obtain ⟨r, hr⟩ := drop_two h1 h2
  unfold tkA
  rw [if_neg (by omega), hr, tkP_cons]
theorem tkN_two {k : UInt8} {s : Str} (hk : ¬ (k.toNat < 1 ∨ 40 < k.toNat)) (hb : begins (low (s.take k.toNat)) k.toNat = true) {a b : UInt8} (h1 : s[k.toNat]? = some a) (h2 : s[k.toNat + 1]? = some b) : tkN (k :: s) = if 256 * a.toNat + b.toNat = 0 then none_ 6 else ⟨3, low (s.take k.toNat), 256 * a.toNat + b.toNat, 5 + k.toNat + 2, 0⟩ := by
  have hl := (List.getElem?_eq_some_iff.1 h1).1
  obtain ⟨r, hr⟩ := drop_two h1 h2
  rw [tkN_cons, if_neg hk, hb, if_neg (by decide), if_neg (by omega), hr, tkP_cons]
theorem tkN_few {k : UInt8} {s : Str} (hk : ¬ (k.toNat < 1 ∨ 40 < k.toNat)) (hb : begins (low (s.take k.toNat)) k.toNat = true) (h : s.length < k.toNat + 2) : tkN (k :: s) = none_ 5 := by
  rw [tkN_cons, if_neg hk, hb, if_neg (by decide)]
  by_cases hl : s.length < k.toNat
  · rw [if_pos hl]
  · rw [if_neg hl]
    exact tkP_few (by simp; omega)
theorem tkN_bad {k : UInt8} {s : Str} (hk : ¬ (k.toNat < 1 ∨ 40 < k.toNat)) (hb : begins (low (s.take k.toNat)) k.toNat = false) : tkN (k :: s) = none_ 6 := by
  rw [tkN_cons, if_neg hk, if_pos hb]
theorem tkN_out {k : UInt8} {s : Str} (hk : k.toNat < 1 ∨ 40 < k.toNat) : tkN (k :: s) = none_ 6 := by
  rw [tkN_cons, if_pos hk]
/-- the text between -/
theorem mid_spell {w : World} {ok : Nat → Prop} {A : Option Addr} {n c : Nat} {b : Str} (hs : Spell w ok A n c b) {f t : Nat} (h : f + t ≤ n) : Spell w ok (cutA A c f) t (c - f) ((b.drop f).take t) := by
  have := Src.cut hs f t h
  rwa [ints_drop, ints_take] at this
set_option maxHeartbeats 8000000 in
set_option maxRecDepth 100000 in
theorem rtake_any {w : World} {A : Option Addr} {n c : Nat} {b : Str} (hs : Spell w (fun g => g < w.heap.size) A n c b) (hn : n ≤ 1000) : Calls Tryz.prog 9 #[.slice A n c] w (TakeTo (tk b) w) := by
  obtain ⟨X, hX⟩ : ∃ X, tk b = X := ⟨_, rfl⟩
  rw [hX]
  have hbl := spell_len hs
  have HX := Bx.mk hX
  have HBL := Bx.mk hbl
  have HS := Bx.mk (RS.start hs)
  clear hs hX hbl
  go_enter Tryz.func9, Tryz.ntmps9
  go_upto_region 3 with fail
  generalize (((w.alloc (.cells #[.int .u8 0, .string ⟨#[]⟩, .int .i64 0] 26)).alloc (.cells #[.int .u8 0, .string ⟨#[]⟩, .int .i64 0] 26)).alloc (.cells #[.int .u8 5, .int .u8 1, .int .u8 0] 5)) = W0 at *
  go_wp2_with fail
  go_loopw [7] (fun s7 wr => ∃ i : Nat, i ≤ 3 ∧ s7 = .int .i64 (i : Int) ∧ Bx (RS w wr A n c b) ∧ Bx (b.take i = [5, 1, 0].take i)) (fun s7 _ => 3 - (intOf s7).toNat)
  case atStart => exact ⟨0, by omega, rfl, HS, ⟨rfl⟩⟩
  case round =>
    clear HS
    obtain ⟨i, hi, rfl, HK, HI⟩ := hrel
    obtain ⟨r0, r1, r2, n0, n1, n2, rf⟩ := HK.out.cells
    by_cases hi3 : i < 3
    · have hi3' : (i : Int) < 3 := by omega
      by_cases hlen : n ≤ i
      · have hlen' : (n : Int) ≤ (i : Int) := by omega
        have HTK : Bx (X = none_ 5) := ⟨by rw [← HX.out]; exact pre_short hi3 HI.out (by rw [HBL.out]; exact hlen)⟩
        clear HX
        go_wp2_with fail
        obtain ⟨f0, f1, f2, fb⟩ := HK.out.fin (.int .u8 0) (.string ⟨#[]⟩) (.int .i64 0)
        exact bodyPost_ret (results_rtake f0 f1 f2 _ rfl rfl rfl) rfl (by rw [HTK.out]; exact ⟨rfl, fb⟩)
      · have hlen' : ¬ (n : Int) ≤ (i : Int) := by omega
        have hin : (i : Int) < (n : Int) := by omega
        obtain ⟨y, hy⟩ : ∃ y, b[i]? = some y := ⟨_, List.getElem?_eq_getElem (by rw [HBL.out]; omega)⟩
        obtain ⟨ga, oa, rfl, hga, hcy⟩ := spell_cell HK.out.sp hy
        have hcm := mst_cell HK.out.must hi3
        by_cases hym : y = mst i
        · subst hym
          have HN : Bx (b.take (i + 1) = [5, 1, 0].take (i + 1)) := ⟨pre_next hi3 HI.out hy⟩
          have HD : Bx (∀ k, RS w (wr.drewN k) (some ⟨ga, oa, none⟩) n c b) := ⟨fun k => HK.out.next (below_drewN (Below.refl _ wr) k)⟩
          clear hy HI HK r0 r1 r2 n0 n1 n2 rf
          generalize ((mst i).toNat : Int) = z at *
          go_wp2_with fail
          go_quiet (fail)
          go_wp2_with fail
          go_roundw
          case rel => exact ⟨i + 1, by omega, by go_num, ⟨HD.out _⟩, HN⟩
          case measure => simp [intOf]; omega
        · have q : ((y.toNat : Int) != ((mst i).toNat : Int)) = true := by
            rw [bne_iff_ne]
            intro e
            exact hym (UInt8.toNat_inj.1 (by omega))
          have hbad := pre_bad hi3 HI.out hy hym
          have HKd : Bx (∀ k, RS w (wr.drewN k) (some ⟨ga, oa, none⟩) n c b) := ⟨fun k => HK.out.next (below_drewN (Below.refl _ wr) k)⟩
          clear hy hym HI HK r0 r1 r2 n0 n1 n2 rf
          generalize ((mst i).toNat : Int) = z at *
          generalize (y.toNat : Int) = z' at *
          have r0 := fun k => (HKd.out k).cells.1
          have r1 := fun k => (HKd.out k).cells.2.1
          have r2 := fun k => (HKd.out k).cells.2.2.1
          have n0 := fun k => (HKd.out k).cells.2.2.2.1
          have n1 := fun k => (HKd.out k).cells.2.2.2.2.1
          have n2 := fun k => (HKd.out k).cells.2.2.2.2.2.1
          have rf := fun k => (HKd.out k).cells.2.2.2.2.2.2
          by_cases h1 : i = 1
          · subst h1
            have HTK : Bx (X = none_ 140) := ⟨by rw [← HX.out, hbad]; rfl⟩
            have HK := HKd
            clear HX hbad HKd
            go_wp2_with fail
            go_quiet (fail)
            go_wp2_with fail
            obtain ⟨f0, f1, f2, fb⟩ := (HK.out _).fin (.int .u8 0) (.string ⟨#[]⟩) (.int .i64 0)
            exact bodyPost_ret (results_rtake f0 f1 f2 _ rfl rfl rfl) rfl (by rw [HTK.out]; exact ⟨rfl, fb⟩)
          · have HTK : Bx (X = none_ 6) := ⟨by rw [← HX.out, hbad, if_neg h1]⟩
            have q1 : ((i : Int) == 1) = false := by simp; omega
            have HK := HKd
            clear HX hbad HKd h1
            go_wp2_with fail
            go_quiet (fail)
            go_wp2_with fail
            obtain ⟨f0, f1, f2, fb⟩ := (HK.out _).fin (.int .u8 0) (.string ⟨#[]⟩) (.int .i64 0)
            exact bodyPost_ret (results_rtake f0 f1 f2 _ rfl rfl rfl) rfl (by rw [HTK.out]; exact ⟨rfl, fb⟩)
    · obtain rfl : i = 3 := by omega
      obtain ⟨r, rfl⟩ := pre_end HI.out
      clear HI hi hi3
      match r with
      | [] =>
        have h3 : n = 3 := HBL.out.symm
        subst h3
        have HTK : Bx (X = none_ 5) := ⟨by rw [← HX.out]; rfl⟩
        clear HX
        go_wp2_with fail
        obtain ⟨f0, f1, f2, fb⟩ := HK.out.fin (.int .u8 0) (.string ⟨#[]⟩) (.int .i64 0)
        exact bodyPost_ret (results_rtake f0 f1 f2 _ rfl rfl rfl) rfl (by rw [HTK.out]; exact ⟨rfl, fb⟩)
      | ch :: s =>
        have hns : n = 4 + s.length := by have := HBL.out; simp at this; omega
        have HNS := Bx.mk hns
        have hn3 : ((n : Int) == 3) = false := by simp; omega
        have hn3b : (3 : Int) < (n : Int) := by omega
        clear hns
        obtain ⟨ga, oa, rfl, hga, hcy⟩ := spell_cell HK.out.sp (i := 3) (x := ch) rfl
        have hgl : ga < wr.heap.size := Nat.lt_of_lt_of_le hga HK.out.be.size
        by_cases h1 : ch = 1
        · subst h1
          have HX1 : Bx (tkA 1 4 s = X) := HX
          have h1 := HK.out
          have HB := Bx.mk h1.must.lt
          have HWk := Bx.mk (h1.next ((Below.refl _ wr).alloc (Nat.le_refl _) (.cells #[.int .u8 1, .string ⟨#[]⟩] 24)))
          have HLk := Bx.mk (Lies.new wr 24 #[.int .u8 1, .string ⟨#[]⟩])
          have hcy0 : ∀ o, (wr.alloc o).cell? ⟨ga, oa + 3, none⟩ = some (.int .u8 1) := fun o => (World.cell?_of_block (Below.heap_alloc _ _ _ hgl)).trans hcy
          clear h1 HK r0 r1 r2 n0 n1 n2 rf
          go_upto_region 32 with fail
          generalize wr.alloc (.cells #[.int .u8 1, .string ⟨#[]⟩] 24) = W1 at *
          clear hcy0 hcy hgl
          generalize wr.heap.size = gB at *
          obtain ⟨r0, r1, r2, n0, n1, n2, rf⟩ := HWk.out.cells
          have hl0 := HLk.out.cell 0
          have hl1 := HLk.out.cell 1
          have hlf := HLk.out.frozen 1
          simp at hl0 hl1
          have hcap := HWk.out.sp.cap
          by_cases hfew : s.length < 4 + 2
          · have HTK : Bx (X = none_ 5) := ⟨by rw [← HX1.out]; exact tkA_few hfew⟩
            have hfew' : (n : Int) < 10 := by have := HNS.out; omega
            by_cases hsh : n < 8
            · have hsh' : (n : Int) < 8 := by omega
              have hc4 : (n : Int) ≤ (c : Int) := by omega
              have z : ∀ V, (Instr.slice 22 (.slice (some ⟨ga, oa, none⟩) n c) (some (.int .i64 4)) (some (.int .i64 (n : Int))) none).run Tryz.prog V = .ok (.slice (cutA (some ⟨ga, oa, none⟩) c 4) (n - 4) (c - 4)) V := fun V => cutLH V (some ⟨ga, oa, none⟩) n c 4 n (by have := HNS.out; omega) (by omega)
              have zs := spell_str (mid_spell HWk.out.sp (f := 4) (t := n - 4) (by have := HNS.out; omega))
              have HK := Bx.mk (HWk.out.set HB.out 1 (.string (S (((5 :: 1 :: 0 :: 1 :: s : Str).drop 4).take (n - 4)))))
              have hq0 := (HLk.out.set 1 (.string (S (((5 :: 1 :: 0 :: 1 :: s : Str).drop 4).take (n - 4))))).cell 0
              simp at hq0
              generalize cutA (some ⟨ga, oa, none⟩) c 4 = L4 at *
              generalize S (((5 :: 1 :: 0 :: 1 :: s : Str).drop 4).take (n - 4)) = tx at *
              generalize n - 4 = n4 at *
              clear HX HX1 hcap HWk HLk hfew hsh r0 r1 r2 n0 n1 n2 rf
              obtain ⟨r0, r1, r2, n0, n1, n2, rf⟩ := HK.out.cells
              go_wp2_with fail
              obtain ⟨f0, f1, f2, fb⟩ := HK.out.fin (.int .u8 0) (.string ⟨#[]⟩) (.int .i64 0)
              exact bodyPost_ret (results_rtake f0 f1 f2 _ rfl rfl rfl) rfl (by rw [HTK.out]; exact ⟨rfl, fb⟩)
            · have hsh' : ¬ (n : Int) < 8 := by omega
              have hc4 : (8 : Int) ≤ (c : Int) := by omega
              have z : ∀ V, (Instr.slice 22 (.slice (some ⟨ga, oa, none⟩) n c) (some (.int .i64 4)) (some (.int .i64 8)) none).run Tryz.prog V = .ok (.slice (cutA (some ⟨ga, oa, none⟩) c 4) 4 (c - 4)) V := fun V => cutLH V (some ⟨ga, oa, none⟩) n c 4 8 (by omega) (by omega)
              have zs := spell_str (mid_spell HWk.out.sp (f := 4) (t := 4) (by omega))
              have HK := Bx.mk (HWk.out.set HB.out 1 (.string (S (((5 :: 1 :: 0 :: 1 :: s : Str).drop 4).take 4))))
              have hq0 := (HLk.out.set 1 (.string (S (((5 :: 1 :: 0 :: 1 :: s : Str).drop 4).take 4)))).cell 0
              simp at hq0
              generalize cutA (some ⟨ga, oa, none⟩) c 4 = L4 at *
              generalize S (((5 :: 1 :: 0 :: 1 :: s : Str).drop 4).take 4) = tx at *
              clear HX HX1 hcap HWk HLk hfew hsh r0 r1 r2 n0 n1 n2 rf
              obtain ⟨r0, r1, r2, n0, n1, n2, rf⟩ := HK.out.cells
              go_wp2_with fail
              obtain ⟨f0, f1, f2, fb⟩ := HK.out.fin (.int .u8 0) (.string ⟨#[]⟩) (.int .i64 0)
              exact bodyPost_ret (results_rtake f0 f1 f2 _ rfl rfl rfl) rfl (by rw [HTK.out]; exact ⟨rfl, fb⟩)
          · have hsl : 4 + 2 ≤ s.length := by omega
            have hfew' : ¬ (n : Int) < 10 := by have := HNS.out; omega
            have hsh' : ¬ (n : Int) < 8 := by omega
            have hlo1 : (8 : Int) < (n : Int) := by have := HNS.out; omega
            have hlo2 : (9 : Int) < (n : Int) := by have := HNS.out; omega
            have hc4 : (8 : Int) ≤ (c : Int) := by have := HNS.out; omega
            obtain ⟨a, ha⟩ : ∃ a, s[4]? = some a := ⟨_, List.getElem?_eq_getElem (by omega)⟩
            obtain ⟨b, hb⟩ : ∃ b, s[4 + 1]? = some b := ⟨_, List.getElem?_eq_getElem (by omega)⟩
            have hX2 := tkA_two (kind := 1) ha hb
            rw [HX1.out] at hX2
            have z : ∀ V, (Instr.slice 22 (.slice (some ⟨ga, oa, none⟩) n c) (some (.int .i64 4)) (some (.int .i64 8)) none).run Tryz.prog V = .ok (.slice (cutA (some ⟨ga, oa, none⟩) c 4) 4 (c - 4)) V := fun V => cutLH V (some ⟨ga, oa, none⟩) n c 4 8 (by omega) (by have := HNS.out; omega)
            have zs : (convert 22 9 (.slice (cutA (some ⟨ga, oa, none⟩) c 4) 4 (c - 4))).run Tryz.prog W1 = .ok (.string (S (s.take 4))) W1 := spell_str (mid_spell HWk.out.sp (f := 4) (t := 4) (by have := HNS.out; omega))
            have HK := Bx.mk (HWk.out.set HB.out 1 (.string (S (s.take 4))))
            have HLt := Bx.mk (HLk.out.set 1 (.string (S (s.take 4))))
            have hl8 := a.toNat_lt
            have hl9 := b.toNat_lt
            obtain ⟨g1, o1, e1, _, hca⟩ := spell_cell HK.out.sp (i := 8) (x := a) ha
            cases e1
            obtain ⟨g1, o1, e1, _, hcb⟩ := spell_cell HK.out.sp (i := 9) (x := b) hb
            cases e1
            clear HX HX1 hcap HWk HLk hfew hsl ha hb r0 r1 r2 n0 n1 n2 rf
            generalize cutA (some ⟨ga, oa, none⟩) c 4 = L4 at *
            generalize s.take 4 = tx at *
            go_upto_region 36 with fail
            generalize World.setCell W1 ⟨gB, 1, none⟩ (.string (S tx)) = W2 at *
            have hq0 := HLt.out.cell 0
            have hq1 := HLt.out.cell 1
            simp at hq0 hq1
            have HKd : Bx (∀ k, RS w (W2.drewN k) (some ⟨ga, oa, none⟩) n c (5 :: 1 :: 0 :: 1 :: s)) := ⟨fun k => HK.out.next (below_drewN (Below.refl _ W2) k)⟩
            have r0 := fun k => (HKd.out k).cells.1
            have r1 := fun k => (HKd.out k).cells.2.1
            have r2 := fun k => (HKd.out k).cells.2.2.1
            have n0 := fun k => (HKd.out k).cells.2.2.2.1
            have n1 := fun k => (HKd.out k).cells.2.2.2.2.1
            have n2 := fun k => (HKd.out k).cells.2.2.2.2.2.1
            have rf := fun k => (HKd.out k).cells.2.2.2.2.2.2
            have q0 : ∀ k, (W2.drewN k).cell? ⟨gB, 0, none⟩ = some (.int .u8 1) := fun k => hq0
            have q1 : ∀ k, (W2.drewN k).cell? ⟨gB, 1, none⟩ = some (.string (S tx)) := fun k => hq1
            clear W1 z zs hl0 hl1 hlf HK HLt
            by_cases hp : 256 * a.toNat + b.toNat = 0
            · rw [if_pos hp] at hX2
              have HTK : Bx (X = none_ 6) := ⟨hX2⟩
              have HK := HKd
              have ea : a.toNat = 0 := by omega
              have eb : b.toNat = 0 := by omega
              rw [ea] at hca
              rw [eb] at hcb
              have hca' : W2.cell? ⟨ga, oa + 8, none⟩ = some (.int .u8 0) := hca
              have hcb' : W2.cell? ⟨ga, oa + 9, none⟩ = some (.int .u8 0) := hcb
              clear hX2 hp ea eb hca hcb HKd hl8 hl9
              go_wp2_with fail
              go_quiet (fail)
              go_wp2_with fail
              obtain ⟨f0, f1, f2, fb⟩ := (HK.out _).fin (.int .u8 0) (.string ⟨#[]⟩) (.int .i64 0)
              exact bodyPost_ret (results_rtake f0 f1 f2 _ rfl rfl rfl) rfl (by rw [HTK.out]; exact ⟨rfl, fb⟩)
            · rw [if_neg hp] at hX2
              have HTK := Bx.mk hX2
              have q9 : (256 * (a.toNat : Int) + (b.toNat : Int) == 0) = false := by simp; omega
              clear hX2 hp
              generalize a.toNat = a at *
              generalize b.toNat = b at *
              go_wp2_with fail
              go_quiet (fail)
              go_wp2_with fail
              obtain ⟨f0, f1, f2, fb⟩ := (HKd.out _).fin (.int .u8 1) (.string (S tx)) (.int .i64 ((256 * a + b : Nat) : Int))
              exact bodyPost_ret (results_rtake f0 f1 f2 _ rfl rfl rfl) rfl (by rw [HTK.out]; exact ⟨rfl, fb⟩)
        · by_cases h4 : ch = 4
          · subst h4
            have HX1 : Bx (tkA 2 16 s = X) := HX
            have h1 := HK.out
            have HB := Bx.mk h1.must.lt
            have HWk := Bx.mk (h1.next ((Below.refl _ wr).alloc (Nat.le_refl _) (.cells #[.int .u8 2, .string ⟨#[]⟩] 24)))
            have HLk := Bx.mk (Lies.new wr 24 #[.int .u8 2, .string ⟨#[]⟩])
            have hcy0 : ∀ o, (wr.alloc o).cell? ⟨ga, oa + 3, none⟩ = some (.int .u8 4) := fun o => (World.cell?_of_block (Below.heap_alloc _ _ _ hgl)).trans hcy
            clear h1 HK r0 r1 r2 n0 n1 n2 rf
            go_upto_region 32 with fail
            generalize wr.alloc (.cells #[.int .u8 2, .string ⟨#[]⟩] 24) = W1 at *
            clear hcy0 hcy hgl
            generalize wr.heap.size = gB at *
            obtain ⟨r0, r1, r2, n0, n1, n2, rf⟩ := HWk.out.cells
            have hl0 := HLk.out.cell 0
            have hl1 := HLk.out.cell 1
            have hlf := HLk.out.frozen 1
            simp at hl0 hl1
            have hcap := HWk.out.sp.cap
            by_cases hfew : s.length < 16 + 2
            · have HTK : Bx (X = none_ 5) := ⟨by rw [← HX1.out]; exact tkA_few hfew⟩
              have hfew' : (n : Int) < 22 := by have := HNS.out; omega
              by_cases hsh : n < 20
              · have hsh' : (n : Int) < 20 := by omega
                have hc4 : (n : Int) ≤ (c : Int) := by omega
                have z : ∀ V, (Instr.slice 22 (.slice (some ⟨ga, oa, none⟩) n c) (some (.int .i64 4)) (some (.int .i64 (n : Int))) none).run Tryz.prog V = .ok (.slice (cutA (some ⟨ga, oa, none⟩) c 4) (n - 4) (c - 4)) V := fun V => cutLH V (some ⟨ga, oa, none⟩) n c 4 n (by have := HNS.out; omega) (by omega)
                have zs := spell_str (mid_spell HWk.out.sp (f := 4) (t := n - 4) (by have := HNS.out; omega))
                have HK := Bx.mk (HWk.out.set HB.out 1 (.string (S (((5 :: 1 :: 0 :: 4 :: s : Str).drop 4).take (n - 4)))))
                have hq0 := (HLk.out.set 1 (.string (S (((5 :: 1 :: 0 :: 4 :: s : Str).drop 4).take (n - 4))))).cell 0
                simp at hq0
                generalize cutA (some ⟨ga, oa, none⟩) c 4 = L4 at *
                generalize S (((5 :: 1 :: 0 :: 4 :: s : Str).drop 4).take (n - 4)) = tx at *
                generalize n - 4 = n4 at *
                clear HX HX1 hcap HWk HLk hfew hsh r0 r1 r2 n0 n1 n2 rf
                obtain ⟨r0, r1, r2, n0, n1, n2, rf⟩ := HK.out.cells
                go_wp2_with fail
                obtain ⟨f0, f1, f2, fb⟩ := HK.out.fin (.int .u8 0) (.string ⟨#[]⟩) (.int .i64 0)
                exact bodyPost_ret (results_rtake f0 f1 f2 _ rfl rfl rfl) rfl (by rw [HTK.out]; exact ⟨rfl, fb⟩)
              · have hsh' : ¬ (n : Int) < 20 := by omega
                have hc4 : (20 : Int) ≤ (c : Int) := by omega
                have z : ∀ V, (Instr.slice 22 (.slice (some ⟨ga, oa, none⟩) n c) (some (.int .i64 4)) (some (.int .i64 20)) none).run Tryz.prog V = .ok (.slice (cutA (some ⟨ga, oa, none⟩) c 4) 16 (c - 4)) V := fun V => cutLH V (some ⟨ga, oa, none⟩) n c 4 20 (by omega) (by omega)
                have zs := spell_str (mid_spell HWk.out.sp (f := 4) (t := 16) (by omega))
                have HK := Bx.mk (HWk.out.set HB.out 1 (.string (S (((5 :: 1 :: 0 :: 4 :: s : Str).drop 4).take 16))))
                have hq0 := (HLk.out.set 1 (.string (S (((5 :: 1 :: 0 :: 4 :: s : Str).drop 4).take 16)))).cell 0
                simp at hq0
                generalize cutA (some ⟨ga, oa, none⟩) c 4 = L4 at *
                generalize S (((5 :: 1 :: 0 :: 4 :: s : Str).drop 4).take 16) = tx at *
                clear HX HX1 hcap HWk HLk hfew hsh r0 r1 r2 n0 n1 n2 rf
                obtain ⟨r0, r1, r2, n0, n1, n2, rf⟩ := HK.out.cells
                go_wp2_with fail
                obtain ⟨f0, f1, f2, fb⟩ := HK.out.fin (.int .u8 0) (.string ⟨#[]⟩) (.int .i64 0)
                exact bodyPost_ret (results_rtake f0 f1 f2 _ rfl rfl rfl) rfl (by rw [HTK.out]; exact ⟨rfl, fb⟩)
            · have hsl : 16 + 2 ≤ s.length := by omega
              have hfew' : ¬ (n : Int) < 22 := by have := HNS.out; omega
              have hsh' : ¬ (n : Int) < 20 := by omega
              have hlo1 : (20 : Int) < (n : Int) := by have := HNS.out; omega
              have hlo2 : (21 : Int) < (n : Int) := by have := HNS.out; omega
              have hc4 : (20 : Int) ≤ (c : Int) := by have := HNS.out; omega
              obtain ⟨a, ha⟩ : ∃ a, s[16]? = some a := ⟨_, List.getElem?_eq_getElem (by omega)⟩
              obtain ⟨b, hb⟩ : ∃ b, s[16 + 1]? = some b := ⟨_, List.getElem?_eq_getElem (by omega)⟩
              have hX2 := tkA_two (kind := 2) ha hb
              rw [HX1.out] at hX2
              have z : ∀ V, (Instr.slice 22 (.slice (some ⟨ga, oa, none⟩) n c) (some (.int .i64 4)) (some (.int .i64 20)) none).run Tryz.prog V = .ok (.slice (cutA (some ⟨ga, oa, none⟩) c 4) 16 (c - 4)) V := fun V => cutLH V (some ⟨ga, oa, none⟩) n c 4 20 (by omega) (by have := HNS.out; omega)
              have zs : (convert 22 9 (.slice (cutA (some ⟨ga, oa, none⟩) c 4) 16 (c - 4))).run Tryz.prog W1 = .ok (.string (S (s.take 16))) W1 := spell_str (mid_spell HWk.out.sp (f := 4) (t := 16) (by have := HNS.out; omega))
              have HK := Bx.mk (HWk.out.set HB.out 1 (.string (S (s.take 16))))
              have HLt := Bx.mk (HLk.out.set 1 (.string (S (s.take 16))))
              have hl8 := a.toNat_lt
              have hl9 := b.toNat_lt
              obtain ⟨g1, o1, e1, _, hca⟩ := spell_cell HK.out.sp (i := 20) (x := a) ha
              cases e1
              obtain ⟨g1, o1, e1, _, hcb⟩ := spell_cell HK.out.sp (i := 21) (x := b) hb
              cases e1
              clear HX HX1 hcap HWk HLk hfew hsl ha hb r0 r1 r2 n0 n1 n2 rf
              generalize cutA (some ⟨ga, oa, none⟩) c 4 = L4 at *
              generalize s.take 16 = tx at *
              go_upto_region 36 with fail
              generalize World.setCell W1 ⟨gB, 1, none⟩ (.string (S tx)) = W2 at *
              have hq0 := HLt.out.cell 0
              have hq1 := HLt.out.cell 1
              simp at hq0 hq1
              have HKd : Bx (∀ k, RS w (W2.drewN k) (some ⟨ga, oa, none⟩) n c (5 :: 1 :: 0 :: 4 :: s)) := ⟨fun k => HK.out.next (below_drewN (Below.refl _ W2) k)⟩
              have r0 := fun k => (HKd.out k).cells.1
              have r1 := fun k => (HKd.out k).cells.2.1
              have r2 := fun k => (HKd.out k).cells.2.2.1
              have n0 := fun k => (HKd.out k).cells.2.2.2.1
              have n1 := fun k => (HKd.out k).cells.2.2.2.2.1
              have n2 := fun k => (HKd.out k).cells.2.2.2.2.2.1
              have rf := fun k => (HKd.out k).cells.2.2.2.2.2.2
              have q0 : ∀ k, (W2.drewN k).cell? ⟨gB, 0, none⟩ = some (.int .u8 2) := fun k => hq0
              have q1 : ∀ k, (W2.drewN k).cell? ⟨gB, 1, none⟩ = some (.string (S tx)) := fun k => hq1
              clear W1 z zs hl0 hl1 hlf HK HLt
              by_cases hp : 256 * a.toNat + b.toNat = 0
              · rw [if_pos hp] at hX2
                have HTK : Bx (X = none_ 6) := ⟨hX2⟩
                have HK := HKd
                have ea : a.toNat = 0 := by omega
                have eb : b.toNat = 0 := by omega
                rw [ea] at hca
                rw [eb] at hcb
                have hca' : W2.cell? ⟨ga, oa + 20, none⟩ = some (.int .u8 0) := hca
                have hcb' : W2.cell? ⟨ga, oa + 21, none⟩ = some (.int .u8 0) := hcb
                clear hX2 hp ea eb hca hcb HKd hl8 hl9
                go_wp2_with fail
                go_quiet (fail)
                go_wp2_with fail
                obtain ⟨f0, f1, f2, fb⟩ := (HK.out _).fin (.int .u8 0) (.string ⟨#[]⟩) (.int .i64 0)
                exact bodyPost_ret (results_rtake f0 f1 f2 _ rfl rfl rfl) rfl (by rw [HTK.out]; exact ⟨rfl, fb⟩)
              · rw [if_neg hp] at hX2
                have HTK := Bx.mk hX2
                have q9 : (256 * (a.toNat : Int) + (b.toNat : Int) == 0) = false := by simp; omega
                clear hX2 hp
                generalize a.toNat = a at *
                generalize b.toNat = b at *
                go_wp2_with fail
                go_quiet (fail)
                go_wp2_with fail
                obtain ⟨f0, f1, f2, fb⟩ := (HKd.out _).fin (.int .u8 2) (.string (S tx)) (.int .i64 ((256 * a + b : Nat) : Int))
                exact bodyPost_ret (results_rtake f0 f1 f2 _ rfl rfl rfl) rfl (by rw [HTK.out]; exact ⟨rfl, fb⟩)
          · by_cases h3 : ch = 3
            · subst h3
              match s with
              | [] =>
                have h4 : n = 4 := by have := HBL.out; simp at this; omega
                subst h4
                have HTK : Bx (X = none_ 5) := ⟨by rw [← HX.out]; rfl⟩
                have h1 := HK.out
                have HB := Bx.mk h1.must.lt
                have HWk := Bx.mk (h1.next ((Below.refl _ wr).alloc (Nat.le_refl _) (.cells #[.int .u8 3, .string ⟨#[]⟩] 24)))
                have hcy0 : ∀ o, (wr.alloc o).cell? ⟨ga, oa + 3, none⟩ = some (.int .u8 3) := fun o => (World.cell?_of_block (Below.heap_alloc _ _ _ hgl)).trans hcy
                clear h1 HK r0 r1 r2 n0 n1 n2 rf
                go_upto_region 26 with fail
                generalize wr.alloc (.cells #[.int .u8 3, .string ⟨#[]⟩] 24) = W1 at *
                clear hcy0 hcy hgl
                generalize wr.heap.size = gB at *
                have HK := HWk
                obtain ⟨r0, r1, r2, n0, n1, n2, rf⟩ := HK.out.cells
                go_wp2_with fail
                obtain ⟨f0, f1, f2, fb⟩ := HK.out.fin (.int .u8 0) (.string ⟨#[]⟩) (.int .i64 0)
                exact bodyPost_ret (results_rtake f0 f1 f2 _ rfl rfl rfl) rfl (by rw [HTK.out]; exact ⟨rfl, fb⟩)
              | k :: s =>
                have HNS : Bx (n = 5 + s.length) := ⟨by have := HNS.out; simp at this; omega⟩
                have HX1 : Bx (tkN (k :: s) = X) := HX
                have hn4 : ((n : Int) == 4) = false := by have := HNS.out; simp; omega
                have hn4b : (4 : Int) < (n : Int) := by have := HNS.out; omega
                obtain ⟨g1, o1, e1, _, hck⟩ := spell_cell HK.out.sp (i := 4) (x := k) rfl
                cases e1
                have h1 := HK.out
                have HB := Bx.mk h1.must.lt
                have HWk := Bx.mk (h1.next ((Below.refl _ wr).alloc (Nat.le_refl _) (.cells #[.int .u8 3, .string ⟨#[]⟩] 24)))
                have HLk := Bx.mk (Lies.new wr 24 #[.int .u8 3, .string ⟨#[]⟩])
                have hcy0 : ∀ o, (wr.alloc o).cell? ⟨ga, oa + 3, none⟩ = some (.int .u8 3) := fun o => (World.cell?_of_block (Below.heap_alloc _ _ _ hgl)).trans hcy
                have hck0 : ∀ o, (wr.alloc o).cell? ⟨ga, oa + 4, none⟩ = some (.int .u8 (k.toNat : Int)) := fun o => (World.cell?_of_block (Below.heap_alloc _ _ _ hgl)).trans hck
                have hk8 := k.toNat_lt
                obtain ⟨M, hMk⟩ : ∃ M, k.toNat = M := ⟨_, rfl⟩
                rw [hMk] at hck0 hk8
                clear h1 HK r0 r1 r2 n0 n1 n2 rf hck
                by_cases hk1 : k.toNat < 1 ∨ 40 < k.toNat
                · have HTK : Bx (X = none_ 6) := ⟨by rw [← HX1.out]; exact tkN_out hk1⟩
                  rw [hMk] at hk1
                  clear hMk HX HX1
                  rcases (show M < 1 ∨ (¬ M < 1 ∧ 40 < M) by omega) with hM1 | ⟨hM1, hM2⟩
                  · have hM1' : (M : Int) < 1 := by omega
                    clear hk1
                    have HK := HWk
                    obtain ⟨r0, r1, r2, n0, n1, n2, rf⟩ := HK.out.cells
                    clear HWk HLk
                    go_wp2_with fail
                    obtain ⟨f0, f1, f2, fb⟩ := HK.out.fin (.int .u8 0) (.string ⟨#[]⟩) (.int .i64 0)
                    exact bodyPost_ret (results_rtake f0 f1 f2 _ rfl rfl rfl) rfl (by rw [HTK.out]; exact ⟨rfl, fb⟩)
                  · have hM1' : ¬ (M : Int) < 1 := by omega
                    have hM2' : (40 : Int) < (M : Int) := by omega
                    clear hk1 hM1
                    have HK := HWk
                    obtain ⟨r0, r1, r2, n0, n1, n2, rf⟩ := HK.out.cells
                    clear HWk HLk
                    go_wp2_with fail
                    obtain ⟨f0, f1, f2, fb⟩ := HK.out.fin (.int .u8 0) (.string ⟨#[]⟩) (.int .i64 0)
                    exact bodyPost_ret (results_rtake f0 f1 f2 _ rfl rfl rfl) rfl (by rw [HTK.out]; exact ⟨rfl, fb⟩)
                · have hM1 : ¬ (M : Int) < 1 := by omega
                  have hM2 : ¬ (40 : Int) < (M : Int) := by omega
                  have hM40 : M ≤ 40 := by omega
                  obtain ⟨E, hE0⟩ : ∃ E, E = 5 + M := ⟨_, rfl⟩
                  have hE : (5 : Int) + (M : Int) = (E : Int) := by omega
                  have hE45 : E ≤ 45 := by omega
                  have HE0 := Bx.mk hE0
                  have HMK := Bx.mk hMk
                  have HK1 := Bx.mk hk1
                  clear hE0 hMk hk1
                  go_upto_region 32 with fail
                  generalize wr.alloc (.cells #[.int .u8 3, .string ⟨#[]⟩] 24) = W1 at *
                  clear hcy0 hcy hgl hck0
                  generalize wr.heap.size = gB at *
                  obtain ⟨r0, r1, r2, n0, n1, n2, rf⟩ := HWk.out.cells
                  have hl0 := HLk.out.cell 0
                  have hl1 := HLk.out.cell 1
                  have hlf := HLk.out.frozen 1
                  simp at hl0 hl1
                  have hcap := HWk.out.sp.cap
                  by_cases hsh : n < E
                  · have hsh' : (n : Int) < (E : Int) := by omega
                    have hc4 : (n : Int) ≤ (c : Int) := by omega
                    have z : ∀ V, (Instr.slice 22 (.slice (some ⟨ga, oa, none⟩) n c) (some (.int .i64 5)) (some (.int .i64 (n : Int))) none).run Tryz.prog V = .ok (.slice (cutA (some ⟨ga, oa, none⟩) c 5) (n - 5) (c - 5)) V := fun V => cutLH V (some ⟨ga, oa, none⟩) n c 5 n (by have := HNS.out; omega) (by omega)
                    have zs : (convert 22 9 (.slice (cutA (some ⟨ga, oa, none⟩) c 5) (n - 5) (c - 5))).run Tryz.prog W1 = .ok (.string (S (s.take M))) W1 := by
                      have h := spell_str (mid_spell HWk.out.sp (f := 5) (t := n - 5) (by have := HNS.out; omega))
                      have e : ((5 :: 1 :: 0 :: 3 :: k :: s : Str).drop 5).take (n - 5) = s.take M := by
                        show s.take (n - 5) = s.take M
                        rw [List.take_of_length_le (by have := HNS.out; omega), List.take_of_length_le (by have := HNS.out; have := HE0.out; omega)]
                      rw [e] at h
                      exact h
                    have HK := Bx.mk (HWk.out.set HB.out 1 (.string (S (s.take M))))
                    have HLt := Bx.mk (HLk.out.set 1 (.string (S (s.take M))))
                    clear HX hcap HWk HLk r0 r1 r2 n0 n1 n2 rf
                    generalize cutA (some ⟨ga, oa, none⟩) c 5 = L4 at *
                    go_upto_region 36 with fail
                    generalize World.setCell W1 ⟨gB, 1, none⟩ (.string (S (s.take M))) = W2 at *
                    have hq0 := HLt.out.cell 0
                    have hq1 := HLt.out.cell 1
                    simp at hq0 hq1
                    have HLo := Bx.mk (rlower_any (s.take M) (by simp; omega) W2)
                    clear z zs hl0 hl1 hlf
                    clear W1
                    go_wp2_with fail
                    refine HLo.out.mono ?_
                    rintro e W3 ⟨rfl, hb3⟩
                    have hk3 := HK.out.next hb3
                    have hl3 := HLt.out.below hb3 HLt.out.lt
                    have hm1 := hl3.cell 1
                    have hm1f := hl3.frozen 1
                    simp at hm1
                    have HK4 := Bx.mk (hk3.set HB.out 1 (.string (S (low (s.take M)))))
                    have HL4 := Bx.mk (hl3.set 1 (.string (S (low (s.take M)))))
                    clear hb3 hk3 hl3 hq0 hq1 HLo HK HLt
                    go_upto_region 38 with fail
                    generalize World.setCell W3 ⟨gB, 1, none⟩ (.string (S (low (s.take M)))) = W4 at *
                    have hq0 := HL4.out.cell 0
                    have hq1 := HL4.out.cell 1
                    simp at hq0 hq1
                    clear hm1 hm1f W3
                    have HBg := Bx.mk (rbegins_any (low (s.take M)) M (by rw [low_len]; simp; omega) W4)
                    obtain ⟨r0, r1, r2, n0, n1, n2, rf⟩ := HK4.out.cells
                    cases hbg : begins (low (s.take M)) M with
                    | false =>
                      rw [hbg] at HBg
                      have HTK : Bx (X = none_ 6) := ⟨by rw [← HX1.out]; exact tkN_bad HK1.out (by rw [HMK.out]; exact hbg)⟩
                      have HK := HK4
                      clear hbg HX1
                      go_wp2_with fail
                      refine HBg.out.mono ?_
                      rintro e W5 ⟨rfl, rfl⟩
                      go_wp2_with fail
                      obtain ⟨f0, f1, f2, fb⟩ := HK.out.fin (.int .u8 0) (.string ⟨#[]⟩) (.int .i64 0)
                      exact bodyPost_ret (results_rtake f0 f1 f2 _ rfl rfl rfl) rfl (by rw [HTK.out]; exact ⟨rfl, fb⟩)
                    | true =>
                      rw [hbg] at HBg
                      have HTK : Bx (X = none_ 5) := ⟨by rw [← HX1.out]; exact tkN_few HK1.out (by rw [HMK.out]; exact hbg) (by rw [HMK.out]; have := HNS.out; have := HE0.out; omega)⟩
                      have HK := HK4
                      have hfew' : (n : Int) < (E : Int) + 2 := by omega
                      clear hbg HX1
                      go_wp2_with fail
                      refine HBg.out.mono ?_
                      rintro e W5 ⟨rfl, rfl⟩
                      go_wp2_with fail
                      obtain ⟨f0, f1, f2, fb⟩ := HK.out.fin (.int .u8 0) (.string ⟨#[]⟩) (.int .i64 0)
                      exact bodyPost_ret (results_rtake f0 f1 f2 _ rfl rfl rfl) rfl (by rw [HTK.out]; exact ⟨rfl, fb⟩)
                  · have hsh' : ¬ (n : Int) < (E : Int) := by omega
                    have hc4 : (E : Int) ≤ (c : Int) := by omega
                    have z : ∀ V, (Instr.slice 22 (.slice (some ⟨ga, oa, none⟩) n c) (some (.int .i64 5)) (some (.int .i64 (E : Int))) none).run Tryz.prog V = .ok (.slice (cutA (some ⟨ga, oa, none⟩) c 5) M (c - 5)) V := fun V => by
                      have h := cutLH V (some ⟨ga, oa, none⟩) n c 5 E (by have := HE0.out; omega) (by omega)
                      rw [show E - 5 = M by have := HE0.out; omega] at h
                      exact h
                    have zs : (convert 22 9 (.slice (cutA (some ⟨ga, oa, none⟩) c 5) M (c - 5))).run Tryz.prog W1 = .ok (.string (S (s.take M))) W1 := spell_str (mid_spell HWk.out.sp (f := 5) (t := M) (by have := HE0.out; omega))
                    have HK := Bx.mk (HWk.out.set HB.out 1 (.string (S (s.take M))))
                    have HLt := Bx.mk (HLk.out.set 1 (.string (S (s.take M))))
                    clear HX hcap HWk HLk r0 r1 r2 n0 n1 n2 rf
                    generalize cutA (some ⟨ga, oa, none⟩) c 5 = L4 at *
                    go_upto_region 36 with fail
                    generalize World.setCell W1 ⟨gB, 1, none⟩ (.string (S (s.take M))) = W2 at *
                    have hq0 := HLt.out.cell 0
                    have hq1 := HLt.out.cell 1
                    simp at hq0 hq1
                    have HLo := Bx.mk (rlower_any (s.take M) (by simp; omega) W2)
                    clear z zs hl0 hl1 hlf
                    clear W1
                    go_wp2_with fail
                    refine HLo.out.mono ?_
                    rintro e W3 ⟨rfl, hb3⟩
                    have hk3 := HK.out.next hb3
                    have hl3 := HLt.out.below hb3 HLt.out.lt
                    have hm1 := hl3.cell 1
                    have hm1f := hl3.frozen 1
                    simp at hm1
                    have HK4 := Bx.mk (hk3.set HB.out 1 (.string (S (low (s.take M)))))
                    have HL4 := Bx.mk (hl3.set 1 (.string (S (low (s.take M)))))
                    clear hb3 hk3 hl3 hq0 hq1 HLo HK HLt
                    go_upto_region 38 with fail
                    generalize World.setCell W3 ⟨gB, 1, none⟩ (.string (S (low (s.take M)))) = W4 at *
                    have hq0 := HL4.out.cell 0
                    have hq1 := HL4.out.cell 1
                    simp at hq0 hq1
                    clear hm1 hm1f W3
                    have HBg := Bx.mk (rbegins_any (low (s.take M)) M (by rw [low_len]; simp; omega) W4)
                    obtain ⟨r0, r1, r2, n0, n1, n2, rf⟩ := HK4.out.cells
                    cases hbg : begins (low (s.take M)) M with
                    | false =>
                      rw [hbg] at HBg
                      have HTK : Bx (X = none_ 6) := ⟨by rw [← HX1.out]; exact tkN_bad HK1.out (by rw [HMK.out]; exact hbg)⟩
                      have HK := HK4
                      clear hbg HX1
                      go_wp2_with fail
                      refine HBg.out.mono ?_
                      rintro e W5 ⟨rfl, rfl⟩
                      go_wp2_with fail
                      obtain ⟨f0, f1, f2, fb⟩ := HK.out.fin (.int .u8 0) (.string ⟨#[]⟩) (.int .i64 0)
                      exact bodyPost_ret (results_rtake f0 f1 f2 _ rfl rfl rfl) rfl (by rw [HTK.out]; exact ⟨rfl, fb⟩)
                    | true =>
                      rw [hbg] at HBg
                      by_cases hfew : n < E + 2
                      · have HTK : Bx (X = none_ 5) := ⟨by rw [← HX1.out]; exact tkN_few HK1.out (by rw [HMK.out]; exact hbg) (by rw [HMK.out]; have := HNS.out; have := HE0.out; omega)⟩
                        have HK := HK4
                        have hfew' : (n : Int) < (E : Int) + 2 := by omega
                        clear hbg HX1
                        go_wp2_with fail
                        refine HBg.out.mono ?_
                        rintro e W5 ⟨rfl, rfl⟩
                        go_wp2_with fail
                        obtain ⟨f0, f1, f2, fb⟩ := HK.out.fin (.int .u8 0) (.string ⟨#[]⟩) (.int .i64 0)
                        exact bodyPost_ret (results_rtake f0 f1 f2 _ rfl rfl rfl) rfl (by rw [HTK.out]; exact ⟨rfl, fb⟩)
                      · have hfew' : ¬ (n : Int) < (E : Int) + 2 := by omega
                        have hlo1 : (E : Int) < (n : Int) := by omega
                        have hlo2 : (E : Int) + 1 < (n : Int) := by omega
                        obtain ⟨a, ha⟩ : ∃ a, s[M]? = some a := ⟨_, List.getElem?_eq_getElem (by have := HNS.out; have := HE0.out; omega)⟩
                        obtain ⟨b, hb⟩ : ∃ b, s[M + 1]? = some b := ⟨_, List.getElem?_eq_getElem (by have := HNS.out; have := HE0.out; omega)⟩
                        have hX2 := tkN_two HK1.out (by rw [HMK.out]; exact hbg) (by rw [HMK.out]; exact ha) (by rw [HMK.out]; exact hb)
                        rw [HX1.out, HMK.out] at hX2
                        have hE2 : 5 + M + 2 = E + 2 := by have := HE0.out; omega
                        rw [hE2] at hX2
                        have hl8 := a.toNat_lt
                        have hl9 := b.toNat_lt
                        have haE : (5 :: 1 :: 0 :: 3 :: k :: s : Str)[E]? = some a := by rw [show E = M + 5 by have := HE0.out; omega]; exact ha
                        have hbE : (5 :: 1 :: 0 :: 3 :: k :: s : Str)[E + 1]? = some b := by rw [show E + 1 = M + 1 + 5 by have := HE0.out; omega]; exact hb
                        obtain ⟨g1, o1, e1, _, hca⟩ := spell_cell HK4.out.sp haE
                        cases e1
                        obtain ⟨g1, o1, e1, _, hcb⟩ := spell_cell HK4.out.sp hbE
                        cases e1
                        have HKd : Bx (∀ j, RS w (W4.drewN j) (some ⟨ga, oa, none⟩) n c (5 :: 1 :: 0 :: 3 :: k :: s)) := ⟨fun j => HK4.out.next (below_drewN (Below.refl _ W4) j)⟩
                        have q0 : ∀ j, (W4.drewN j).cell? ⟨gB, 0, none⟩ = some (.int .u8 3) := fun j => hq0
                        have q1 : ∀ j, (W4.drewN j).cell? ⟨gB, 1, none⟩ = some (.string (S (low (s.take M)))) := fun j => hq1
                        clear hbg HX1 ha hb haE hbE hE2 r0 r1 r2 n0 n1 n2 rf hfew
                        generalize low (s.take M) = tx at *
                        have r0 := fun j => (HKd.out j).cells.1
                        have r1 := fun j => (HKd.out j).cells.2.1
                        have r2 := fun j => (HKd.out j).cells.2.2.1
                        have n0 := fun j => (HKd.out j).cells.2.2.2.1
                        have n1 := fun j => (HKd.out j).cells.2.2.2.2.1
                        have n2 := fun j => (HKd.out j).cells.2.2.2.2.2.1
                        have rf := fun j => (HKd.out j).cells.2.2.2.2.2.2
                        by_cases hp : 256 * a.toNat + b.toNat = 0
                        · rw [if_pos hp] at hX2
                          have HTK : Bx (X = none_ 6) := ⟨hX2⟩
                          have HK := HKd
                          have ea : a.toNat = 0 := by omega
                          have eb : b.toNat = 0 := by omega
                          rw [ea] at hca
                          rw [eb] at hcb
                          have hca' : W4.cell? ⟨ga, oa + E, none⟩ = some (.int .u8 0) := hca
                          have hcb' : W4.cell? ⟨ga, oa + (E + 1), none⟩ = some (.int .u8 0) := hcb
                          clear hX2 hp ea eb hca hcb HKd hl8 hl9 HK4 HL4
                          go_wp2_with fail
                          refine HBg.out.mono ?_
                          rintro e W5 ⟨rfl, rfl⟩
                          go_wp2_with fail
                          go_quiet (fail)
                          go_wp2_with fail
                          obtain ⟨f0, f1, f2, fb⟩ := (HK.out _).fin (.int .u8 0) (.string ⟨#[]⟩) (.int .i64 0)
                          exact bodyPost_ret (results_rtake f0 f1 f2 _ rfl rfl rfl) rfl (by rw [HTK.out]; exact ⟨rfl, fb⟩)
                        · rw [if_neg hp] at hX2
                          have HTK := Bx.mk hX2
                          have q9 : (256 * (a.toNat : Int) + (b.toNat : Int) == 0) = false := by simp; omega
                          clear hX2 hp HK4 HL4
                          generalize a.toNat = a at *
                          generalize b.toNat = b at *
                          go_wp2_with fail
                          refine HBg.out.mono ?_
                          rintro e W5 ⟨rfl, rfl⟩
                          go_wp2_with fail
                          go_quiet (fail)
                          go_wp2_with fail
                          obtain ⟨f0, f1, f2, fb⟩ := (HKd.out _).fin (.int .u8 3) (.string (S tx)) (.int .i64 ((256 * a + b : Nat) : Int))
                          exact bodyPost_ret (results_rtake f0 f1 f2 _ rfl rfl rfl) rfl (by rw [HTK.out]; exact ⟨rfl, fb⟩)
            · have HTK : Bx (X = none_ 141) := ⟨by rw [← HX.out, tk_cons, if_pos rfl, tk1_cons, if_pos rfl, tk2_cons, if_pos rfl, tk3_cons, if_neg h1, if_neg h4, if_neg h3]⟩
              have u1 : ((ch.toNat : Int) == 1) = false := u8_neI h1
              have u4 : ((ch.toNat : Int) == 4) = false := u8_neI h4
              have u3 : ((ch.toNat : Int) == 3) = false := u8_neI h3
              have HK0 := HK
              have hcy0 : ∀ o, (wr.alloc o).cell? ⟨ga, oa + 3, none⟩ = some (.int .u8 (ch.toNat : Int)) := fun o => (World.cell?_of_block (Below.heap_alloc _ _ _ hgl)).trans hcy
              have HK := Bx.mk (HK0.out.next ((Below.refl _ wr).alloc (Nat.le_refl _) (.cells #[.int .u8 0, .string ⟨#[]⟩] 24)))
              clear r0 r1 r2 n0 n1 n2 rf HX h1 h4 h3 HK0 hcy
              obtain ⟨r0, r1, r2, n0, n1, n2, rf⟩ := HK.out.cells
              generalize (ch.toNat : Int) = zc at *
              go_wp2_with fail
              obtain ⟨f0, f1, f2, fb⟩ := HK.out.fin (.int .u8 0) (.string ⟨#[]⟩) (.int .i64 0)
              exact bodyPost_ret (results_rtake f0 f1 f2 _ rfl rfl rfl) rfl (by rw [HTK.out]; exact ⟨rfl, fb⟩)
end Go.Proofs.YtefpplkoohnfbaaGreatDoor.ak
