/-
  Given for the seat's laws: the contract of the program's Decode. No condition but those of the theorems.
-/
import Derived.Test.YtiloeffnmkcaoaaSLet
import Derived.Laws.BitsAllLaws
import Derived.OwnWalk
namespace Go.Proofs.Ytiloeffnmkcaoaa.sx
open Go.RowKit mem
set_option linter.unusedVariables false

theorem lit_cell (w : World) (cs : Array Value) (t : TypeId) (fz : Nat × Nat) (j : Nat) : (w.alloc (.cells cs t fz)).cell? ⟨w.heap.size, j, none⟩ = cs[j]? := by
  have h : (w.alloc (.cells cs t fz)).heap[w.heap.size]? = some (.cells cs t fz) := heap_alloc_new w _
  unfold World.cell?
  rw [h]
  rfl
theorem src_lit (w : World) (xs : List Int) (fz : Nat × Nat) (hr : ∀ x ∈ xs, 0 ≤ x ∧ x < 256) (hl : xs.length ≤ 1000) : Src (w.alloc (.cells (B8 xs).toArray 5 fz)) (fun g => g = w.heap.size) (some ⟨w.heap.size, 0, none⟩) xs.length xs.length xs :=
  ⟨rfl, Nat.le_refl _, fun e => (by cases e), by unfold maxLen; omega, hr, fun _ => ⟨w.heap.size, 0, rfl, rfl, fun j z hz => by rw [Nat.zero_add, lit_cell]; simp [B8, hz]⟩⟩

/-- bytes of the call's own, and nothing that was there has turned -/
structure Made (w wr : World) (v : Value) (l : Str) : Prop where
  own : wr.ownsRow w.heap.size 5 1 v l.length (B8 (ints l))
  below : Below w.heap.size w wr
theorem Made.still {w wx wy : World} {v : Value} {l : Str} (h : Made w wx v l) (hs : Still wx wy) : Made w wy v l :=
  ⟨own_same h.own (fun g _ => by rw [hs.heap]), h.below.trans ((hs.below _).mono (Nat.le_refl _))⟩
theorem own_ge {w : World} {B : Nat} {v : Value} {k : Nat} {xs : List Value} (h : w.ownsRow B 5 1 v k xs) : ∀ g, v.ownBlock = some g → B ≤ g := fun g e => (own_lt h e).1
theorem Made.fresh {w wx wy : World} {v : Value} {l : Str} (h : Made w wx v l) (hb : Below wx.heap.size wx wy) : Made w wy v l :=
  ⟨own_same h.own (fun g hg => hb.block g (own_lt h.own hg).2), h.below.trans (hb.mono h.below.size)⟩
/-- one byte more -/
theorem Made.push {w w1 : World} {v : Value} {l : Str} (h : Made w w1 v l) (hl : l.length ≤ 100000) (x : UInt8) :
    ∃ A c w2, (Builtin.append_ #[22, 22] 22 #[v, .slice (some ⟨w1.heap.size, 0, none⟩) 1 1]).run Try.prog (w1.alloc (.cells #[.int .u8 (x.toNat : Int)] 5)) = .ok (.slice A (l.length + 1) c) w2 ∧
      Made w w2 (.slice A (l.length + 1) c) (l ++ [x]) := by
  have h3 := own_same (w' := w1.alloc (.cells #[.int .u8 (x.toNat : Int)] 5)) h.own (fun g hg => Below.heap_alloc _ _ _ (own_lt h.own hg).2)
  obtain ⟨A2, c2, w2, happ, ho, hg, _⟩ := append_at h3 (src_lit w1 [(x.toNat : Int)] (0, 0) (by have := x.toNat_lt; simp; omega) (by simp)) (by simp; omega) (by simp; have := h.below.size; omega)
  refine ⟨A2, c2, w2, happ, ?_, ((h.below.alloc h.below.size _).grown hg (h.below.alloc h.below.size _).size (own_ge h3))⟩
  rw [ints_app]
  have : (l ++ [x]).length = l.length + 1 := by simp
  rw [this]
  exact ho

/-! ### the numbers of a round -/
theorem wrap_shl6 {B : Nat} : IntKind.u64.wrap ((B : Int) * 64) = ((64 * (B % 288230376151711744) : Nat) : Int) := by
  rw [IntKind.wrap_u64]; omega
theorem or6 {q v : Nat} (hq : q < 288230376151711744) (hv : v < 64) : bits .or .u64 ((64 * q : Nat) : Int) (v : Int) = ((64 * q + v : Nat) : Int) := by
  rw [u64_or_nat _ _ (by omega) (by omega), show (64 * q : Nat) = 2 ^ 6 * q from rfl, Nat.two_pow_add_eq_or_of_lt (show v < 2 ^ 6 from hv)]
theorem byte_of {N : Nat} (h : N < 256) : ((UInt8.ofNat N).toNat : Int) = (N : Int) := by simp; omega

/-- what Decode gives of a text -/
def DecTo (s : Str) (w : World) (e : Ending) (w' : World) : Prop :=
  (∃ b A c, Is s (some b) ∧ e = .returned (.tuple #[.slice A b.length c, .int .i64 0]) ∧ Made w w' (.slice A b.length c) b) ∨ (Is s none ∧ e = .returned (.tuple #[.slice none 0 0, .int .i64 6]) ∧ Below w.heap.size w w')

/-- on the way: k letters are read -/
structure DI (w : World) (cs : Str) (k B h r : Nat) (acc : Str) (wr : World) (v : Value) : Prop where
  made : Made w wr v acc
  len : acc.length ≤ k
  bits : B % 2 ^ h = r
  big : B < 18446744073709551616
  step : dgo 0 0 cs = ahead acc (dgo h r (cs.drop k))

theorem DI.bad {w wr : World} {cs acc : Str} {k B h r : Nat} {v : Value} {c : UInt8} (d : DI w cs k B h r acc wr v) (hc : cs[k]? = some c) (hv : vl c = -1) : dgo 0 0 cs = none := by
  obtain ⟨hlt, e⟩ := List.getElem?_eq_some_iff.1 hc
  rw [d.step, List.drop_eq_getElem_cons hlt, e, dgo_bad (by omega)]
  rfl
theorem DI.more {w wr : World} {cs acc : Str} {k B r n : Nat} {v : Value} {c : UInt8} (d : DI w cs k B 0 r acc wr v) (hc : cs[k]? = some c) (hv : vl c = (n : Int)) (hn : n < 64) :
    DI w cs (k + 1) (64 * (B % 288230376151711744) + n) 6 n acc wr v := by
  obtain ⟨hlt, e⟩ := List.getElem?_eq_some_iff.1 hc
  have hr : r = 0 := by have := d.bits; omega
  refine ⟨d.made, by have := d.len; omega, by show _ % 64 = _; omega, by omega, ?_⟩
  rw [d.step, List.drop_eq_getElem_cons hlt, e, dgo_more hv (by omega), hr]
  simp
theorem DI.byte {w wr w2 : World} {cs acc : Str} {k B h r n : Nat} {v v2 : Value} {c : UInt8} (d : DI w cs k B h r acc wr v) (hc : cs[k]? = some c) (hv : vl c = (n : Int)) (hn : n < 64) (hh : h = 2 ∨ h = 4 ∨ h = 6)
    (hm : Made w w2 v2 (acc ++ [UInt8.ofNat ((64 * (B % 288230376151711744) + n) / 2 ^ (h - 2) % 256)])) : DI w cs (k + 1) (64 * (B % 288230376151711744) + n) (h - 2) ((r * 64 + n) % 2 ^ (h - 2)) (acc ++ [UInt8.ofNat ((64 * (B % 288230376151711744) + n) / 2 ^ (h - 2) % 256)]) w2 v2 := by
  obtain ⟨hlt, e⟩ := List.getElem?_eq_some_iff.1 hc
  have hb := d.bits
  have hbit : (64 * (B % 288230376151711744) + n) % 2 ^ (h - 2) = (r * 64 + n) % 2 ^ (h - 2) := by
    rcases hh with rfl | rfl | rfl
    · show _ % 1 = _ % 1; omega
    · show _ % 4 = _ % 4; rw [show (2 : Nat) ^ 4 = 16 from rfl] at hb; omega
    · show _ % 16 = _ % 16; rw [show (2 : Nat) ^ 6 = 64 from rfl] at hb; omega
  have hbyte : (64 * (B % 288230376151711744) + n) / 2 ^ (h - 2) % 256 = (r * 64 + n) / 2 ^ (h - 2) := by
    rcases hh with rfl | rfl | rfl
    · show _ / 1 % 256 = _ / 1; rw [show (2 : Nat) ^ 2 = 4 from rfl] at hb; omega
    · show _ / 4 % 256 = _ / 4; rw [show (2 : Nat) ^ 4 = 16 from rfl] at hb; omega
    · show _ / 16 % 256 = _ / 16; rw [show (2 : Nat) ^ 6 = 64 from rfl] at hb; omega
  refine ⟨hm, by have := d.len; simp; omega, hbit, by omega, ?_⟩
  rw [d.step, List.drop_eq_getElem_cons hlt, e, dgo_byte hv (by rcases hh with rfl | rfl | rfl <;> omega), ahead_one, hbyte]

theorem cs_at (cs : Str) (k : Nat) (c : UInt8) (h : cs[k]? = some c) (W : World) : (Instr.index 9 (.string (S cs)) (.int .i64 (k : Int))).run Try.prog W = .ok (.int .u8 (c.toNat : Int)) W := by
  obtain ⟨hlt, e⟩ := List.getElem?_eq_some_iff.1 h
  rw [run_index_string (P := Try.prog) W 9 _ .i64 (k : Int) Try.underlying9, dif_pos ⟨by omega, by rw [S_size]; omega⟩]
  simp only [Int.toNat_natCast]
  have : (S cs)[k]'(by rw [S_size]; exact hlt) = c := by
    have h1 := byte_at (s := S cs) (k := k) (by rw [S_size]; exact hlt)
    rw [S_list, h] at h1
    exact (Option.some.inj h1).symm
  rw [this]

set_option maxHeartbeats 4000000 in
set_option maxRecDepth 100000 in
theorem decode_any (s : Str) (hs : s.length ≤ 20000) (w : World) : Calls Try.prog 12 #[.string (S s)] w (DecTo s w) := by
  have hsz : (S s).size = s.length := S_size s
  by_cases h4 : s.length % 4 = 0
  · have hst := fun W => strip_any s (by omega) W
    have HST := Lib.hid hst
    have hcl := strip_len s
    have hcs : (S (strip s)).size = (strip s).length := S_size _
    have H4 := Lib.hid h4
    have h4i : ((s.length : Int) % 4 != 0) = false := by
      have : (s.length : Int) % 4 = 0 := by omega
      rw [this]; rfl
    obtain ⟨i0, hi, hz0, hz1, hz2⟩ := info_parts (show (Try.prog.info? 5).map (fun i => (i.zero, i.size, i.bytes)) = some (some (.int .u8 0), 1, 1) by kernel_rfl)
    generalize hn : (strip s).length = n at *
    have HN := Lib.hid hn
    clear hst h4 hn
    go_enter Try.func12, Try.ntmps12
    go_wp2_with fail
    refine (HST.out _).mono ?_
    rintro e w' ⟨rfl, rfl⟩
    go_wp2_with (at_make; refine wpList_make_own _ rfl _ _ 22 rfl w'.heap.size 5 i0 (.int .u8 0) 1 Try.underlying22 hi hz0 hz1 .i64 .i64 _ (n * 6 / 8) rfl rfl (by omega) (by rw [hz2]; omega) (by unfold maxLen; omega) (Nat.le_refl _) ?_; intro w0 hown0 hgrow0)
    have hm0 : Hid (DI w' (strip s) 0 0 0 0 [] w0 (.slice (some ⟨w'.heap.size, 0, none⟩) 0 (n * 6 / 8))) := ⟨⟨hown0, (Below.refl _ _).grown hgrow0 (Nat.le_refl _) (fun g e => by cases e)⟩, Nat.le_refl _, rfl, by omega, by rw [ahead_nil]; rfl⟩
    clear hown0 hgrow0
    go_loopw [5, 6, 7, 23] (fun s5 s6 s7 s23 wr => ∃ (k B h r : Nat) (acc : Str) (A : Option Addr) (c : Nat), k ≤ n ∧ (h = 0 ∨ h = 2 ∨ h = 4 ∨ h = 6) ∧ s5 = .slice A acc.length c ∧ s6 = .int .u64 (B : Int) ∧ s7 = .int .i64 (h : Int) ∧ s23 = .int .i64 (k : Int) ∧ Hid (DI w' (strip s) k B h r acc wr (.slice A acc.length c))) (fun _ _ _ s23 _ => n - (intOf s23).toNat)
    case atStart => exact ⟨0, 0, 0, 0, [], _, _, Nat.zero_le _, .inl rfl, rfl, rfl, rfl, rfl, hm0⟩
    case round =>
      clear hm0
      obtain ⟨k, B, h, r, acc, A, c, hk, hh, rfl, rfl, rfl, rfl, HD⟩ := hrel
      by_cases hlt : k < n
      · obtain ⟨ch, hch⟩ : ∃ ch, (strip s)[k]? = some ch := ⟨(strip s)[k]'(by rw [HN.out]; exact hlt), List.getElem?_eq_getElem _⟩
        have hix := fun W => cs_at (strip s) k ch hch W
        have hia := fun W => index_any ch W
        have HCH := Lib.hid hch
        clear hch
        by_cases hv : vl ch < 0
        · have hv1 := vl_none hv
          have HF := Lib.hid (is_none (HD.out.bad HCH.out hv1))
          rw [hv1] at hia
          have HIA := Lib.hid hia
          clear hia hv hv1
          go_wp2_with fail
          refine (HIA.out _).mono ?_
          rintro e w3 ⟨rfl, rfl⟩
          go_wp2_with fail
          go_ret2
          exact .inr ⟨HF.out, rfl, HD.out.made.below⟩
        · obtain ⟨m, hm, hvm, _⟩ := vl_some (c := ch) (by omega)
          rw [hvm] at hia
          have HIA := Lib.hid hia
          have HVM := Lib.hid hvm
          clear hia hv hvm
          have e1 := wrap_shl6 (B := B)
          have e2 := or6 (q := B % 288230376151711744) (v := m) (by omega) hm
          obtain ⟨Q, hQ⟩ : ∃ Q : Nat, Q = 64 * (B % 288230376151711744) := ⟨_, rfl⟩
          obtain ⟨M, hM⟩ : ∃ M : Nat, M = 64 * (B % 288230376151711744) + m := ⟨_, rfl⟩
          rw [← hQ] at e1 e2
          rw [← hQ] at hM
          rw [← hM] at e2
          have hMb : M < 18446744073709551616 := by omega
          have HM := Lib.hid (show M = 64 * (B % 288230376151711744) + m by rw [hM, hQ])
          clear hQ hM
          have hal := HD.out.len
          rcases hh with rfl | rfl | rfl | rfl
          · go_wp2_with fail
            refine (HIA.out _).mono ?_
            rintro e w3 ⟨rfl, rfl⟩
            go_wp2_with fail
            go_roundw
            case rel => exact ⟨k + 1, M, 6, m, acc, A, c, by omega, by omega, rfl, rfl, rfl, by go_num, Lib.hid (by rw [HM.out]; exact HD.out.more HCH.out HVM.out hm)⟩
            case measure => simp [intOf]; omega
          · obtain ⟨x, hx⟩ : ∃ x : UInt8, x = UInt8.ofNat (M / 2 ^ 0 % 256) := ⟨_, rfl⟩
            have e3 : IntKind.u8.wrap (M : Int) = (x.toNat : Int) := by rw [hx, byte_of (by omega), IntKind.wrap_u8]; omega
            obtain ⟨A2, c2, w2, happ, hmd⟩ := HD.out.made.push (by omega) x
            have HNX := Lib.hid (HD.out.byte (n := m) HCH.out HVM.out hm (.inl rfl) (w2 := w2) (v2 := .slice A2 (acc.length + 1) c2) (by rw [← HM.out, ← hx]; exact hmd))
            have HX := Lib.hid hx
            have HAp := Lib.hid happ
            clear hx happ hmd
            go_wp2_with fail
            refine (HIA.out _).mono ?_
            rintro e w3 ⟨rfl, rfl⟩
            go_wp2_with (at_builtin; refine wpList_append_eq rfl _ _ rfl rfl rfl rfl HAp.out ?_)
            go_roundw
            case rel => exact ⟨k + 1, M, 0, (r * 64 + m) % 2 ^ 0, acc ++ [x], A2, c2, by omega, by omega, by rw [List.length_append]; rfl, rfl, rfl, by go_num, Lib.hid (by have h := HNX.out; rw [← HM.out, ← HX.out] at h; rw [List.length_append]; exact h)⟩
            case measure => simp [intOf]; omega
          · obtain ⟨x, hx⟩ : ∃ x : UInt8, x = UInt8.ofNat (M / 2 ^ 2 % 256) := ⟨_, rfl⟩
            have e3 : IntKind.u8.wrap ((M : Int) / 4) = (x.toNat : Int) := by rw [hx, byte_of (by omega), IntKind.wrap_u8]; omega
            obtain ⟨A2, c2, w2, happ, hmd⟩ := HD.out.made.push (by omega) x
            have HNX := Lib.hid (HD.out.byte (n := m) HCH.out HVM.out hm (.inr (.inl rfl)) (w2 := w2) (v2 := .slice A2 (acc.length + 1) c2) (by rw [← HM.out, ← hx]; exact hmd))
            have HX := Lib.hid hx
            have HAp := Lib.hid happ
            clear hx happ hmd
            go_wp2_with fail
            refine (HIA.out _).mono ?_
            rintro e w3 ⟨rfl, rfl⟩
            go_wp2_with (at_builtin; refine wpList_append_eq rfl _ _ rfl rfl rfl rfl HAp.out ?_)
            go_roundw
            case rel => exact ⟨k + 1, M, 2, (r * 64 + m) % 2 ^ 2, acc ++ [x], A2, c2, by omega, by omega, by rw [List.length_append]; rfl, rfl, rfl, by go_num, Lib.hid (by have h := HNX.out; rw [← HM.out, ← HX.out] at h; rw [List.length_append]; exact h)⟩
            case measure => simp [intOf]; omega
          · obtain ⟨x, hx⟩ : ∃ x : UInt8, x = UInt8.ofNat (M / 2 ^ 4 % 256) := ⟨_, rfl⟩
            have e3 : IntKind.u8.wrap ((M : Int) / 16) = (x.toNat : Int) := by rw [hx, byte_of (by omega), IntKind.wrap_u8]; omega
            obtain ⟨A2, c2, w2, happ, hmd⟩ := HD.out.made.push (by omega) x
            have HNX := Lib.hid (HD.out.byte (n := m) HCH.out HVM.out hm (.inr (.inr rfl)) (w2 := w2) (v2 := .slice A2 (acc.length + 1) c2) (by rw [← HM.out, ← hx]; exact hmd))
            have HX := Lib.hid hx
            have HAp := Lib.hid happ
            clear hx happ hmd
            go_wp2_with fail
            refine (HIA.out _).mono ?_
            rintro e w3 ⟨rfl, rfl⟩
            go_wp2_with (at_builtin; refine wpList_append_eq rfl _ _ rfl rfl rfl rfl HAp.out ?_)
            go_roundw
            case rel => exact ⟨k + 1, M, 4, (r * 64 + m) % 2 ^ 4, acc ++ [x], A2, c2, by omega, by omega, by rw [List.length_append]; rfl, rfl, rfl, by go_num, Lib.hid (by have h := HNX.out; rw [← HM.out, ← HX.out] at h; rw [List.length_append]; exact h)⟩
            case measure => simp [intOf]; omega
      · have hk' : k = n := by omega
        have hst : dgo 0 0 (strip s) = some (r, acc) := by
          rw [HD.out.step, List.drop_eq_nil_of_le (by rw [HN.out]; omega)]
          simp [dgo, ahead]
        have hbit := HD.out.bits
        have hbig := HD.out.big
        by_cases hr : r = 0
        · subst hr
          have HF := Lib.hid (show Is s (some acc) from dgo_yes H4.out hst)
          clear hst
          rcases hh with rfl | rfl | rfl | rfl
          · have hb : ((B : Int) % 1 != 0) = false := by rw [show (B : Int) % 1 = 0 by omega]; rfl
            clear hbit
            go_wp2_with fail
            go_ret2
            exact .inl ⟨acc, A, c, HF.out, rfl, HD.out.made⟩
          · have hb : ((B : Int) % 4 != 0) = false := by rw [show (B : Int) % 4 = 0 by omega]; rfl
            clear hbit
            go_wp2_with fail
            go_ret2
            exact .inl ⟨acc, A, c, HF.out, rfl, HD.out.made⟩
          · have hb : ((B : Int) % 16 != 0) = false := by rw [show (B : Int) % 16 = 0 by omega]; rfl
            clear hbit
            go_wp2_with fail
            go_ret2
            exact .inl ⟨acc, A, c, HF.out, rfl, HD.out.made⟩
          · have hb : ((B : Int) % 64 != 0) = false := by rw [show (B : Int) % 64 = 0 by omega]; rfl
            clear hbit
            go_wp2_with fail
            go_ret2
            exact .inl ⟨acc, A, c, HF.out, rfl, HD.out.made⟩
        · have HF := Lib.hid (is_left hst hr)
          clear hst
          rcases hh with rfl | rfl | rfl | rfl
          · omega
          · have hb : ((B : Int) % 4 != 0) = true := by
              have : (B : Int) % 4 ≠ 0 := by omega
              simpa using this
            clear hbit
            go_wp2_with fail
            go_ret2
            exact .inr ⟨HF.out, rfl, HD.out.made.below⟩
          · have hb : ((B : Int) % 16 != 0) = true := by
              have : (B : Int) % 16 ≠ 0 := by omega
              simpa using this
            clear hbit
            go_wp2_with fail
            go_ret2
            exact .inr ⟨HF.out, rfl, HD.out.made.below⟩
          · have hb : ((B : Int) % 64 != 0) = true := by
              have : (B : Int) % 64 ≠ 0 := by omega
              simpa using this
            clear hbit
            go_wp2_with fail
            go_ret2
            exact .inr ⟨HF.out, rfl, HD.out.made.below⟩
  · have h4i : ((s.length : Int) % 4 != 0) = true := by
      have : (s.length : Int) % 4 ≠ 0 := by omega
      simpa using this
    have HF := Lib.hid (is_odd h4)
    clear h4
    go_enter Try.func12, Try.ntmps12
    go_wp2_with fail
    go_ret2
    exact .inr ⟨HF.out, rfl, Below.refl _ _⟩
end Go.Proofs.Ytiloeffnmkcaoaa.sx
