/-
  Given for the seat's laws: the contract of the document's Decode. No condition but those of the theorems.
-/
import Derived.Test.YtiloeffnmkcaoaaSREnc
namespace Go.Proofs.Ytiloeffnmkcaoaa.sx
open Go.RowKit mem
set_option linter.unusedVariables false

theorem Src.takeN {w : World} {ok : Nat → Prop} {A : Option Addr} {l c : Nat} {bs : List Int} (h : Src w ok A l c bs) (m : Nat) (hm : m ≤ l) : Src w ok A m c (bs.take m) :=
  ⟨by have := h.len; simp; omega, by have := h.cap; omega, h.non, h.max, fun x hx => h.rng x (List.mem_of_mem_take hx), h.lies.take m⟩
theorem ints_take (l : Str) (m : Nat) : (ints l).take m = ints (l.take m) := by simp [ints]

abbrev cell3 (p q u : UInt8) : Array Value := #[.int .u8 (p.toNat : Int), .int .u8 (q.toNat : Int), .int .u8 (u.toNat : Int)]
theorem three_src {w : World} {g : Nat} {p q u : UInt8} (h : Lies w g 5 (cell3 p q u)) (m : Nat) (hm : m ≤ 3) : Spell w (fun k => k = g) (some ⟨g, 0, none⟩) m 3 ([p, q, u].take m) := by
  have h1 : Src w (fun k => k = g) (some ⟨g, 0, none⟩) 3 3 (ints [p, q, u]) := src_lies (show Lies w g 5 (B8 (ints [p, q, u])).toArray from h) (ints_rng _) (by simp [ints])
  have := h1.takeN m hm
  rw [ints_take] at this
  exact this

structure RD (w : World) (s : Str) (i : Nat) (acc : Str) (wr : World) (v : Value) : Prop where
  made : Made w wr v acc
  way : raw s = before acc (raw (s.drop i))
  len : acc.length ≤ i
  mod : i % 4 = 0

theorem is_len {s b : Str} (h : enc b = s) : b.length ≤ s.length := by
  rw [← h, enc_len]; unfold size; omega
theorem S_toList (l : Str) : (S l).toList = l := by rw [Lib.toList_data]; exact S_list l
theorem str_ne {a b : Str} (h : a ≠ b) : ((S a).toList == (S b).toList) = false ∧ ((S a).toList != (S b).toList) = true := by
  rw [S_toList, S_toList]
  have h1 : (a == b) = false := beq_eq_false_iff_ne.2 h
  exact ⟨h1, by simp [bne, h1]⟩
theorem str_eq (a : Str) : ((S a).toList == (S a).toList) = true ∧ ((S a).toList != (S a).toList) = false := by simp

set_option maxHeartbeats 4000000 in
set_option maxRecDepth 100000 in
theorem rdecode_any (s : Str) (hs : s.length ≤ 10000) (w : World) : Calls Try.prog 13 #[.string (S s)] w (DecTo s w) := by
  have hsz : (S s).size = s.length := S_size s
  obtain ⟨n, hn⟩ : ∃ n, s.length = n := ⟨_, rfl⟩
  rw [hn] at hsz hs
  have HN := Lib.hid hn
  by_cases h4 : n % 4 = 0
  · have h4i : ((n : Int) % 4 != 0) = false := by
      have : (n : Int) % 4 = 0 := by omega
      rw [this]; rfl
    have H4 := Lib.hid h4
    clear h4 hn
    have h0 : Hid (RD w s 0 [] w (.slice none 0 0)) := ⟨⟨own_none w _ _, Below.refl _ _⟩, by rw [before_nil]; rfl, Nat.le_refl _, rfl⟩
    go_enter Try.func13, Try.ntmps13
    go_wp2
    go_loopw [4, 5] (fun s4 s5 wr => ∃ (i : Nat) (acc : Str) (A' : Option Addr) (c' : Nat), i ≤ n ∧ s4 = .slice A' acc.length c' ∧ s5 = .int .i64 (i : Int) ∧ Hid (RD w s i acc wr (.slice A' acc.length c'))) (fun _ s5 _ => n - (intOf s5).toNat)
    case atStart => exact ⟨0, [], none, 0, by omega, rfl, rfl, h0⟩
    case round =>
      clear h0
      obtain ⟨i, acc, A', c', hi, rfl, rfl, HR⟩ := hrel
      have hal := HR.out.len
      by_cases hlt : i < n
      · have hi4 : i + 4 ≤ n := by have := HR.out.mod; have := H4.out; omega
        go_wp2
        go_loop [6, 7, 8] (fun s6 s7 s8 => ∃ j N M : Nat, j ≤ 4 ∧ N < 16777216 ∧ M ≤ 4 ∧ s6 = .int .i64 (N : Int) ∧ s7 = .int .i64 (M : Int) ∧ s8 = .int .i64 (j : Int) ∧ Hid (grp ((s.drop i).take j) = (N, M))) (fun _ _ s8 => 4 - (intOf s8).toNat)
        case atStart => exact ⟨0, 0, 0, by omega, by omega, by omega, rfl, rfl, rfl, Lib.hid rfl⟩
        case round =>
          obtain ⟨j, N, M, hj, hNb, hMb, rfl, rfl, rfl, HG⟩ := hrel
          by_cases hj4 : j < 4
          · obtain ⟨ch, hch⟩ : ∃ ch, s[i + j]? = some ch := ⟨s[i + j]'(by rw [HN.out]; omega), List.getElem?_eq_getElem _⟩
            have hix := fun W => cs_at s (i + j) ch hch W
            rw [show ((i + j : Nat) : Int) = (i : Int) + (j : Int) by omega] at hix
            have hva := fun W => value_any ch W
            have htk : (s.drop i).take (j + 1) = (s.drop i).take j ++ [ch] := by
              rw [List.take_add_one, List.getElem?_drop, hch]
              rfl
            have hg1 : grp ((s.drop i).take (j + 1)) = gs (N, M) ch := by rw [htk, grp_snoc, HG.out]
            have hb1 := grp_lt ((s.drop i).take (j + 1))
            rw [hg1] at hb1
            have hjl : ((s.drop i).take (j + 1)).length = j + 1 := by simp; have := HN.out; omega
            rw [hjl] at hb1
            have hp : 64 ^ (j + 1) ≤ 16777216 := Nat.le_trans (Nat.pow_le_pow_right (by omega) (show j + 1 ≤ 4 by omega)) (by decide)
            have hgs : gs (N, M) ch = if vl ch < 0 then (64 * N, M) else (64 * N + (vl ch).toNat, M + 1) := rfl
            have HG1 := Lib.hid hg1
            clear hch htk hg1 hjl
            by_cases hv : vl ch < 0
            · rw [hgs, if_pos hv] at hb1
              have hgs' : gs (N, M) ch = (64 * N, M) := by rw [hgs, if_pos hv]
              have hb2 : 64 * N < 16777216 := Nat.lt_of_lt_of_le hb1.1 hp
              have HGS := Lib.hid hgs'
              rw [vl_none hv] at hva
              have HVA := Lib.hid hva
              clear hb1 hp hgs hgs' hv hva
              go_wp2_with fail
              refine (HVA.out _).mono ?_
              rintro e w3 ⟨rfl, rfl⟩
              go_wp2_with fail
              go_round
              case rel => exact ⟨j + 1, 64 * N, M, by omega, hb2, hMb, by go_num, rfl, by go_num, Lib.hid (by rw [HG1.out, HGS.out])⟩
              case measure => simp [intOf]; omega
            · obtain ⟨m, hm, hvm, _⟩ := vl_some (c := ch) (by omega)
              rw [hgs, if_neg hv] at hb1
              have hgs' : gs (N, M) ch = (64 * N + m, M + 1) := by rw [hgs, if_neg hv, hvm]; rfl
              rw [hvm] at hb1
              have hb2 : 64 * N + m < 16777216 := Nat.lt_of_lt_of_le hb1.1 hp
              have hb3 : M + 1 ≤ 4 := by have := hb1.2; show M + 1 ≤ 4; omega
              have HGS := Lib.hid hgs'
              rw [hvm] at hva
              have HVA := Lib.hid hva
              clear hb1 hp hgs hgs' hv hva hvm
              go_wp2_with fail
              refine (HVA.out _).mono ?_
              rintro e w3 ⟨rfl, rfl⟩
              go_wp2_with fail
              go_round
              case rel => exact ⟨j + 1, 64 * N + m, M + 1, by omega, hb2, hb3, by go_num, by go_num, by go_num, Lib.hid (by rw [HG1.out, HGS.out])⟩
              case measure => simp [intOf]; omega
          · have hj' : j = 4 := by omega
            subst hj'
            have hi4s : i + 4 ≤ s.length := by rw [HN.out]; exact hi4
            obtain ⟨p, hp⟩ : ∃ p, UInt8.ofNat (N / 65536) = p := ⟨_, rfl⟩
            obtain ⟨q, hq⟩ : ∃ q, UInt8.ofNat (N / 256 % 256) = q := ⟨_, rfl⟩
            obtain ⟨u, hu⟩ : ∃ u, UInt8.ofNat (N % 256) = u := ⟨_, rfl⟩
            have ep : IntKind.u8.wrap ((N : Int) / 65536) = (p.toNat : Int) := by rw [← hp, byte_of (by omega), IntKind.wrap_u8]; omega
            have eq : IntKind.u8.wrap ((N : Int) / 256 % 256) = (q.toNat : Int) := by rw [← hq, byte_of (by omega), IntKind.wrap_u8]; omega
            have eu : IntKind.u8.wrap ((N : Int) % 256) = (u.toNat : Int) := by rw [← hu, byte_of (by omega), IntKind.wrap_u8]; omega
            have h3 : three N = [p, q, u] := by unfold three; rw [hp, hq, hu]
            have H3 := Lib.hid h3
            clear hp hq hu h3
            by_cases hM2 : M < 2
            · have HF := Lib.hid (is_raw_none (s := s) (by rw [HR.out.way, raw_bad hi4s (by rw [HG.out]; exact hM2)]; rfl))
              clear hi4s
              go_wp2_with fail
              go_ret2
              exact .inr ⟨HF.out, rfl, HR.out.made.below.alloc HR.out.made.below.size _⟩
            · have hnx := raw_more hi4s (by rw [HG.out]; exact hM2)
              rw [HG.out] at hnx
              simp only [H3.out] at hnx
              have hway : raw s = before (acc ++ [p, q, u].take (M - 1)) (raw (s.drop (i + 4))) := by rw [HR.out.way, hnx, before_more]
              have HW := Lib.hid hway
              clear hway hnx hi4s
              rcases (show M = 2 ∨ M = 3 ∨ M = 4 by omega) with rfl | rfl | rfl
              · obtain ⟨A2, c2, w2, happ, hmd⟩ := HR.out.made.app ((Below.refl _ wr).alloc (Nat.le_refl _) (.cells (cell3 p q u) 5)) (three_src (Lies.new wr 5 (cell3 p q u)) 1 (by omega)) (by omega)
                have HAp := Lib.hid happ
                have HMd := Lib.hid hmd
                clear happ hmd
                go_wp2_with (at_builtin; refine wpList_append_eq rfl _ _ rfl rfl rfl rfl HAp.out ?_)
                go_roundw
                case rel => exact ⟨i + 4, acc ++ [p], A2, c2, by omega, by rw [List.length_append]; rfl, by go_num, Lib.hid ⟨by rw [List.length_append]; exact HMd.out, HW.out, by rw [List.length_append]; show _ + 1 ≤ _; omega, by have := HR.out.mod; omega⟩⟩
                case measure => simp [intOf]; omega
              · obtain ⟨A2, c2, w2, happ, hmd⟩ := HR.out.made.app ((Below.refl _ wr).alloc (Nat.le_refl _) (.cells (cell3 p q u) 5)) (three_src (Lies.new wr 5 (cell3 p q u)) 2 (by omega)) (by omega)
                have HAp := Lib.hid happ
                have HMd := Lib.hid hmd
                clear happ hmd
                go_wp2_with (at_builtin; refine wpList_append_eq rfl _ _ rfl rfl rfl rfl HAp.out ?_)
                go_roundw
                case rel => exact ⟨i + 4, acc ++ [p, q], A2, c2, by omega, by rw [List.length_append]; rfl, by go_num, Lib.hid ⟨by rw [List.length_append]; exact HMd.out, HW.out, by rw [List.length_append]; show _ + 2 ≤ _; omega, by have := HR.out.mod; omega⟩⟩
                case measure => simp [intOf]; omega
              · obtain ⟨A2, c2, w2, happ, hmd⟩ := HR.out.made.app ((Below.refl _ wr).alloc (Nat.le_refl _) (.cells (cell3 p q u) 5)) (three_src (Lies.new wr 5 (cell3 p q u)) 3 (by omega)) (by omega)
                have HAp := Lib.hid happ
                have HMd := Lib.hid hmd
                clear happ hmd
                go_wp2_with (at_builtin; refine wpList_append_eq rfl _ _ rfl rfl rfl rfl HAp.out ?_)
                go_roundw
                case rel => exact ⟨i + 4, acc ++ [p, q, u], A2, c2, by omega, by rw [List.length_append]; rfl, by go_num, Lib.hid ⟨by rw [List.length_append]; exact HMd.out, HW.out, by rw [List.length_append]; show _ + 3 ≤ _; omega, by have := HR.out.mod; omega⟩⟩
                case measure => simp [intOf]; omega
      · have hraw : raw s = some acc := by
          rw [HR.out.way, List.drop_eq_nil_of_le (by rw [HN.out]; omega)]
          simp [raw, before]
        have hre := rencode_any (own_spell HR.out.made.own) (fun g hg => hg.2.1) (by omega)
        by_cases he : enc acc = s
        · have hse := str_eq s
          have HE := Lib.hid he
          unfold EncTo at hre
          rw [he] at hre
          have HRE := Lib.hid hre
          have hs1 := hse.1
          have hs2 := hse.2
          clear hraw hre hse he
          go_wp2_with fail
          refine HRE.out.mono ?_
          rintro e w3 ⟨rfl, hb3⟩
          have HM := Lib.hid (HR.out.made.fresh hb3)
          clear hb3
          go_wp2_with fail
          go_ret2
          exact .inl ⟨acc, A', c', HE.out, rfl, HM.out⟩
        · have hse := str_ne he
          have HF := Lib.hid (is_raw hraw he)
          have HRE := Lib.hid hre
          have hs1 := hse.1
          have hs2 := hse.2
          clear hraw hre hse he
          go_wp2_with fail
          refine HRE.out.mono ?_
          rintro e w3 ⟨rfl, hb3⟩
          have HM := Lib.hid (HR.out.made.fresh hb3)
          clear hb3
          go_wp2_with fail
          go_ret2
          exact .inr ⟨HF.out, rfl, HM.out.below⟩
  · have h4i : ((n : Int) % 4 != 0) = true := by
      have : (n : Int) % 4 ≠ 0 := by omega
      simpa using this
    have HF := Lib.hid (is_odd (s := s) (by rw [hn]; exact h4))
    clear h4 hn
    go_enter Try.func13, Try.ntmps13
    go_wp2_with fail
    go_ret2
    exact .inr ⟨HF.out, rfl, Below.refl _ _⟩
end Go.Proofs.Ytiloeffnmkcaoaa.sx
