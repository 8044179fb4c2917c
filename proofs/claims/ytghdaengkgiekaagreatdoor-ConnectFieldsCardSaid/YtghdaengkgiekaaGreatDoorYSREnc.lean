/-
  Given for the seat's laws: the contract of the document's Encode. No condition but those of the theorems.
-/
import Derived.Test.YtghdaengkgiekaaGreatDoorYSSize
namespace Go.Proofs.YtghdaengkgiekaaGreatDoor.sx
open Go.RowKit mem
set_option linter.unusedVariables false

theorem letter_is (z : Int) (m : Nat) (a : UInt8) (hz : z = (m : Int)) (hm : m < 64) (ha : lt m = a) (w : World) : Calls Tryz.prog 48 #[.int .i64 z] w fun e w' => e = .returned (.int .u8 (a.toNat : Int)) ∧ w' = w := by
  subst hz ha
  exact letter_any m hm w

theorem src_lies {w : World} {g : Nat} {xs : List Int} (h : Lies w g 5 (B8 xs).toArray) (hr : ∀ x ∈ xs, 0 ≤ x ∧ x < 256) (hl : xs.length ≤ 1000) : Src w (fun k => k = g) (some ⟨g, 0, none⟩) xs.length xs.length xs :=
  ⟨rfl, Nat.le_refl _, fun e => (by cases e), by unfold maxLen; omega, hr, fun _ => ⟨g, 0, rfl, rfl, fun j z hz => by rw [Nat.zero_add, h.cell]; simp [B8, hz]⟩⟩
/-- bytes more -/
theorem Made.app {w wr W : World} {v : Value} {l ys : Str} {ok : Nat → Prop} {A : Option Addr} {m c : Nat} (h : Made w wr v l) (hb : Below wr.heap.size wr W) (hs : Spell W ok A m c ys) (hl : l.length + m ≤ 100000) :
    ∃ A2 c2 w2, (Builtin.append_ #[29, 29] 29 #[v, .slice A m c]).run Tryz.prog W = .ok (.slice A2 (l.length + m) c2) w2 ∧ Made w w2 (.slice A2 (l.length + m) c2) (l ++ ys) := by
  have h1 := h.fresh hb
  obtain ⟨A2, c2, w2, happ, ho, hg, _⟩ := append_at h1.own hs (by omega) (by have := h1.below.size; omega)
  refine ⟨A2, c2, w2, happ, ?_, h1.below.grown hg h1.below.size (own_ge h1.own)⟩
  rw [ints_app]
  have : (l ++ ys).length = l.length + m := by rw [List.length_append, spell_len hs]
  rw [this]
  exact ho

/-- a text of four letters of the call's own -/
abbrev four (p q u v : UInt8) : Array Value := #[.int .u8 (p.toNat : Int), .int .u8 (q.toNat : Int), .int .u8 (u.toNat : Int), .int .u8 (v.toNat : Int)]
theorem four_eq (p q u v : UInt8) : four p q u v = (B8 (ints [p, q, u, v])).toArray := rfl
theorem four_src {w : World} {g : Nat} {p q u v : UInt8} (h : Lies w g 5 (four p q u v)) : Spell w (fun k => k = g) (some ⟨g, 0, none⟩) 4 4 [p, q, u, v] := by
  rw [four_eq] at h
  exact src_lies h (ints_rng _) (by simp [ints])

def EncTo (b : Str) (w : World) (e : Ending) (w' : World) : Prop := e = .returned (.string (S (enc b))) ∧ Below w.heap.size w w'

structure RE (w : World) (b : Str) (i : Nat) (acc : Str) (wr : World) (v : Value) : Prop where
  made : Made w wr v acc
  way : acc ++ enc (b.drop i) = enc b
  len : acc.length ≤ 2 * i

set_option maxHeartbeats 4000000 in
set_option maxRecDepth 100000 in
theorem rencode_any {w : World} {ok : Nat → Prop} {A : Option Addr} {l c : Nat} {b : Str} (hs : Spell w ok A l c b) (hok : ∀ g, ok g → g < w.heap.size) (hl : l ≤ 10000) : Calls Tryz.prog 27 #[.slice A l c] w (EncTo b w) := by
  have hbl := spell_len hs
  have HS := Lib.hid hs
  have HOK := Lib.hid hok
  have HBL := Lib.hid hbl
  clear hs hbl hok
  have h0 : Hid (RE w b 0 [] w (.slice none 0 0)) := ⟨⟨own_none w _ _, Below.refl _ _⟩, rfl, Nat.le_refl _⟩
  go_enter Tryz.func27, Tryz.ntmps27
  go_wp2
  go_loopw [3, 4] (fun s3 s4 wr => ∃ (i : Nat) (acc : Str) (A' : Option Addr) (c' : Nat), i ≤ l + 2 ∧ s3 = .slice A' acc.length c' ∧ s4 = .int .i64 (i : Int) ∧ Hid (RE w b i acc wr (.slice A' acc.length c'))) (fun _ s4 _ => l + 3 - (intOf s4).toNat)
  case atStart => exact ⟨0, [], none, 0, by omega, rfl, rfl, h0⟩
  case round =>
    clear h0
    obtain ⟨i, acc, A', c', hi, rfl, rfl, HR⟩ := hrel
    have hal := HR.out.len
    by_cases hlt : i < l
    · by_cases h3 : i + 3 ≤ l
      · obtain ⟨x, y, z, hx, hy, hz, he⟩ := enc_drop3 (b := b) (i := i) (by rw [HBL.out]; exact h3)
        have hxb := x.toNat_lt; have hyb := y.toNat_lt; have hzb := z.toNat_lt
        obtain ⟨g, off, hA, hg, cx⟩ := spell_cell HS.out hx
        obtain ⟨g', off', hA', hg', cy⟩ := spell_cell HS.out hy
        obtain ⟨g'', off'', hA'', hg'', cz⟩ := spell_cell HS.out hz
        rw [hA] at hA' hA''
        simp only [Option.some.injEq, Addr.mk.injEq, and_true] at hA' hA''
        obtain ⟨rfl, rfl⟩ := hA'
        obtain ⟨rfl, rfl⟩ := hA''
        have hgl := HOK.out _ hg
        subst hA
        have kx : wr.cell? ⟨g, off + i, none⟩ = some (.int .u8 (x.toNat : Int)) := cell_kept cx HR.out.made.below
        have ky : wr.cell? ⟨g, off + (i + 1), none⟩ = some (.int .u8 (y.toNat : Int)) := cell_kept cy HR.out.made.below
        have kz : wr.cell? ⟨g, off + (i + 2), none⟩ = some (.int .u8 (z.toNat : Int)) := cell_kept cz HR.out.made.below
        clear cx cy cz hx hy hz hg hg' hg''
        obtain ⟨N, hN⟩ : ∃ N : Nat, N = at3 x.toNat y.toNat z.toNat := ⟨_, rfl⟩
        rw [← hN] at he
        obtain ⟨p, hp⟩ : ∃ p, lt (N / 262144) = p := ⟨_, rfl⟩
        obtain ⟨q, hq⟩ : ∃ q, lt (N / 4096 % 64) = q := ⟨_, rfl⟩
        obtain ⟨u, hu⟩ : ∃ u, lt (N / 64 % 64) = u := ⟨_, rfl⟩
        obtain ⟨v, hv⟩ : ∃ v, lt (N % 64) = v := ⟨_, rfl⟩
        rw [hp, hq, hu, hv] at he
        have HN := Lib.hid (show N = 65536 * x.toNat + 256 * y.toNat + z.toNat from hN)
        have HP := Lib.hid hp; have HQ := Lib.hid hq; have HU := Lib.hid hu; have HV := Lib.hid hv; have HE := Lib.hid he
        clear hN hp hq hu hv he
        obtain ⟨A2, c2, w2, happ, hmd⟩ := HR.out.made.app ((Below.refl _ wr).alloc (Nat.le_refl _) (.cells (four p q u v) 5)) (four_src (Lies.new wr 5 (four p q u v))) (by omega)
        have HAp := Lib.hid happ
        have HMd := Lib.hid hmd
        clear happ hmd
        go_wp2_with fail
        refine (letter_is _ (N / 262144) p (by have := HN.out; omega) (by have := HN.out; omega) HP.out _).mono ?_
        rintro e w3 ⟨rfl, rfl⟩
        go_wp2_with fail
        refine (letter_is _ (N / 4096 % 64) q (by have := HN.out; omega) (by omega) HQ.out _).mono ?_
        rintro e w3 ⟨rfl, rfl⟩
        go_wp2_with fail
        refine (letter_is _ (N / 64 % 64) u (by have := HN.out; omega) (by omega) HU.out _).mono ?_
        rintro e w3 ⟨rfl, rfl⟩
        go_wp2_with fail
        refine (letter_is _ (N % 64) v (by have := HN.out; omega) (by omega) HV.out _).mono ?_
        rintro e w3 ⟨rfl, rfl⟩
        go_wp2_with (at_builtin; refine wpList_append_eq rfl _ _ rfl rfl rfl rfl HAp.out ?_)
        go_roundw
        case rel => exact ⟨i + 3, acc ++ [p, q, u, v], A2, c2, by omega, by rw [List.length_append]; rfl, by go_num, Lib.hid ⟨by rw [List.length_append]; exact HMd.out, by rw [List.append_assoc, ← HE.out]; exact HR.out.way, by rw [List.length_append]; show _ + 4 ≤ _; omega⟩⟩
        case measure => simp [intOf]; omega
      · by_cases h2 : i + 2 = l
        · obtain ⟨x, y, hx, hy, he⟩ := enc_drop2 (b := b) (i := i) (by rw [HBL.out]; exact h2)
          have hxb := x.toNat_lt; have hyb := y.toNat_lt
          obtain ⟨g, off, hA, hg, cx⟩ := spell_cell HS.out hx
          obtain ⟨g', off', hA', hg', cy⟩ := spell_cell HS.out hy
          rw [hA] at hA'
          simp only [Option.some.injEq, Addr.mk.injEq, and_true] at hA'
          obtain ⟨rfl, rfl⟩ := hA'
          have hgl := HOK.out _ hg
          subst hA
          have kx : wr.cell? ⟨g, off + i, none⟩ = some (.int .u8 (x.toNat : Int)) := cell_kept cx HR.out.made.below
          have ky : wr.cell? ⟨g, off + (i + 1), none⟩ = some (.int .u8 (y.toNat : Int)) := cell_kept cy HR.out.made.below
          clear cx cy hx hy hg hg'
          obtain ⟨N, hN⟩ : ∃ N : Nat, N = at3 x.toNat y.toNat 0 := ⟨_, rfl⟩
          rw [← hN] at he
          obtain ⟨p, hp⟩ : ∃ p, lt (N / 262144) = p := ⟨_, rfl⟩
          obtain ⟨q, hq⟩ : ∃ q, lt (N / 4096 % 64) = q := ⟨_, rfl⟩
          obtain ⟨u, hu⟩ : ∃ u, lt (N / 64 % 64) = u := ⟨_, rfl⟩
          obtain ⟨v, hv⟩ : ∃ v, lt (N % 64) = v := ⟨_, rfl⟩
          rw [hp, hq, hu] at he
          have HN := Lib.hid (show N = 65536 * x.toNat + 256 * y.toNat from hN)
          have HP := Lib.hid hp; have HQ := Lib.hid hq; have HU := Lib.hid hu; have HV := Lib.hid hv; have HE := Lib.hid he
          clear hN hp hq hu hv he
          have h2a : l ≤ i + 2 := by omega
          have h2b : i + 2 ≤ l := by omega
          have d1 : decide ((l : Int) ≤ (i : Int) + 2) = true := decide_eq_true (by omega)
          have d2 : decide ((l : Int) ≤ (i : Int) + 1) = false := decide_eq_false (by omega)
          clear h2
          obtain ⟨A2, c2, w2, happ, hmd⟩ := HR.out.made.app ((Below.refl _ wr).alloc (Nat.le_refl _) (.cells (four p q u 61) 5)) (four_src (Lies.new wr 5 (four p q u 61))) (by omega)
          have HAp := Lib.hid happ
          have HMd := Lib.hid hmd
          clear happ hmd
          go_wp2_with fail
          refine (letter_is _ (N / 262144) p (by have := HN.out; omega) (by have := HN.out; omega) HP.out _).mono ?_
          rintro e w3 ⟨rfl, rfl⟩
          go_wp2_with fail
          refine (letter_is _ (N / 4096 % 64) q (by have := HN.out; omega) (by omega) HQ.out _).mono ?_
          rintro e w3 ⟨rfl, rfl⟩
          go_wp2_with fail
          refine (letter_is _ (N / 64 % 64) u (by have := HN.out; omega) (by omega) HU.out _).mono ?_
          rintro e w3 ⟨rfl, rfl⟩
          go_wp2_with fail
          refine (letter_is _ (N % 64) v (by have := HN.out; omega) (by omega) HV.out _).mono ?_
          rintro e w3 ⟨rfl, rfl⟩
          go_wp2_with (at_builtin; refine wpList_append_eq rfl _ _ rfl rfl rfl rfl HAp.out ?_)
          go_roundw
          case rel => exact ⟨i + 3, acc ++ [p, q, u, 61], A2, c2, by omega, by rw [List.length_append]; rfl, by go_num, Lib.hid ⟨by rw [List.length_append]; exact HMd.out, by rw [List.append_assoc, List.drop_eq_nil_of_le (by rw [HBL.out]; omega), show enc [] = [] from rfl, List.append_nil, ← HE.out]; exact HR.out.way, by rw [List.length_append]; show _ + 4 ≤ _; omega⟩⟩
          case measure => simp [intOf]; omega
        · have h1 : i + 1 = l := by omega
          obtain ⟨x, hx, he⟩ := enc_drop1 (b := b) (i := i) (by rw [HBL.out]; exact h1)
          have hxb := x.toNat_lt
          obtain ⟨g, off, hA, hg, cx⟩ := spell_cell HS.out hx
          have hgl := HOK.out _ hg
          subst hA
          have kx : wr.cell? ⟨g, off + i, none⟩ = some (.int .u8 (x.toNat : Int)) := cell_kept cx HR.out.made.below
          clear cx hx hg
          obtain ⟨N, hN⟩ : ∃ N : Nat, N = at3 x.toNat 0 0 := ⟨_, rfl⟩
          rw [← hN] at he
          obtain ⟨p, hp⟩ : ∃ p, lt (N / 262144) = p := ⟨_, rfl⟩
          obtain ⟨q, hq⟩ : ∃ q, lt (N / 4096 % 64) = q := ⟨_, rfl⟩
          obtain ⟨u, hu⟩ : ∃ u, lt (N / 64 % 64) = u := ⟨_, rfl⟩
          obtain ⟨v, hv⟩ : ∃ v, lt (N % 64) = v := ⟨_, rfl⟩
          rw [hp, hq] at he
          have HN := Lib.hid (show N = 65536 * x.toNat from hN)
          have HP := Lib.hid hp; have HQ := Lib.hid hq; have HU := Lib.hid hu; have HV := Lib.hid hv; have HE := Lib.hid he
          clear hN hp hq hu hv he h2
          have h1a : l ≤ i + 1 := by omega
          have d1 : decide ((l : Int) ≤ (i : Int) + 2) = true := decide_eq_true (by omega)
          have d2 : decide ((l : Int) ≤ (i : Int) + 1) = true := decide_eq_true (by omega)
          clear h1
          obtain ⟨A2, c2, w2, happ, hmd⟩ := HR.out.made.app ((Below.refl _ wr).alloc (Nat.le_refl _) (.cells (four p q 61 61) 5)) (four_src (Lies.new wr 5 (four p q 61 61))) (by omega)
          have HAp := Lib.hid happ
          have HMd := Lib.hid hmd
          clear happ hmd
          go_wp2_with fail
          refine (letter_is _ (N / 262144) p (by have := HN.out; omega) (by have := HN.out; omega) HP.out _).mono ?_
          rintro e w3 ⟨rfl, rfl⟩
          go_wp2_with fail
          refine (letter_is _ (N / 4096 % 64) q (by have := HN.out; omega) (by omega) HQ.out _).mono ?_
          rintro e w3 ⟨rfl, rfl⟩
          go_wp2_with fail
          refine (letter_is _ (N / 64 % 64) u (by have := HN.out; omega) (by omega) HU.out _).mono ?_
          rintro e w3 ⟨rfl, rfl⟩
          go_wp2_with fail
          refine (letter_is _ (N % 64) v (by have := HN.out; omega) (by omega) HV.out _).mono ?_
          rintro e w3 ⟨rfl, rfl⟩
          go_wp2_with (at_builtin; refine wpList_append_eq rfl _ _ rfl rfl rfl rfl HAp.out ?_)
          go_roundw
          case rel => exact ⟨i + 3, acc ++ [p, q, 61, 61], A2, c2, by omega, by rw [List.length_append]; rfl, by go_num, Lib.hid ⟨by rw [List.length_append]; exact HMd.out, by rw [List.append_assoc, List.drop_eq_nil_of_le (by rw [HBL.out]; omega), show enc [] = [] from rfl, List.append_nil, ← HE.out]; exact HR.out.way, by rw [List.length_append]; show _ + 4 ≤ _; omega⟩⟩
          case measure => simp [intOf]; omega
    · have hd : acc = enc b := by
        have := HR.out.way
        rwa [List.drop_eq_nil_of_le (by rw [HBL.out]; omega), show enc [] = [] from rfl, List.append_nil] at this
      subst hd
      have hconv := spell_str (own_spell HR.out.made.own)
      go_wp2
      go_ret
      exact ⟨rfl, HR.out.made.below⟩
end Go.Proofs.YtghdaengkgiekaaGreatDoor.sx
