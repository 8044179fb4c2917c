/-
  Given for the seat's laws: the contracts of the document's words and Sum. No condition but those of the theorems.
-/
import Derived.Test.YtimlcjdpnhhjdaaPRef
namespace Go.Proofs.Ytimlcjdpnhhjdaa.sp
open Go.RowKit mem
set_option linter.unusedVariables false

def WordsTo (b : Str) (w : World) (e : Ending) (w' : World) : Prop := ∃ A c, e = .returned (.slice A (b.length / 8 + 1 : Nat) c) ∧ MadeW w w' (.slice A (b.length / 8 + 1 : Nat) c) (ws b)

set_option maxHeartbeats 4000000 in
set_option maxRecDepth 100000 in
theorem words_any {w : World} {ok : Nat → Prop} {A : Option Addr} {n c : Nat} {b : Str} (hs : Spell w ok A n c b) (hok : ∀ g, ok g → g < w.heap.size) (hl : n ≤ 100000) : Calls Try.prog 30 #[.slice A n c] w (WordsTo b w) := by
  have hbl := spell_len hs
  obtain ⟨q, hq⟩ : ∃ q, n / 8 = q := ⟨_, rfl⟩
  have hq8 : (n : Int) / 8 = (q : Int) := by omega
  have hqb : b.length / 8 = q := by rw [hbl]; exact hq
  have HS := Lib.hid hs
  have HOK := Lib.hid hok
  have HBL : Bx _ := ⟨hbl⟩
  have HQ : Bx _ := ⟨hq⟩
  have HQB : Bx _ := ⟨hqb⟩
  clear hs hbl hok hq hqb
  have h0 : Hid (MadeW w w (.slice none 0 0) ((ws b).take 0)) := Lib.hid ⟨own_none w _ _, Below.refl _ _⟩
  go_enter Try.func30, Try.ntmps30
  go_wp2
  go_loopw [3, 4] (fun s3 s4 wr => ∃ (i : Nat) (A' : Option Addr) (c' : Nat), i ≤ q + 1 ∧ s3 = .slice A' i c' ∧ s4 = .int .i64 (i : Int) ∧ Hid (MadeW w wr (.slice A' i c') ((ws b).take i))) (fun _ s4 _ => q + 2 - (intOf s4).toNat)
  case atStart => exact ⟨0, none, 0, by omega, rfl, rfl, h0⟩
  case round =>
    clear h0
    obtain ⟨i, A', c', hi, rfl, rfl, HM⟩ := hrel
    by_cases hlt : i ≤ q
    · go_wp2
      go_loop [5, 6, 7] (fun s5 s6 s7 => ∃ k : Nat, k ≤ 8 ∧ s5 = .int .u64 (num (mk (mm b i k))) ∧ s6 = .int .u64 (num (mk (256 ^ k))) ∧ s7 = .int .i64 (k : Int)) (fun _ _ s7 => 8 - (intOf s7).toNat)
      case atStart => exact ⟨0, by omega, by rw [mm_zero]; rfl, rfl, rfl⟩
      case round =>
        obtain ⟨k, hk, rfl, rfl, rfl⟩ := hrel
        by_cases hk8 : k < 8
        · have h256 : IntKind.u64.wrap (256 * num (mk (256 ^ k))) = num (mk (256 ^ (k + 1))) := by
            rw [wrap_256, Nat.pow_succ, Nat.mul_comm]
          by_cases hin : 8 * i + k < n
          · obtain ⟨ch, hch⟩ : ∃ ch, b[8 * i + k]? = some ch := ⟨b[8 * i + k]'(by rw [HBL.out]; exact hin), List.getElem?_eq_getElem _⟩
            obtain ⟨gb, off, rfl, hg, cb⟩ := spell_cell HS.out hch
            have cb1 : wr.cell? ⟨gb, off + (8 * i + k), none⟩ = some (.int .u8 (ch.toNat : Int)) := cell_kept cb HM.out.below
            have hno : ¬ (k = 7 ∧ i = b.length / 8) := by rw [HQB.out]; have := HQ.out; omega
            have hmb := mm_byte hch hk8 hno
            have hmul := wrap_mul (256 ^ k) ch.toNat
            have hadd := wrap_plus (mm b i k) (256 ^ k * ch.toNat)
            rw [← hmb] at hadd
            have hchb := ch.toNat_lt
            have hwc : IntKind.u64.wrap (ch.toNat : Int) = (ch.toNat : Int) := by rw [IntKind.wrap_u64]; omega
            generalize mk (256 ^ k * ch.toNat) = p at hmul hadd
            generalize mk (mm b i k) = m at hadd
            generalize hm2 : mk (mm b i (k + 1)) = m2 at hadd
            generalize mk (256 ^ k) = t at h256 hmul
            generalize ht2 : mk (256 ^ (k + 1)) = t2 at h256
            have HM2 : Bx _ := ⟨hm2⟩
            have HT2 : Bx _ := ⟨ht2⟩
            have HQN := Lib.hid HQ.out
            rw [HQB.out] at hno
            clear hch cb hmb hm2 ht2
            by_cases hiq : i = q
            · have hk7 : ¬ k = 7 := fun e => hno ⟨e, hiq⟩
              have e7 : ((k : Int) == 7) = false := beq_eq_false_iff_ne.2 (by omega)
              subst hiq
              clear hno hk7
              go_wp2
              go_round
              case rel => exact ⟨k + 1, by omega, by rw [HM2.out], by rw [HT2.out], by go_num⟩
              case measure => simp [intOf]; omega
            · have ei : ((i : Int) == (q : Int)) = false := beq_eq_false_iff_ne.2 (by omega)
              clear hno hiq
              go_wp2
              go_round
              case rel => exact ⟨k + 1, by omega, by rw [HM2.out], by rw [HT2.out], by go_num⟩
              case measure => simp [intOf]; omega
          · have hiq : i = q := by have := HQ.out; omega
            subst hiq
            by_cases hk7 : k = 7
            · subst hk7
              have hml := mm_last (b := b) (i := i) (by rw [HQB.out])
              have hmul := wrap_mul (256 ^ 7) (n % 256)
              have hadd := wrap_plus (mm b i 7) (256 ^ 7 * (n % 256))
              rw [HBL.out] at hml
              rw [← hml] at hadd
              obtain ⟨r, hr⟩ : ∃ r, n % 256 = r := ⟨_, rfl⟩
              have hri : (n : Int) % 256 = (r : Int) := by omega
              have hrb : r < 256 := by omega
              rw [hr] at hmul hadd
              have hwr : IntKind.u64.wrap (r : Int) = (r : Int) := by rw [IntKind.wrap_u64]; omega
              generalize mk (256 ^ 7 * r) = p at hmul hadd
              generalize mk (mm b i 7) = m at hadd
              generalize hm2 : mk (mm b i 8) = m2 at hadd
              generalize mk (256 ^ 7) = t at h256 hmul
              generalize ht2 : mk (256 ^ (7 + 1)) = t2 at h256
              have HM2 : Bx _ := ⟨hm2⟩
              have HT2 : Bx _ := ⟨ht2⟩
              clear hml hm2 ht2 hr
              go_wp2
              go_round
              case rel => exact ⟨7 + 1, by omega, by rw [HM2.out], by rw [HT2.out], by go_num⟩
              case measure => simp [intOf]
            · have hmn := mm_none (b := b) (i := i) (k := k) (by rw [HBL.out]; omega) (by omega)
              have e7 : ((k : Int) == 7) = false := beq_eq_false_iff_ne.2 (by omega)
              generalize mk (256 ^ k) = t at h256
              generalize ht2 : mk (256 ^ (k + 1)) = t2 at h256
              have HT2 : Bx _ := ⟨ht2⟩
              have HMN : Bx _ := ⟨hmn⟩
              clear hmn ht2 hk7
              go_wp2
              go_round
              case rel => exact ⟨k + 1, by omega, by rw [HMN.out], by rw [HT2.out], by go_num⟩
              case measure => simp [intOf]; omega
        · obtain rfl : k = 8 := by omega
          have hwt := ws_take (b := b) (i := i) (by rw [HQB.out]; exact hlt)
          have hlen : ((ws b).take i).length = i := by rw [List.length_take, ws_len, HQB.out]; omega
          obtain ⟨A2, c2, w2, happ, hmd⟩ := HM.out.push (by rw [hlen]; omega) (mk (mm b i 8))
          rw [hlen] at happ hmd
          rw [← hwt] at hmd
          generalize mk (mm b i 8) = m at happ
          have HAp := Lib.hid happ
          have HMd := Lib.hid hmd
          clear hwt hlen happ hmd
          go_wp2_with (at_builtin; refine wpList_app rfl _ _ rfl rfl rfl rfl HAp.out ?_)
          go_roundw
          case rel => exact ⟨i + 1, A2, c2, by omega, rfl, by go_num, HMd⟩
          case measure => simp [intOf]; omega
    · obtain rfl : i = q + 1 := by omega
      have ht : (ws b).take (q + 1) = ws b := List.take_of_length_le (by rw [ws_len, HQB.out]; omega)
      rw [ht] at HM
      clear ht
      go_wp2
      go_ret
      exact ⟨A', c', by rw [HQB.out]; rfl, by rw [HQB.out]; exact HM.out⟩
end Go.Proofs.Ytimlcjdpnhhjdaa.sp
