/-
  Given for 'Rows.RingPlaysSaid': the document's own ring in memory, and the contracts of its New, Put, Peek, Skip, Take, and of Copy. No condition but those of the theorems.
-/
import Derived.Test.YthagggclhahikaaOrder
import Derived.Deep.QuietTactic
import Derived.BigQuiet
import Derived.RegionTactic
import Derived.BigRegion
import Derived.Deep.RegionLaw
namespace Go.Proofs.Ythagggclhahikaa.model
open Go.RowKit mem ring plain put peek same api two order
set_option linter.unusedVariables false

set_option maxHeartbeats 400000 in
theorem copy_any {w : World} {ok : Nat → Prop} {A : Option Addr} {m c : Nat} {ys : List Int} (hs : Src w ok A m c ys) (hm : m ≤ 100000) :
    Calls Try.prog 11 #[.slice A m c] w fun e w' => ∃ A' c', e = .returned (.slice A' m c') ∧ w'.ownsRow w.heap.size 5 1 (.slice A' m c') m (B8 ys) ∧ Below w.heap.size w w' := by
  obtain ⟨A', c', w', happ, ho, hg, _⟩ := append_at (n := 0) (xs := []) (own_none w w.heap.size 5) hs (by omega) (Nat.le_refl _)
  rw [Nat.zero_add] at happ ho
  have HAPP := Lib.hid happ
  have HO := Lib.hid ho
  have HG := Lib.hid hg
  clear happ ho hg hs
  go_enter Try.func11, Try.ntmps11
  go_wp2_with (at_builtin; refine wpList_append_eq rfl _ _ rfl rfl rfl rfl HAPP.out ?_)
  go_ret
  exact ⟨A', c', rfl, HO.out, (Below.refl _ w).grown HG.out (Nat.le_refl _) (fun k e => by simp [Value.ownBlock] at e)⟩

/-- the document's ring: its block, its size, the slice that it holds, the bytes -/
structure Mod (W : World) (base q N : Nat) (A : Option Addr) (c : Nat) (xs : List Int) : Prop where
  head : Lies W q 41 #[.int .i64 (N : Int), .slice A xs.length c]
  row : W.ownsRow base 5 1 (.slice A xs.length c) xs.length (B8 xs)

def rowOf (A : Option Addr) : Option Nat := (Value.slice A 0 0).ownBlock
theorem rowOf_eq (A : Option Addr) (m c : Nat) : (Value.slice A m c).ownBlock = rowOf A := by cases A <;> rfl

section
variable {W W' : World} {base q N c : Nat} {A : Option Addr} {xs : List Int}
theorem Mod.keep {S : Nat → Prop} (h : Mod W base q N A c xs) (hk : Keep W.heap.size S W W') (h1 : ¬ S q) (h2 : ∀ g, rowOf A = some g → ¬ S g) : Mod W' base q N A c xs :=
  ⟨h.head.keep hk h.head.lt h1, own_kept h.row hk (Nat.le_refl _) (fun g e => h2 g (by rw [rowOf_eq] at e; exact e))⟩
theorem Mod.later (h : Mod W base q N A c xs) (hb : Below W.heap.size W W') : Mod W' base q N A c xs := h.keep (Keep.of_below hb (fun _ => False)) (fun hf => hf) (fun _ _ hf => hf)
theorem Mod.src (h : Mod W base q N A c xs) : Src W (fun g => base ≤ g ∧ g < W.heap.size) A xs.length c xs := Src.of_own h.row
theorem Mod.rowLt (h : Mod W base q N A c xs) {g : Nat} (e : rowOf A = some g) : base ≤ g ∧ g < W.heap.size ∧ g ≠ q := by
  rw [← rowOf_eq A xs.length c] at e
  refine ⟨own_ge h.row e, own_lt h.row e, fun e' => ?_⟩
  subst e'
  exact own_ne h.row h.head (by decide) e.symm
end

set_option maxHeartbeats 400000 in
theorem mnew_no (n : Int) (w : World) (h : n < 1 ∨ 4096 < n) : Calls Try.prog 10 #[.int .i64 n] w fun e w' => e = .returned (.tuple #[.pointer none, .int .i64 2]) ∧ w = w' := by
  by_cases h1 : n < 1
  · go_enter Try.func10, Try.ntmps10
    go_wp2
    go_ret2
    exact ⟨rfl, rfl⟩
  · have h2 : 4096 < n := by omega
    go_enter Try.func10, Try.ntmps10
    go_wp2
    go_ret2
    exact ⟨rfl, rfl⟩

set_option maxHeartbeats 400000 in
theorem mnew_yes (N : Nat) (w : World) (h1 : 1 ≤ N) (h2 : N ≤ 4096) (base : Nat) : Calls Try.prog 10 #[.int .i64 (N : Int)] w fun e w' => e = .returned (.tuple #[.pointer (some ⟨w.heap.size, 0, none⟩), .int .i64 0]) ∧
    Mod w' base w.heap.size N none 0 [] ∧ Below w.heap.size w w' := by
  have a1 : ¬ (N : Int) < 1 := by omega
  have a2 : ¬ (4096 : Int) < (N : Int) := by omega
  go_enter Try.func10, Try.ntmps10
  go_wp2
  go_ret2
  exact ⟨rfl, ⟨Lies.new w 41 _, own_none _ _ _⟩, (Below.refl _ w).alloc (Nat.le_refl _) _⟩

/-- what holds between two rounds of Peek's loop -/
structure PkInv (w W : World) (base q N : Nat) (A : Option Addr) (c k : Nat) (Ao : Option Addr) (co : Nat) (xs : List Int) : Prop where
  mod : Mod W base q N A c xs
  out : W.ownsRow w.heap.size 5 1 (.slice Ao k co) k (B8 (xs.take k))
  below : Below w.heap.size w W

theorem pk_round {w wr w5 : World} {base q N c k co co' : Nat} {A Ao Ao' : Option Addr} {xs : List Int} {z : Int} (hi : PkInv w wr base q N A c k Ao co xs) (hq : q < w.heap.size) (hr : ∀ g, rowOf A = some g → g < w.heap.size) (hz : xs[k]? = some z)
    (ho : w5.ownsRow w.heap.size 5 1 (.slice Ao' (k + 1) co') (k + 1) (B8 (xs.take k ++ [z]))) (hg : (wr.alloc (.cells #[.int .u8 z] 5)).grownBy w5 (Value.slice Ao k co).ownBlock) : PkInv w w5 base q N A c (k + 1) Ao' co' xs := by
  have b5 : Below wr.heap.size wr (wr.alloc (.cells #[.int .u8 z] 5)) := (Below.refl _ wr).alloc (Nat.le_refl _) _
  have kg := keep_grown hg
  have hrow : ∀ g', some g' = (Value.slice Ao k co).ownBlock → w.heap.size ≤ g' := fun g' e => own_ge hi.out e.symm
  have hsz := hi.below.size
  refine ⟨(hi.mod.later b5).keep kg (fun e => by have := hrow _ e; omega) (fun g' e1 e2 => by have := hrow _ e2; have := hr _ e1; omega), ?_, (hi.below.trans (b5.mono hsz)).trans (kg.below (by simp; omega) (fun k' hk' e => by have := hrow k' e; omega))⟩
  have e : xs.take (k + 1) = xs.take k ++ [z] := by rw [List.take_add_one, hz]; rfl
  rw [e]; exact ho

set_option maxHeartbeats 2000000 in
theorem mpeek_any {w : World} {base q N c : Nat} {A : Option Addr} {xs : List Int} (h : Mod w base q N A c xs) (n : Int) (hx : xs.length ≤ 4096) :
    Calls Try.prog 20 #[.pointer (some ⟨q, 0, none⟩), .int .i64 n] w (PeeksX (kOf xs.length n) xs w) := by
  have h0 : PkInv w w base q N A c 0 none 0 xs := ⟨h, own_none _ _ _, Below.refl _ _⟩
  have H0 := Lib.hid h0
  have hq := h.head.lt
  have HR : Hid (∀ g, rowOf A = some g → g < w.heap.size) := fun g e => (h.rowLt e).2.1
  obtain ⟨K, hK⟩ : ∃ K, K = kOf xs.length n := ⟨_, rfl⟩
  have hK1 : K ≤ xs.length := by rw [hK]; exact kOf_le _ _
  have hK2 : ∀ k : Nat, k < K → (k : Int) < n ∧ k < xs.length := fun k hk => by rw [hK] at hk; unfold kOf at hk; omega
  have hK3 : (K : Int) < n → xs.length ≤ K := fun hn => by rw [hK] at hn ⊢; unfold kOf at hn ⊢; omega
  rw [← hK]
  have HK2 := Lib.hid hK2
  have HK3 := Lib.hid hK3
  clear hK hK2 hK3 h0 h
  obtain ⟨L, hL⟩ : ∃ L, xs.length = L := ⟨_, rfl⟩
  have HL := Lib.hid hL
  rw [hL] at hx hK1
  clear hL
  go_enter Try.func20, Try.ntmps20
  go_wp2
  go_loopw [5, 6] (fun v i wr => ∃ (k : Nat) (Ao : Option Addr) (co : Nat), k ≤ K ∧ i = .int .i64 k ∧ v = .slice Ao k co ∧ Hid (PkInv w wr base q N A c k Ao co xs)) (fun _ i _ => K - (intOf i).toNat)
  case atStart => exact ⟨0, none, 0, Nat.zero_le _, rfl, rfl, H0.out⟩
  case round =>
    clear H0
    obtain ⟨k, Ao, co, hk, rfl, rfl, hinv⟩ := hrel
    have c1 : wr.cell? ⟨q, 1, none⟩ = some (.slice A L c) := by have := hinv.out.mod.head.cell 1; rw [HL.out] at this; exact this
    by_cases hlt : k < K
    · obtain ⟨hn1, hn2⟩ := HK2.out k hlt
      rw [HL.out] at hn2
      obtain ⟨g, off, hAe, hok, hc⟩ := hinv.out.mod.src.at_ (by rw [HL.out]; omega)
      subst hAe
      obtain ⟨z, hz⟩ : ∃ z, xs[k]? = some z := ⟨_, List.getElem?_eq_getElem (by rw [HL.out]; exact hn2)⟩
      have c2 := hc k z hz
      have hb2 := hinv.out.below.size
      obtain ⟨A', c', w5, happ, ho5, hg5, hn5⟩ := append_at (w := wr.alloc (.cells #[.int .u8 z] 5)) (own_kept hinv.out.out (Keep.of_below ((Below.refl _ wr).alloc (Nat.le_refl _) (.cells #[.int .u8 z] 5)) (fun _ => False)) (Nat.le_refl _) (fun _ _ hf => hf))
        (src_lit (w := wr) (cs := [z]) (by simp)) (by simp; omega) (by simp; omega)
      have hI5 : Hid (PkInv w w5 base q N (some ⟨g, off, none⟩) c (k + 1) A' c' xs) := pk_round hinv.out hq HR.out hz ho5 hg5
      have HAPP : Hid ((Builtin.append_ #[31, 31] 31 #[.slice Ao k co, .slice (some ⟨wr.heap.size, 0, none⟩) 1 1]).run Try.prog (wr.alloc (.cells #[.int .u8 z] 5)) = .ok (.slice A' (k + 1) c') w5) := happ
      clear happ ho5 hg5 hn5 hok hc hz hinv
      go_wp2_with (at_builtin; refine wpList_append_eq rfl _ _ rfl rfl rfl rfl HAPP.out ?_)
      go_roundw
      case rel => exact ⟨k + 1, A', c', by omega, by go_num, rfl, hI5.out⟩
      case measure => simp [intOf]; omega
    · obtain rfl : k = K := by omega
      by_cases hn : (k : Int) < n
      · have hLk : L ≤ k := by have := HK3.out hn; rw [HL.out] at this; exact this
        have hz : ¬ k < L := by omega
        go_wp2
        go_ret
        exact ⟨Ao, co, rfl, hinv.out.out, hinv.out.below⟩
      · go_wp2
        go_ret
        exact ⟨Ao, co, rfl, hinv.out.out, hinv.out.below⟩

theorem grownBy_setCell1 (W : World) (b : Nat) (v : Value) : W.grownBy (W.setCell ⟨b, 1, none⟩ v) (some b) :=
  ⟨rfl, rfl, rfl, by simp [World.setCell], fun k _ hk => Below.heap_setCell _ _ _ k (fun e => hk (by rw [e]))⟩

/-! ### Put -/
def MPuts (base q N n : Nat) (A : Option Addr) (xs ys : List Int) (w : World) (e : Ending) (w' : World) : Prop :=
  e = .returned (.int .i64 (n : Int)) ∧ ∃ A' c', Mod w' base q N A' c' (xs ++ ys.take n) ∧ Keep w.heap.size (fun g => g = q ∨ rowOf A = some g) w w' ∧ ∀ g, rowOf A' = some g → rowOf A = some g ∨ w.heap.size ≤ g

/-- what holds between two rounds of Put's loop -/
structure PtInv (w W : World) (base q N k : Nat) (A : Option Addr) (xs ys : List Int) (A' : Option Addr) (c' : Nat) : Prop where
  mod : Mod W base q N A' c' (xs ++ ys.take k)
  keep : Keep w.heap.size (fun g => g = q ∨ rowOf A = some g) w W
  row : ∀ g, rowOf A' = some g → rowOf A = some g ∨ w.heap.size ≤ g

theorem pt_round {w wr w5 : World} {base q N k m c' c'' : Nat} {A A' A'' : Option Addr} {xs ys : List Int} {z : Int} (hi : PtInv w wr base q N k A xs ys A' c') (hq : q < w.heap.size) (hz : ys[k]? = some z)
    (ho : w5.ownsRow base 5 1 (.slice A'' m c'') m (B8 ((xs ++ ys.take k) ++ [z]))) (hm : m = (xs ++ ys.take (k + 1)).length) (hg : (wr.alloc (.cells #[.int .u8 z] 5)).drew.grownBy w5 (Value.slice A' (xs ++ ys.take k).length c').ownBlock)
    (hn : ∀ g, (Value.slice A'' m c'').ownBlock = some g → (Value.slice A' (xs ++ ys.take k).length c').ownBlock = some g ∨ (wr.alloc (.cells #[.int .u8 z] 5)).drew.heap.size ≤ g) :
    PtInv w (w5.setCell ⟨q, 1, none⟩ (.slice A'' m c'')) base q N (k + 1) A xs ys A'' c'' := by
  have e : xs ++ ys.take (k + 1) = (xs ++ ys.take k) ++ [z] := by rw [List.take_add_one, hz, List.append_assoc]; rfl
  rw [rowOf_eq] at hg
  rw [rowOf_eq, rowOf_eq] at hn
  have hsz := hi.keep.size
  have e1 : (wr.alloc (.cells #[.int .u8 z] 5)).drew.heap.size = wr.heap.size + 1 := by show (wr.alloc _).heap.size = _; simp
  have b5 : Below wr.heap.size wr (wr.alloc (.cells #[.int .u8 z] 5)).drew := ((Below.refl _ wr).alloc (Nat.le_refl _) _).drew
  have kg := keep_grown hg
  have hmod := hi.mod
  have hqrow : ¬ some q = rowOf A' := fun e => (hmod.rowLt e.symm).2.2 rfl
  have hh5 : Lies w5 q 41 #[.int .i64 (N : Int), .slice A' (xs ++ ys.take k).length c'] := (hmod.head.below b5 (by omega)).keep kg (by rw [e1]; omega) hqrow
  have ho' : w5.ownsRow base 5 1 (.slice A'' m c'') m (B8 (xs ++ ys.take (k + 1))) := by rw [e]; exact ho
  rw [hm] at ho' ⊢
  refine ⟨⟨?_, ho'.kept (grownBy_setCell1 w5 q _) (.inr fun e' => ?_)⟩, ?_, fun g eg => ?_⟩
  · exact hh5.set 1 _
  · have := own_ne (g := q) ho' hh5 (by decide); exact this e'.symm
  · refine (((hi.keep.trans (Keep.of_below (b5.mono hsz) _)).trans (kg.mono (by rw [e1]; omega) (fun g hgl eg => ?_)))).setCell (p := ⟨q, 1, none⟩) (.inr (.inl rfl)) _
    rcases hi.row g eg.symm with h | h
    · exact .inr h
    · omega
  · rcases hn g eg with h | h
    · exact hi.row g h
    · rw [e1] at h; exact .inr (by omega)

theorem PtInv.still {w W W' : World} {base q N k c' : Nat} {A A' : Option Addr} {xs ys : List Int} (h : PtInv w W base q N k A xs ys A' c') (hs : Still W W') : PtInv w W' base q N k A xs ys A' c' :=
  ⟨h.mod.later (hs.below _), h.keep.trans (Keep.of_below (hs.below _) _), h.row⟩

theorem lt_of_cell' {W : World} {a : Addr} {v : Value} (h : W.cell? a = some v) : a.block < W.heap.size := by
  rcases Nat.lt_or_ge a.block W.heap.size with h1 | h1
  · exact h1
  · simp [World.cell?, Array.getElem?_eq_none h1] at h

theorem pt_head {w W1 w5 : World} {base q N k c' n : Nat} {A A' : Option Addr} {xs ys : List Int} {z : Int} (hi : PtInv w W1 base q N k A xs ys A' c') (hq1 : q < W1.heap.size)
    (hg : (W1.alloc (.cells #[.int .u8 z] 5)).drew.grownBy w5 (Value.slice A' n c').ownBlock) (hn : (xs ++ ys.take k).length = n) : Lies w5 q 41 #[.int .i64 (N : Int), .slice A' (xs ++ ys.take k).length c'] := by
  have hmod := hi.mod
  rw [rowOf_eq] at hg
  have hqrow : ¬ some q = rowOf A' := fun e => (hmod.rowLt e.symm).2.2 rfl
  exact (hmod.head.below (((Below.refl _ W1).alloc (Nat.le_refl _) _).drew : Below W1.heap.size W1 (W1.alloc (.cells #[.int .u8 z] 5)).drew) hq1).keep (keep_grown hg) (by show q < (W1.alloc _).heap.size; simp; omega) hqrow

theorem step_append_eq {P : Program} {w w' : World} {ops : Array Oper} {o : Oper} {a : Act} {K : Act → World → Prop} {Q : Exit → Act → World → Prop} {E : Prop} {v u v' : Value} (hg : o.guard = none) (s x : Operand)
    (hop : o.op = Op.call { callee := Callee.builtin Builtin.append, args := #[s, x], argTypes := #[31, 31] }) (hty : o.type = 31) (hs : a.eval s = v) (hx : a.eval x = u)
    (hrun : (Builtin.append_ #[31, 31] 31 #[v, u]).run P w = .ok v' w') (h : K (a.put o.dst v') w') : if Region.wanted o (yielded ops a.tmps) = true then Oper.wp P o a w K Q else E := by
  have hw : Region.wanted o (yielded ops a.tmps) = true := by simp [Region.wanted, hg]
  rw [if_pos hw]
  unfold Oper.wp
  simp [execOp, hop, hty, resolve, invoke, builtin, hs, hx, hrun, Result.andThen]
  exact h

set_option maxHeartbeats 2000000 in
theorem mput_any {w : World} {base q N c : Nat} {A : Option Addr} {xs : List Int} (h : Mod w base q N A c xs) {ok : Nat → Prop} {B : Option Addr} {m cb : Nat} {ys : List Int} (hs : Src w ok B m cb ys) (hok : ∀ g, ok g → g < w.heap.size ∧ g ≠ q ∧ rowOf A ≠ some g)
    (hx : xs.length ≤ 4096) (hm : m ≤ 4096) (hN : N ≤ 4096) (hbase : base ≤ w.heap.size) :
    Calls Try.prog 13 #[.pointer (some ⟨q, 0, none⟩), .slice B m cb] w (MPuts base q N (min m (N - xs.length)) A xs ys w) := by
  have h0 : PtInv w w base q N 0 A xs ys A c := ⟨by simpa using h, Keep.refl _ _ _, fun g e => .inl e⟩
  have H0 := Lib.hid h0
  have hq := h.head.lt
  have HS := Lib.hid hs
  have HOK := Lib.hid hok
  obtain ⟨K, hK⟩ : ∃ K, K = min m (N - xs.length) := ⟨_, rfl⟩
  obtain ⟨L, hL⟩ : ∃ L, xs.length = L := ⟨_, rfl⟩
  rw [← hK]
  rw [hL] at hK hx
  have hK1 : K ≤ m := by omega
  have hK2 : ∀ k : Nat, k < K → k < m ∧ L + k < N := fun k hk => by omega
  have hK3 : K < m → N ≤ L + K := fun hk => by omega
  have HK2 := Lib.hid hK2
  have HK3 := Lib.hid hK3
  have HL := Lib.hid hL
  clear hK hK2 hK3 h0 h hs hok hL
  go_enter Try.func13, Try.ntmps13
  go_wp2
  go_loopw [5] (fun i wr => ∃ (k : Nat) (A' : Option Addr) (c' : Nat), k ≤ K ∧ i = .int .i64 k ∧ Hid (PtInv w wr base q N k A xs ys A' c')) (fun i _ => K - (intOf i).toNat)
  case atStart => exact ⟨0, A, c, Nat.zero_le _, rfl, H0.out⟩
  case round =>
    clear H0
    obtain ⟨k, A', c', hk, rfl, hinv⟩ := hrel
    have hlen : (xs ++ ys.take k).length = L + k := by rw [List.length_append, List.length_take, HL.out, HS.out.len]; omega
    have c0 : wr.cell? ⟨q, 0, none⟩ = some (.int .i64 (N : Int)) := hinv.out.mod.head.cell 0
    have c1 : wr.cell? ⟨q, 1, none⟩ = some (.slice A' (L + k) c') := by have := hinv.out.mod.head.cell 1; rw [hlen] at this; exact this
    have HLEN := Lib.hid hlen
    clear hlen
    by_cases hlt : k < K
    · obtain ⟨hn1, hn2⟩ := HK2.out k hlt
      obtain ⟨g, off, hAe, hokg, hc⟩ := HS.out.at_ (by rw [HS.out.len]; omega)
      subst hAe
      obtain ⟨z, hz⟩ : ∃ z, ys[k]? = some z := ⟨_, List.getElem?_eq_getElem (by rw [HS.out.len]; exact hn1)⟩
      have hgq := HOK.out g hokg
      have c2 : wr.cell? ⟨g, off + k, none⟩ = some (.int .u8 z) := (World.cell?_of_block (hinv.out.keep.block g hgq.1 (fun e => by rcases e with e | e; exact hgq.2.1 e; exact hgq.2.2 e))).trans (hc k z hz)
      have i1 : (k : Int) < (m : Int) := by omega
      have i2 : ((L : Int) + (k : Int)) < (N : Int) := by omega
      have HZ := Lib.hid hz
      clear hokg hc hgq hz
      go_wp2
      go_quiet (fail)
      have hI1 := hinv.out.still (W' := wr.drewN nq) ⟨nq, rfl⟩
      have d0 : (wr.drewN nq).cell? ⟨q, 1, none⟩ = some (.slice A' (L + k) c') := c1
      have d2 : (wr.drewN nq).cell? ⟨g, off + k, none⟩ = some (.int .u8 z) := c2
      clear hinv c0 c1 c2
      generalize wr.drewN nq = W1 at *
      have hrow1 := hI1.mod.row
      rw [HLEN.out] at hrow1
      have hq1 : q < W1.heap.size := hI1.mod.head.lt
      have hb1 : base ≤ W1.heap.size := by have := hI1.keep.size; omega
      obtain ⟨A5, c5, w5, happ, ho5, hg5, hn5⟩ := append_at (w := (W1.alloc (.cells #[.int .u8 z] 5)).drew) (own_kept hrow1 (Keep.of_below ((Below.refl _ W1).alloc (Nat.le_refl _) (.cells #[.int .u8 z] 5)).drew (fun _ => False)) (Nat.le_refl _) (fun _ _ hf => hf))
        ((src_lit (w := W1) (cs := [z]) (by simp)).keep (w' := (W1.alloc (.cells #[.int .u8 z] 5)).drew) (fun g _ => rfl)) (by simp; omega) (by show base ≤ (W1.alloc _).heap.size; simp; omega)
      have hI5 := pt_round (m := L + k + 1) hI1 hq HZ.out ho5 (by rw [List.length_append, List.length_take, HL.out, HS.out.len]; omega) (by rw [HLEN.out]; exact hg5) (by rw [HLEN.out]; exact hn5)
      have HAPP : Hid ((Builtin.append_ #[31, 31] 31 #[.slice A' (L + k) c', .slice (some ⟨W1.heap.size, 0, none⟩) 1 1]).run Try.prog (W1.alloc (.cells #[.int .u8 z] 5)).drew = .ok (.slice A5 (L + k + 1) c5) w5) := happ
      have hq5 : ∃ v, Lies w5 q 41 #[.int .i64 (N : Int), v] := ⟨_, pt_head hI1 hq1 hg5 HLEN.out⟩
      obtain ⟨vq, hvq⟩ := hq5
      have g1 : w5.cell? ⟨q, 1, none⟩ = some vq := hvq.cell 1
      have g2 := hvq.frozen 1
      have d0' : ((W1.alloc (.cells #[.int .u8 z] 5))).cell? ⟨q, 1, none⟩ = some (.slice A' (L + k) c') := (World.cell?_of_block (Below.heap_alloc _ _ _ hq1)).trans d0
      have d2' : ((W1.alloc (.cells #[.int .u8 z] 5))).cell? ⟨g, off + k, none⟩ = some (.int .u8 z) := (World.cell?_of_block (Below.heap_alloc _ _ _ (lt_of_cell' d2))).trans d2
      have HI5 := Lib.hid hI5
      clear hI5 hI1 hrow1 happ ho5 hg5 hn5 hvq
      go_wp2_with fail
      go_region_law (refine step_append_eq rfl (.tmp 26) (.tmp 31) rfl rfl rfl rfl HAPP.out ?_)
      all_goals clear g1 g2 d0 d2 d0' d2' HAPP
      all_goals
        go_wp2_with fail
        go_roundw
        case rel => exact ⟨k + 1, A5, c5, by omega, by go_num, HI5.out⟩
        case measure => simp [intOf]; omega
    · obtain rfl : k = K := by omega
      by_cases hkm : k < m
      · have hNL := HK3.out hkm
        have i1 : (k : Int) < (m : Int) := by omega
        have i2 : ¬ ((L : Int) + (k : Int)) < (N : Int) := by omega
        have HI := Lib.hid hinv.out
        clear hinv
        go_wp2
        go_quiet (fail)
        have hI1 := HI.out.still (W' := wr.drewN nq) ⟨nq, rfl⟩
        have HI1 := Lib.hid hI1
        clear hI1 HI c0 c1
        generalize wr.drewN nq = W1 at *
        go_wp2
        go_ret
        exact ⟨rfl, A', c', HI1.out.mod, HI1.out.keep, HI1.out.row⟩
      · have i1 : ¬ (k : Int) < (m : Int) := by omega
        have i2 : decide ((k : Int) < (m : Int)) = false := by simpa using i1
        have i3 : decide (k < m) = false := by simpa using hkm
        have HI := Lib.hid hinv.out
        clear hinv
        go_wp2
        go_quiet (fail)
        have hI1 := HI.out.still (W' := wr.drewN nq) ⟨nq, rfl⟩
        have HI1 := Lib.hid hI1
        clear hI1 HI c0 c1
        generalize wr.drewN nq = W1 at *
        go_wp2
        go_ret
        exact ⟨rfl, A', c', HI1.out.mod, HI1.out.keep, HI1.out.row⟩

/-! ### Skip and Take -/
set_option maxHeartbeats 400000 in
theorem mskip_no {w : World} {base q N c : Nat} {A : Option Addr} {xs : List Int} (h : Mod w base q N A c xs) (n : Int) (hn : n < 0 ∨ (xs.length : Int) < n) : Calls Try.prog 18 #[.pointer (some ⟨q, 0, none⟩), .int .i64 n] w fun e w' => e = .returned (.int .i64 2) ∧ w = w' := by
  have c1 : w.cell? ⟨q, 1, none⟩ = some (.slice A xs.length c) := h.head.cell 1
  clear h
  rcases hn with hn | hn
  · go_enter Try.func18, Try.ntmps18
    go_wp2
    go_ret
    exact ⟨rfl, rfl⟩
  · have hn' : ¬ n < 0 := by omega
    go_enter Try.func18, Try.ntmps18
    go_wp2
    go_ret
    exact ⟨rfl, rfl⟩

def MSkips (base q N k : Nat) (xs : List Int) (w : World) (e : Ending) (w' : World) : Prop :=
  e = .returned (.int .i64 0) ∧ ∃ A' c', Mod w' base q N A' c' (xs.drop k) ∧ Keep w.heap.size (fun g => g = q) w w' ∧ ∀ g, rowOf A' = some g → w.heap.size ≤ g

theorem mskip_of {w w1 : World} {base q N c k c' : Nat} {A A' : Option Addr} {xs : List Int} (h : Mod w base q N A c xs) (hbase : base ≤ w.heap.size) (hk : k ≤ xs.length)
    (ho : w1.ownsRow w.heap.size 5 1 (.slice A' (xs.length - k) c') (xs.length - k) (B8 (xs.drop k))) (hb : Below w.heap.size w w1) : MSkips base q N k xs w (.returned (.int .i64 0)) (w1.setCell ⟨q, 1, none⟩ (.slice A' (xs.length - k) c')) := by
  have hl : (xs.drop k).length = xs.length - k := by rw [List.length_drop]
  have hq := h.head.lt
  have hh := h.head.below hb hq
  have hge : ∀ g, rowOf A' = some g → w.heap.size ≤ g := fun g e => own_ge ho (by rw [rowOf_eq]; exact e)
  refine ⟨rfl, A', c', ⟨?_, ?_⟩, ((Keep.of_below hb (fun g => g = q))).setCell (p := ⟨q, 1, none⟩) (.inr rfl) _, hge⟩
  · rw [hl]; exact hh.set 1 _
  · rw [hl]
    have h2 := ho.kept (w' := w1.setCell ⟨q, 1, none⟩ (.slice A' (xs.length - k) c')) (row := some q) (grownBy_setCell1 w1 q _) (.inr fun e => by rw [rowOf_eq] at e; have := hge q e; omega)
    refine ⟨h2.1, ?_⟩
    rcases h2.2 with h3 | ⟨g, cap, cur, hv, hB, rest⟩
    · exact .inl h3
    · exact .inr ⟨g, cap, cur, hv, by omega, rest⟩

set_option maxHeartbeats 1000000 in
theorem mskip_yes {w : World} {base q N c : Nat} {A : Option Addr} {xs : List Int} (h : Mod w base q N A c xs) (hbase : base ≤ w.heap.size) (hx : xs.length ≤ 4096) (k : Nat) (hk : k ≤ xs.length) :
    Calls Try.prog 18 #[.pointer (some ⟨q, 0, none⟩), .int .i64 (k : Int)] w (MSkips base q N k xs w) := by
  have c1 : w.cell? ⟨q, 1, none⟩ = some (.slice A xs.length c) := h.head.cell 1
  have h1 : ¬ (k : Int) < 0 := by omega
  have h2 : ¬ (xs.length : Int) < (k : Int) := by omega
  obtain ⟨A', q1, q2⟩ := slice_from A xs.length c k hk h.src.cap
  have hc := copy_any (q2 w _ xs h.src) (by omega)
  have HC := Lib.hid hc
  have HM := Lib.hid h
  have hq := h.head.lt
  clear hc q2 h
  generalize hL : xs.length = L at *
  have HL := Lib.hid hL
  clear hL
  go_enter Try.func18, Try.ntmps18
  go_wp2_with fail
  refine HC.out.mono ?_
  rintro e w1 ⟨A5, c5, rfl, ho, hb⟩
  have hh := HM.out.head.below hb hq
  have g1 : w1.cell? ⟨q, 1, none⟩ = some (.slice A xs.length c) := hh.cell 1
  have g2 := hh.frozen 1
  have hfin := mskip_of (k := k) HM.out hbase (by rw [HL.out]; exact hk) (by rw [HL.out]; exact ho) hb
  rw [HL.out] at hfin
  have HF := Lib.hid hfin
  clear hfin ho hb hh HC
  go_wp2_with fail
  go_ret
  exact HF.out

def MTakes (base q N k : Nat) (xs : List Int) (w : World) (e : Ending) (w' : World) : Prop :=
  ∃ A c, e = .returned (.slice A k c) ∧ w'.ownsRow w.heap.size 5 1 (.slice A k c) k (B8 (xs.take k)) ∧ ∃ A' c', Mod w' base q N A' c' (xs.drop k) ∧ Keep w.heap.size (fun g => g = q) w w' ∧ ∀ g, rowOf A' = some g → w'.heap.size ≤ g ∨ (w.heap.size ≤ g ∧ rowOf A ≠ some g)

set_option maxHeartbeats 1000000 in
theorem mtake_any {w : World} {base q N c : Nat} {A : Option Addr} {xs : List Int} (h : Mod w base q N A c xs) (hbase : base ≤ w.heap.size) (hx : xs.length ≤ 4096) (n : Int) :
    Calls Try.prog 16 #[.pointer (some ⟨q, 0, none⟩), .int .i64 n] w (MTakes base q N (kOf xs.length n) xs w) := by
  have hp := Lib.hid (mpeek_any h n hx)
  have hk := kOf_le xs.length n
  have HM := Lib.hid h
  have hq := h.head.lt
  clear h
  generalize kOf xs.length n = k at *
  go_enter Try.func16, Try.ntmps16
  go_wp2_with fail
  refine hp.out.mono ?_
  rintro e w1 ⟨A1, c1, rfl, ho, hb⟩
  have hm1 := HM.out.later hb
  have hz := hb.size
  have HS := Lib.hid (mskip_yes hm1 (by omega) hx k hk)
  have HO := Lib.hid ho
  have HB := Lib.hid hb
  clear hm1 ho hb hp
  go_wp2_with fail
  refine HS.out.mono ?_
  rintro e w2 ⟨rfl, A5, c5, hm5, hk5, hr5⟩
  have HM5 := Lib.hid hm5
  have HK5 := Lib.hid hk5
  have HR5 := Lib.hid hr5
  clear hm5 hk5 hr5 HS
  go_wp2_with fail
  go_ret
  refine ⟨A1, c1, rfl, own_kept HO.out HK5.out (Nat.le_refl _) (fun g e hf => ?_), A5, c5, HM5.out, ?_, fun g e => .inr ⟨by have := HR5.out g e; omega, fun e' => ?_⟩⟩
  · have := own_ge HO.out e; omega
  · exact (Keep.of_below HB.out _).trans (HK5.out.mono hz (fun _ _ e => e))
  · rw [← rowOf_eq A1 k c1] at e'
    have h1 := own_lt HO.out e'
    have h2 := HR5.out g e
    omega

end Go.Proofs.Ythagggclhahikaa.model
