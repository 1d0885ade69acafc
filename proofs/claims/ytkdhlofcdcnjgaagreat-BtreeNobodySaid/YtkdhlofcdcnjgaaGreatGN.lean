/- Contracts of package bitmap, and of its reference: Empty, Count. Contracts of package bitmap, and of its reference: Lowest; the chapter's examples. Slices of numbers that the call itself makes; the numbers of a set. Contracts: Each and its closure, the law's closure, each; the reference's All; ints. Contracts: each, the reference's All, ints. -/
import Derived.Test.YtkdhlofcdcnjgaaGreatGM
import Derived.RangeFuncBox
import Derived.OwnWalk
import Derived.Deep.AppendLies
import Derived.Laws.EntriesVeiled
namespace Go.Proofs.YtkdhlofcdcnjgaaGreat
set_option maxRecDepth 100000
open Go.ChangeShapes Go.WideShapes Go.ChangeAt Go.RowKit Go.PlainAid

/-- So many bytes 0. -/
def zeroS (m : Nat) : ByteArray := strOfNums (List.replicate m 0)
/-- The bytes that so many numbers need. -/
def emptyZ (n : Int) : Nat := if n < 1 then 0 else ((n - 1) / 8 + 1).toNat
theorem zero_size (m : Nat) : (zeroS m).size = m := by unfold zeroS; rw [strOfNums_size]; simp
theorem zero_bt (m k : Nat) : bt (zeroS m) k = 0 := by
  by_cases h : k < m
  · have e : (List.replicate m (0 : Int)).getD k 0 = 0 := by simp [List.getD_eq_getElem?_getD, h]
    unfold zeroS
    rw [bt_strOfNums _ k (by rw [e]; omega) (by rw [e]; omega), e]
  · exact bt_end _ (by rw [zero_size]; omega)
theorem rep_zero : ∀ c, (Lib.repeatL (⟨#[0]⟩ : ByteArray).data.toList c) = List.replicate c 0
  | 0 => rfl
  | c + 1 => by
    rw [Lib.repeatL, rep_zero c]
    rfl
theorem rep_eq (c : Nat) : (⟨(Lib.repeatL (⟨#[0]⟩ : ByteArray).data.toList c).toArray⟩ : ByteArray) = zeroS c := by
  rw [rep_zero]
  apply ByteArray.ext
  apply Array.ext'
  unfold zeroS
  rw [strOfNums_data]
  simp
theorem hv_zero : ∀ k, hv 0 k = 0
  | 0 => rfl
  | k + 1 => by rw [hv, hv_zero k]; rfl
theorem has_zero (m : Nat) (i : Int) : hasB (zeroS m) i = false := by
  unfold hasB
  rw [zero_bt]
  unfold bitBM
  rw [hv_zero]
  exact Bool.and_false _

set_option maxHeartbeats 400000 in
theorem empty_any (n : Int) (w : World) (b : -9223372036854775808 ≤ n) (c : n ≤ 100000) :
    Calls Tryz.prog 56 #[.int .i64 n] w fun e w' => e = .returned (.string (zeroS (emptyZ n))) ∧ Below w.heap.size w w' := by
  by_cases h : n < 1
  · have HZ := Lib.hid (show zeroS (emptyZ n) = ⟨#[]⟩ by unfold emptyZ; rw [if_pos h]; rfl)
    go_enter Tryz.func56, Tryz.ntmps56
    go_wp2
    go_returns
    exact ⟨by rw [HZ.out]; rfl, Below.refl _ _⟩
  · obtain ⟨m, hm⟩ : ∃ m : Nat, (n - 1) / 8 + 1 = m := ⟨((n - 1) / 8 + 1).toNat, by omega⟩
    have hm2 : m ≤ 20000 := by omega
    have HZ := Lib.hid (show zeroS (emptyZ n) = ⟨(Lib.repeatL (⟨#[0]⟩ : ByteArray).data.toList m).toArray⟩ by rw [rep_eq]; unfold emptyZ; rw [if_neg h, hm]; rfl)
    have HC := Lib.hid fun w => sh_strings_Repeat ⟨#[0]⟩ m w (by omega) (by show 1 * m ≤ _; omega)
    go_enter Tryz.func56, Tryz.ntmps56
    go_wp2_with fail
    refine (HC.out _).mono ?_
    rintro e w1 ⟨rfl, hb⟩
    go_wp2
    go_returns
    exact ⟨by rw [HZ.out]; rfl, hb⟩
theorem zero_range (m : Nat) : zeroS m = strOfNums ((List.range m).map fun _ => 0) := by
  unfold zeroS
  congr 1
  apply List.ext_getElem <;> simp
theorem infoBM : (Tryz.prog.info? 5).map (fun i => (i.zero, i.size, i.bytes)) = some (some (.int .u8 0), 1, 1) := by kernel_rfl
/-- The numbers in the first bytes of a set. -/
def cnt (s : ByteArray) : Nat → Nat | 0 => 0 | k + 1 => cnt s k + Lib.onesCount (bt s k).toNat
theorem ones_le (s : ByteArray) (k : Nat) : Lib.onesCount (bt s k).toNat ≤ 8 := by
  obtain ⟨z, hz⟩ := byte_fin (bt_nonneg s k) (bt_le s k)
  rw [hz]
  exact Lib.onesCount_le8 z
theorem cnt_le (s : ByteArray) : ∀ k, cnt s k ≤ 8 * k
  | 0 => Nat.le_refl _
  | k + 1 => by
    have := cnt_le s k
    have := ones_le s k
    simp only [cnt]
    omega
theorem cnt_zero (m : Nat) : ∀ k, cnt (zeroS m) k = 0
  | 0 => rfl
  | k + 1 => by
    rw [cnt, cnt_zero m k, zero_bt]
    rfl
end Go.Proofs.YtkdhlofcdcnjgaaGreat
namespace Go.Proofs.YtkdhlofcdcnjgaaGreat
set_option maxRecDepth 100000
open Go.ChangeShapes Go.WideShapes Go.ChangeAt Go.RowKit Go.PlainAid

theorem Drawn.below {B : Nat} {w w' : World} (h : Drawn w w') : Below B w w' := by
  obtain ⟨n, rfl⟩ := h
  exact ⟨rfl, rfl, rfl, Nat.le_refl _, fun _ _ => rfl⟩
/-- A number that Lowest looks for. -/
def LowP (s : ByteArray) (f t : Int) (l : Int) : Prop := f ≤ l ∧ 0 ≤ l ∧ l < t ∧ l / 8 < s.size ∧ hasB s l = false
def Least (s : ByteArray) (f t : Int) (v : Int) : Prop := LowP s f t v ∧ ∀ l, l < v → ¬ LowP s f t l
open Classical in
/-- The least one. -/
noncomputable def lowZ (s : ByteArray) (f t : Int) : Int := if h : ∃ v, Least s f t v then Classical.choose h else 0
open Classical in
/-- Is there one? -/
noncomputable def lowB (s : ByteArray) (f t : Int) : Bool := if ∃ v, Least s f t v then true else false
theorem low_yes {s : ByteArray} {f t v : Int} (h : LowP s f t v) (h2 : ∀ l, l < v → ¬ LowP s f t l) : lowZ s f t = v ∧ lowB s f t = true := by
  have he : ∃ v, Least s f t v := ⟨v, h, h2⟩
  unfold lowZ lowB
  rw [dif_pos he, if_pos he]
  have hc := Classical.choose_spec he
  refine ⟨?_, rfl⟩
  rcases Int.lt_trichotomy (Classical.choose he) v with hx | hx | hx
  · exact absurd hc.1 (h2 _ hx)
  · exact hx
  · exact absurd h (hc.2 _ hx)
theorem low_no {s : ByteArray} {f t : Int} (h : ∀ l, ¬ LowP s f t l) : lowZ s f t = 0 ∧ lowB s f t = false := by
  have he : ¬ ∃ v, Least s f t v := fun ⟨v, hv, _⟩ => h v hv
  unfold lowZ lowB
  rw [dif_neg he, if_neg he]
  exact ⟨rfl, rfl⟩

set_option maxHeartbeats 1000000 in
theorem lowest_any (s : ByteArray) (f t : Int) (w : World) (hs : s.size ≤ 140737488351232) (b : -9223372036854775808 ≤ f) (c : f ≤ 9223372036854775807) (_b2 : -9223372036854775808 ≤ t) (_c2 : t ≤ 9223372036854775807) :
    Calls Tryz.prog 104 #[.string s, .int .i64 f, .int .i64 t] w fun e w' => e = .returned (.tuple #[.int .i64 (lowZ s f t), .bool (lowB s f t)]) ∧ Below w.heap.size w w' := by
  obtain ⟨E, hE, hE1, hE2⟩ : ∃ E : Int, min t ((s.size : Int) * 8) = E ∧ E ≤ t ∧ E ≤ (s.size : Int) * 8 := ⟨_, rfl, Int.min_le_left _ _, Int.min_le_right _ _⟩
  obtain ⟨S, hS⟩ : ∃ S : Int, max f 0 = S := ⟨_, rfl⟩
  go_enter Tryz.func104, Tryz.ntmps104
  go_wp2
  have HE := Lib.hid (show ∀ l : Int, 0 ≤ l → (l < E ↔ (l < t ∧ l / 8 < s.size)) from fun l hl => by rw [← hE]; omega)
  have HS := Lib.hid (show f ≤ S ∧ 0 ≤ S ∧ (S = f ∨ S = 0) by rw [← hS]; omega)
  have HN := Lib.hid (show (∀ l, ¬ LowP s f t l) → lowZ s f t = 0 ∧ lowB s f t = false from low_no)
  have HY := Lib.hid (show ∀ v, LowP s f t v → (∀ l, l < v → ¬ LowP s f t l) → lowZ s f t = v ∧ lowB s f t = true from fun v => low_yes)
  clear hE hS
  go_loopw [9] (fun x wx => ∃ i : Int, S ≤ i ∧ x = .int .i64 i ∧ (∀ l, l < i → ¬ LowP s f t l) ∧ Below w.heap.size w wx) (fun x _ => (E - intOf x).toNat)
  case atStart =>
    refine ⟨S, Int.le_refl _, rfl, fun l hl h => ?_, Below.refl _ _⟩
    have h1 := h.1
    have h2 := h.2.1
    have := HS.out
    omega
  case round =>
    obtain ⟨i, hi, rfl, hno, hbx⟩ := hrel
    have HNO := Lib.hid hno
    clear hno
    have h0 : 0 ≤ i := by have := HS.out; omega
    by_cases hlt : i < E
    · have HA := Lib.hid fun w => has_any s i w hs (by omega) (by omega)
      go_wp2_with fail
      refine (HA.out _).mono ?_
      rintro e w1 ⟨rfl, hd⟩
      cases hh : hasB s i
      · go_wp2
        go_returns
        have hy := HY.out i ⟨by have := HS.out; omega, h0, ((HE.out i h0).1 hlt).1, ((HE.out i h0).1 hlt).2, hh⟩ HNO.out
        exact ⟨by rw [hy.1, hy.2]; rfl, hbx.on hd.below⟩
      · go_wp2
        go_roundw
        case rel =>
          refine ⟨i + 1, by omega, rfl, fun l hl h => ?_, hbx.on hd.below⟩
          by_cases e : l = i
          · subst e
            have := h.2.2.2.2
            rw [hh] at this
            cases this
          · exact HNO.out l (by omega) h
        case measure => simp [intOf]; omega
    · go_wp2
      go_returns
      have hn := HN.out fun l h => by
        by_cases e : l < i
        · exact HNO.out l e h
        · have := (HE.out l h.2.1).2 ⟨h.2.2.1, h.2.2.2.1⟩
          omega
      exact ⟨by rw [hn.1, hn.2]; rfl, hbx⟩
theorem ex_empty : zeroS (emptyZ 9) = ⟨#[0, 0]⟩ := by kernel_rfl
theorem ex_with : withS ⟨#[0, 0]⟩ 3 true = ⟨#[8, 0]⟩ := by kernel_rfl
theorem ex_room : roomB ⟨#[0, 0]⟩ 3 = true := by kernel_rfl
theorem ex_low : lowZ ⟨#[8, 0]⟩ 3 9 = 4 ∧ lowB ⟨#[8, 0]⟩ 3 9 = true := by
  have h3 : hasB ⟨#[8, 0]⟩ 3 = true := by kernel_rfl
  have h4 : hasB ⟨#[8, 0]⟩ 4 = false := by kernel_rfl
  refine low_yes ⟨by omega, by omega, by omega, ?_, h4⟩ fun l hl h => ?_
  · show (4 : Int) / 8 < ((2 : Nat) : Int)
    omega
  · have h1 := h.1
    obtain rfl : l = 3 := by omega
    have := h.2.2.2.2
    rw [h3] at this
    cases this
theorem ex_cnt : cnt ⟨#[8, 0]⟩ (⟨#[8, 0]⟩ : ByteArray).size = 1 := by kernel_rfl
end Go.Proofs.YtkdhlofcdcnjgaaGreat
namespace Go.Proofs.YtkdhlofcdcnjgaaGreat
set_option maxRecDepth 100000
open Go.ChangeShapes Go.WideShapes Go.ChangeAt Go.RowKit Go.PlainAid

theorem heap_inM {w : World} {k : Nat} {o : Obj} (h : w.heap[k]? = some o) : k < w.heap.size := (Array.getElem?_eq_some_iff.1 h).1
theorem ownsRow_onM {w w' : World} {base : Nat} {e : TypeId} {size : Nat} {v : Value} {n : Nat} {xs : List Value} (h : w.ownsRow base e size v n xs) (b : Below w.heap.size w w') : w'.ownsRow base e size v n xs := by
  obtain ⟨h1, h2⟩ := h
  refine ⟨h1, ?_⟩
  rcases h2 with h2 | ⟨g, cap, cur, hv, hb, hg, h3⟩
  · exact .inl h2
  · exact .inr ⟨g, cap, cur, hv, hb, (b.block g (heap_inM hg)).trans hg, h3⟩
theorem ownsRow_base {w : World} {base base' : Nat} {e : TypeId} {size : Nat} {v : Value} {n : Nat} {xs : List Value} (h : w.ownsRow base e size v n xs) (b : base' ≤ base) : w.ownsRow base' e size v n xs := by
  obtain ⟨h1, h2⟩ := h
  refine ⟨h1, ?_⟩
  rcases h2 with h2 | ⟨g, cap, cur, hv, hb, h3⟩
  · exact .inl h2
  · exact .inr ⟨g, cap, cur, hv, Nat.le_trans b hb, h3⟩
theorem info_intM : (Tryz.prog.info? 3).map (fun i => (i.zero, i.size, i.bytes)) = some (some (.int .i64 0), 1, 8) := by kernel_rfl
/-- An append to a slice of numbers, as one action. -/
def appIM (vs : Array Value) : Sem Value := Builtin.append_ #[41, 41] 41 vs
theorem app_intM (vs : Array Value) : Builtin.append_ #[41, 41] 41 vs = appIM vs := rfl
/-- A slice of the call's own with these numbers. -/
def IntsIn (n₀ : Nat) (W : World) (v : Value) (L : List Int) : Prop := W.ownsRow n₀ 3 1 v L.length (L.map (Value.int .i64))
/-- One number more. -/
theorem row_pushM {n₀ : Nat} {W : World} {L : List Int} {v : Value} (hrow : IntsIn n₀ W v L) (hn : n₀ ≤ W.heap.size) (hlen : L.length ≤ 1048576) (x : Int) (m : Nat) (hm : L.length = m) :
    ∃ g cap w2, (appIM #[v, .slice (some ⟨W.heap.size, 0, none⟩) 1 1]).run Tryz.prog (W.alloc (.cells #[.int .i64 x] 3)) = .ok (.slice (some ⟨g, 0, none⟩) (m + 1) cap) w2 ∧
      IntsIn n₀ w2 (.slice (some ⟨g, 0, none⟩) (m + 1) cap) (L ++ [x]) ∧ (W.alloc (.cells #[.int .i64 x] 3)).grownBy w2 v.ownBlock ∧ Below n₀ W w2 := by
  subst hm
  obtain ⟨i0, hi, hz0, hz1, hz2⟩ := info_parts info_intM
  have hq := heap_alloc_new W (.cells #[.int .i64 x] 3)
  have hba : Below W.heap.size W (W.alloc (.cells #[.int .i64 x] 3)) := by go_grown
  obtain ⟨g, cap, w2, hr, h2, h3, _, _⟩ := run_append_lies (P := Tryz.prog) (w := W.alloc (.cells #[.int .i64 x] 3)) 41 41 n₀ 3 i0 (.int .i64 0) 1 8 Tryz.underlying41 hi hz0 hz1 hz2 rfl (by decide) v L.length (L.map (Value.int .i64)) (ownsRow_onM hrow hba) ⟨W.heap.size, 0, none⟩ 1 1 [.int .i64 x] rfl
    (fun j u hu => by
      rcases j with _ | j
      · have : Value.int .i64 x = u := by simpa using hu
        rw [← this]
        show (W.alloc (.cells #[.int .i64 x] 3)).cell? ⟨W.heap.size, 0, none⟩ = _
        rw [cell_of_row _ _ _ _ _ _ hq]
        rfl
      · simp at hu) (fun u hu => by have : u = .int .i64 x := by simpa using hu
                                    rw [this]; rfl) (by decide) (by unfold maxLen; omega) (by omega) (by rw [World.size_alloc]; omega) _ rfl
  refine ⟨g, cap, w2, hr, ?_, h3, (hba.mono hn).grown h3 (by rw [World.size_alloc]; omega) (fun k e => (hrow.lt k e).1)⟩
  unfold IntsIn
  rw [List.length_append, List.map_append]
  exact h2
/-- What the law's closure holds: the numbers so far in one box, their bound in another; a set beside them. -/
structure EachAt (n₀ bl bm bs : Nat) (m : Int) (s : ByteArray) (L : List Int) (W : World) : Prop where
  row : ∃ v, Boxed W bl 41 v ∧ IntsIn n₀ W v L
  most : Boxed W bm 3 (.int .i64 m)
  set : Boxed W bs 9 (.string s)
theorem EachAt.on {n₀ bl bm bs : Nat} {m : Int} {s : ByteArray} {L : List Int} {W W' : World} (h : EachAt n₀ bl bm bs m s L W) (k : Below W.heap.size W W') : EachAt n₀ bl bm bs m s L W' := by
  obtain ⟨⟨v, h1, h2⟩, h3, h4⟩ := h
  exact ⟨⟨v, (k.block bl h1.lt).trans h1, ownsRow_onM h2 k⟩, (k.block bm h3.lt).trans h3, (k.block bs h4.lt).trans h4⟩
theorem each_push {n₀ bl bm bs : Nat} {W : World} {m : Int} {s : ByteArray} {L : List Int} {v : Value} (hv : Boxed W bl 41 v) (hrow : IntsIn n₀ W v L) (hm : Boxed W bm 3 (.int .i64 m)) (hs : Boxed W bs 9 (.string s)) (hn : n₀ ≤ W.heap.size) (hbl : n₀ ≤ bl) (hbm : bm < n₀) (hlen : L.length ≤ 1048576) (x : Int) (k : Nat) (hk : L.length = k) :
    ∃ g cap w2, (appIM #[v, .slice (some ⟨W.heap.size, 0, none⟩) 1 1]).run Tryz.prog (W.alloc (.cells #[.int .i64 x] 3)) = .ok (.slice (some ⟨g, 0, none⟩) (k + 1) cap) w2 ∧
      w2.cell? ⟨bl, 0, none⟩ = some v ∧ w2.frozen? ⟨bl, 0, none⟩ = false ∧ (w2.setCell ⟨bl, 0, none⟩ (.slice (some ⟨g, 0, none⟩) (k + 1) cap)).cell? ⟨bm, 0, none⟩ = some (.int .i64 m) ∧
      EachAt n₀ bl bm bs m s (L ++ [x]) (w2.setCell ⟨bl, 0, none⟩ (.slice (some ⟨g, 0, none⟩) (k + 1) cap)) ∧
      Below n₀ W (w2.setCell ⟨bl, 0, none⟩ (.slice (some ⟨g, 0, none⟩) (k + 1) cap)) := by
  obtain ⟨g, cap, w2, hr, h2, h3, hb⟩ := row_pushM hrow hn hlen x k hk
  subst hk
  obtain ⟨a1, a2, a3, a4, a5⟩ := hv.appended (e := 3) (by decide) hrow hn hbl h2 h3
  have hmm : Boxed (w2.setCell ⟨bl, 0, none⟩ (.slice (some ⟨g, 0, none⟩) (L.length + 1) cap)) bm 3 (.int .i64 m) := (a5.block bm hbm).trans hm
  refine ⟨g, cap, w2, hr, a1.cell, a1.frozen, hmm.cell, ⟨⟨_, a2, a3⟩, hmm, ?_⟩, a5⟩
  have hne : bs ≠ bl := fun e => by
    subst e
    have := (show W.heap[bs]? = _ from hs).symm.trans hv
    cases this
  show (w2.setCell _ _).heap[bs]? = _
  rw [heap_setCell_other _ _ _ _ hne]
  have e1 : (W.alloc (.cells #[.int .i64 x] 3)).heap[bs]? = some (.cells #[.string s] 9 (0, 0)) := (Below.heap_alloc W _ bs hs.lt).trans hs
  refine (h3.block bs (heap_inM e1) (fun e => ?_)).trans e1
  rcases hrow.2 with ⟨rfl, _⟩ | ⟨g', cap', cur, rfl, _, hg', _⟩
  · simp [Value.ownBlock] at e
  · have e' : bs = g' := (Option.some.inj (by simpa [Value.ownBlock] using e.symm)).symm
    rw [← e'] at hg'
    have := (show W.heap[bs]? = _ from hs).symm.trans hg'
    cases this

/-- The bits of a byte that are set. -/
def byteL (c : Int) : List Nat := (List.range 8).filter (bitBM c)
/-- The numbers in the first bytes of a set, rising. -/
def nums (s : ByteArray) : Nat → List Int | 0 => [] | k + 1 => nums s k ++ (byteL (bt s k)).map fun b : Nat => (k : Int) * 8 + (b : Int)
theorem byteL_zero : byteL 0 = [] := by decide +kernel
theorem byteL_step : ∀ z : Fin 256, z.val ≠ 0 → byteL z.val = Lib.trailingZeros8 z.val :: byteL (bits .and .u8 (z.val : Int) ((z.val : Int) - 1)) ∧ 0 ≤ bits .and .u8 (z.val : Int) ((z.val : Int) - 1) ∧ bits .and .u8 (z.val : Int) ((z.val : Int) - 1) < (z.val : Int) := by decide +kernel
theorem byteL_ones : ∀ z : Fin 256, (byteL z.val).length = Lib.onesCount z.val := by decide +kernel
theorem nums_len (s : ByteArray) : ∀ k, (nums s k).length = cnt s k
  | 0 => rfl
  | k + 1 => by
    obtain ⟨z, hz⟩ := byte_fin (bt_nonneg s k) (bt_le s k)
    rw [nums, cnt, List.length_append, List.length_map, nums_len s k, hz, byteL_ones z]
    rfl
/-- The numbers of the bits below k of a byte. -/
def lowL (c : Int) (k : Nat) : List Nat := (List.range k).filter (bitBM c)
theorem lowL_succ (c : Int) (k : Nat) : lowL c (k + 1) = if bitBM c k then lowL c k ++ [k] else lowL c k := by
  unfold lowL
  rw [List.range_succ, List.filter_append]
  by_cases h : bitBM c k <;> simp [h]
theorem nums_part {s : ByteArray} {k n : Nat} (h : k ≤ n) : nums s k <+: nums s n := by
  induction n with
  | zero => obtain rfl : k = 0 := by omega
            exact List.prefix_refl _
  | succ n ih =>
    by_cases e : k = n + 1
    · subst e; exact List.prefix_refl _
    · exact (ih (by omega)).trans ⟨_, rfl⟩
end Go.Proofs.YtkdhlofcdcnjgaaGreat
namespace Go.Proofs.YtkdhlofcdcnjgaaGreat
set_option maxRecDepth 100000
open Go.ChangeShapes Go.WideShapes Go.ChangeAt Go.RowKit Go.PlainAid
attribute [local go_sem ↓ high] app_intM

theorem eq_yield (fn : Fn) (a b : Array Value) (w : World) : (binOp .eql 128 (.func fn a b) .nilFunc).run Tryz.prog w = .ok (.bool false) w := by kernel_rfl
theorem eq_seq (fn : Fn) (a b : Array Value) (w : World) : (binOp .eql 123 (.func fn a b) .nilFunc).run Tryz.prog w = .ok (.bool false) w := by kernel_rfl
theorem make_funcM (fn : Fn) (a b : Array Value) (w : World) : (Instr.makeFunc fn a b).run Tryz.prog w = .ok (.func fn a b) w := rfl
end Go.Proofs.YtkdhlofcdcnjgaaGreat
namespace Go.Proofs.YtkdhlofcdcnjgaaGreat
set_option maxRecDepth 100000
open Go.ChangeShapes Go.WideShapes Go.ChangeAt Go.RowKit Go.PlainAid
attribute [local go_sem ↓ high] app_intM

/-- A call gives a slice of its own with these numbers. -/
def Gives (L : List Int) (w : World) (e : Ending) (w' : World) : Prop := ∃ v, e = .returned v ∧ IntsIn w.heap.size w' v L ∧ Below w.heap.size w w'
theorem mk_each (s : ByteArray) (w : World) :
    Calls Tryz.prog 65 #[.string s] w fun e w' => e = .returned (.func (.func 112) #[] #[.pointer (some ⟨w.heap.size, 0, none⟩)]) ∧ w.alloc (.cells #[.string s] 9) = w' := by
  have hmf := make_funcM
  go_enter Tryz.func65, Tryz.ntmps65
  go_wp2
  go_returns
  exact ⟨rfl, rfl⟩
/-- Two slices of the same numbers. -/
def Alike (p q : Option Addr) (L : List Int) (w : World) : Prop := L = [] ∨ ∃ ga gb, p = some ⟨ga, 0, none⟩ ∧ q = some ⟨gb, 0, none⟩ ∧
  (∀ j, j < L.length → w.cell? ⟨ga, j, none⟩ = some (.int .i64 (L.getD j 0))) ∧ (∀ j, j < L.length → w.cell? ⟨gb, j, none⟩ = some (.int .i64 (L.getD j 0)))
end Go.Proofs.YtkdhlofcdcnjgaaGreat
