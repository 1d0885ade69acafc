/- Contracts of the small functions of package bits and of its reference: Fold, Unfold. Plain facts of numbers in groups of seven bits: what is written is read, whatever stands behind it, and what is read is how it is written; numbers folded, and unfolded. Contracts of strings.Builder's methods in this dump. -/
import Derived.Test.YtppjmmdiglnkfaaRows
import Derived.Test.YtppjmmdiglnkfaaQaa
import Derived.Test.YtppjmmdiglnkfaaQah
import Derived.Shelf.Strings.BuilderK
namespace Go.Proofs.Ytppjmmdiglnkfaa
open Go.ChangeShapes Go.WideShapes Go.ChangeAt Go.RowKit Go.PlainAid

/-- Near numbers of either sign as small ones without a sign. -/
def foldZ (n : Int) : Int := if n < 0 then -2 * n - 1 else 2 * n
/-- What foldZ was made of. -/
def unfoldZ (u : Int) : Int := if u % 2 = 0 then u / 2 else -1 - u / 2
theorem foldZ_neg {n : Int} (h : n < 0) : foldZ n = -2 * n - 1 := if_pos h
theorem foldZ_pos {n : Int} (h : 0 ≤ n) : foldZ n = 2 * n := if_neg (by omega)
theorem unfoldZ_even {u : Int} (h : u % 2 = 0) : unfoldZ u = u / 2 := if_pos h
theorem unfoldZ_odd {u : Int} (h : u % 2 = 1) : unfoldZ u = -1 - u / 2 := if_neg (by omega)
set_option maxHeartbeats 400000 in
theorem fold_any (n : Int) (w : World) (h1 : -9223372036854775808 ≤ n) (h2 : n ≤ 9223372036854775807) :
    Calls Try.prog 66 #[.int .i64 n] w fun e w' => e = .returned (.int .u64 (foldZ n)) ∧ w = w' := by
  rcases Int.lt_or_le n 0 with c | c
  · have hf := Lib.hid (foldZ_neg c)
    go_enter Try.func66, Try.ntmps66
    go_wp2
    go_returns
    refine ⟨ret_i ?_, rfl⟩
    rw [hf.out, u64_not _ (by rw [IntKind.wrap_u64]; omega) (by rw [IntKind.wrap_u64]; omega)]
    simp only [IntKind.wrap_u64]; omega
  · have hf := Lib.hid (foldZ_pos c)
    go_enter Try.func66, Try.ntmps66
    go_wp2
    go_returns
    exact ⟨ret_i (by rw [hf.out]; omega), rfl⟩
set_option maxHeartbeats 400000 in
theorem rfold_any (n : Int) (w : World) (h1 : -9223372036854775808 ≤ n) (h2 : n ≤ 9223372036854775807) :
    Calls Try.prog 82 #[.int .i64 n] w fun e w' => e = .returned (.int .u64 (foldZ n)) ∧ w = w' := by
  rcases Int.lt_or_le n 0 with c | c
  · have hf := Lib.hid (foldZ_neg c)
    go_enter Try.func82, Try.ntmps82
    go_wp2
    go_returns
    exact ⟨ret_i (by rw [hf.out]; omega), rfl⟩
  · have hf := Lib.hid (foldZ_pos c)
    go_enter Try.func82, Try.ntmps82
    go_wp2
    go_returns
    exact ⟨ret_i (by rw [hf.out]), rfl⟩
set_option maxHeartbeats 400000 in
theorem unfold_any (u : Int) (w : World) (h0 : 0 ≤ u) (h1 : u ≤ 18446744073709551615) :
    Calls Try.prog 91 #[.int .u64 u] w fun e w' => e = .returned (.int .i64 (unfoldZ u)) ∧ w = w' := by
  have hl := u64_low u h0 h1
  rcases Int.emod_two_eq u with c | c
  · have hf := Lib.hid (unfoldZ_even c)
    rw [c] at hl
    clear c
    go_enter Try.func91, Try.ntmps91
    go_wp2
    go_returns
    exact ⟨ret_i (by rw [hf.out]), rfl⟩
  · have hf := Lib.hid (unfoldZ_odd c)
    rw [c] at hl
    clear c
    go_enter Try.func91, Try.ntmps91
    go_wp2
    go_returns
    obtain ⟨a, ha⟩ := Int.eq_ofNat_of_zero_le (show 0 ≤ u / 2 by omega)
    exact ⟨ret_i (by rw [hf.out, ha, i64_not a (by omega)]), rfl⟩
end Go.Proofs.Ytppjmmdiglnkfaa
namespace Go.Proofs.Ytppjmmdiglnkfaa
set_option maxRecDepth 100000
open Go.ChangeShapes Go.WideShapes Go.ChangeAt Go.RowKit Go.PlainAid

theorem varL_shape : ∀ (k n : Nat), n < 128 ^ (k + 1) → (∀ i, i + 1 < (varL n).length → 128 ≤ (varL n).getD i 0) ∧ (varL n).getD ((varL n).length - 1) 0 < 128
  | 0, n, h => by
    rw [varL_lt (by omega)]
    refine ⟨fun i hi => ?_, ?_⟩
    · simp at hi
    · show (n : Int) < 128
      omega
  | k + 1, n, h => by
    by_cases c : n < 128
    · rw [varL_lt c]
      refine ⟨fun i hi => ?_, ?_⟩
      · simp at hi
      · show (n : Int) < 128
        omega
    · have ih := varL_shape k (n / 128) (by rw [Nat.pow_succ] at h; omega)
      have hp := varL_pos (n / 128)
      rw [varL_ge (by omega)]
      generalize varL (n / 128) = L at *
      refine ⟨fun i hi => ?_, ?_⟩
      · cases i with
        | zero => simp; omega
        | succ i =>
          have := ih.1 i (by simpa using hi)
          simpa using this
      · cases L with
        | nil => simp at hp
        | cons y r => simpa using ih.2
theorem bt_front (xs : List Int) (t : ByteArray) (i : Nat) (hi : i < xs.length) (hx : ∀ x ∈ xs, 0 ≤ x ∧ x < 256) : bt (strOfNums xs ++ t) i = xs.getD i 0 := by
  have hm := hx xs[i] (List.getElem_mem hi)
  rw [bt_list]
  have e : (strOfNums xs ++ t).data.toList = (xs.map fun n => UInt8.ofNat n.toNat) ++ t.data.toList := by
    rw [ByteArray.data_append, Array.toList_append, strOfNums_data]
  rw [e]
  simp only [List.getD_eq_getElem?_getD]
  rw [List.getElem?_append_left (by simpa using hi), List.getElem?_map, List.getElem?_eq_getElem hi]
  simp only [Option.map_some, Option.getD_some]
  rw [UInt8.toNat_ofNat']
  omega
theorem uv_reach (s : ByteArray) (k : Nat) (hk : k < s.size) (hc : bt s k < 128) (ho : uvOk s k = true) : ∀ (f j : Nat), (∀ i, j ≤ i → i < k → 128 ≤ bt s i) → j ≤ k → k < j + f → uv s f j = (pv s (k + 1), ((k + 1 : Nat) : Int))
  | 0, j, _, _, h => by omega
  | f + 1, j, hm, hj, hf => by
    by_cases e : j = k
    · subst e
      exact uv_ok s f j hk hc ho
    · rw [uv_go s f j (by omega) (by have := hm j (Nat.le_refl _) (by omega); omega)]
      exact uv_reach s k hk hc ho f (j + 1) (fun i h1 h2 => hm i (by omega) h2) (by omega) (by omega)
theorem back_var (n : Int) (t : ByteArray) (h0 : 0 ≤ n) (h1 : n ≤ 18446744073709551615) : unvarP (varS n ++ t) = (n, ((varS n).size : Int)) := by
  have hN : n.toNat < 128 ^ (9 + 1) := by
    have e : (128 : Nat) ^ (9 + 1) = 1180591620717411303424 := by decide
    omega
  have hsh := varL_shape 9 _ hN
  have hby := varL_bytes 9 _ hN
  have hd := dec_varL 9 _ hN
  have hten := varL_ten n.toNat (by omega)
  have hpos := varL_pos n.toNat
  have hsz : (varS n).size = (varL n.toNat).length := by unfold varS; rw [strOfNums_size]
  have hbt : ∀ i, i < (varL n.toNat).length → bt (varS n ++ t) i = (varL n.toNat).getD i 0 := fun i hi => bt_front _ t i hi hby
  have hsize : (varS n ++ t).size = (varS n).size + t.size := ByteArray.size_append
  have hfirst : firsts (varS n ++ t) (varL n.toNat).length = varL n.toNat := by
    apply List.ext_getElem?
    intro i
    by_cases c : i < (varL n.toNat).length
    · simp only [firsts, List.getElem?_map]
      rw [List.getElem?_range c]
      simp only [Option.map_some]
      rw [hbt i c, List.getD_eq_getElem?_getD, List.getElem?_eq_getElem c]
      rfl
    · rw [List.getElem?_eq_none (by rw [firsts_len]; omega), List.getElem?_eq_none (by omega)]
  obtain ⟨k, hk⟩ : ∃ k, (varL n.toNat).length = k + 1 := ⟨(varL n.toNat).length - 1, by omega⟩
  rw [hk] at hsh hbt hfirst hten
  have hpv : pv (varS n ++ t) (k + 1) = n := by
    rw [← dec_firsts, hfirst, hd]; omega
  have hnv : nv (varS n ++ t) (k + 1) = n := by unfold nv; rw [hpv]; omega
  have hm : ∀ j, j < k → 128 ≤ bt (varS n ++ t) j := fun j hj => by rw [hbt j (by omega)]; exact hsh.1 j (by omega)
  have hc : bt (varS n ++ t) k < 128 := by rw [hbt k (by omega)]; exact hsh.2
  have hks : k < (varS n ++ t).size := by omega
  have ho : uvOk (varS n ++ t) k = true := by
    rw [← eq_var _ k (by omega) hks hm hc, hnv]
    apply beq_iff_eq.2
    rw [firsts_str _ (k + 1) (by omega), hfirst, ByteArray.toList_eq]
    exact strOfNums_data _
  unfold unvarP
  rw [uv_reach _ k hks hc ho 10 0 (fun i _ h => hm i h) (by omega) (by omega), hpv, hsz, hk]
theorem foldZ_b (n : Int) (h1 : -9223372036854775808 ≤ n) (h2 : n ≤ 9223372036854775807) : 0 ≤ foldZ n ∧ foldZ n ≤ 18446744073709551615 := by unfold foldZ; split <;> omega
theorem unfoldZ_b (u : Int) (h1 : 0 ≤ u) (h2 : u ≤ 18446744073709551615) : -9223372036854775808 ≤ unfoldZ u ∧ unfoldZ u ≤ 9223372036854775807 := by unfold unfoldZ; split <;> omega
theorem unfold_fold (n : Int) : unfoldZ (foldZ n) = n := by unfold unfoldZ foldZ; split <;> split <;> omega
theorem fold_unfold (u : Int) (h : 0 ≤ u) : foldZ (unfoldZ u) = u := by unfold unfoldZ foldZ; split <;> split <;> omega
/-- What is read at a text's beginning is how it is written. -/
theorem uv_forth (s : ByteArray) : ∀ (f j : Nat), j + f = 10 → (∀ i, i < j → 128 ≤ bt s i) → ∀ {n k : Int}, uv s f j = (n, k) → k ≠ 0 →
    ∃ m : Nat, k = ((m + 1 : Nat) : Int) ∧ m ≤ 9 ∧ m < s.size ∧ n = nv s (m + 1) ∧ (varS (nv s (m + 1))).toList = (s.extract 0 (m + 1)).toList
  | 0, j, _, _, n, k, h, hk => by
    simp only [uv, Prod.mk.injEq] at h
    exact absurd h.2.symm hk
  | f + 1, j, hj, hm, n, k, h, hk => by
    by_cases hs : j < s.size
    · by_cases hc : bt s j < 128
      · cases ho : uvOk s j with
        | true =>
          rw [uv_ok s f j hs hc ho, Prod.mk.injEq] at h
          have e := eq_var s j (by omega) hs hm hc
          rw [ho] at e
          have hp := pv_b s j
          have hpk := p128_le (show j ≤ 9 by omega)
          have h9 := pow9
          have hb := bt_nonneg s j
          have hpv : pv s (j + 1) = pv s j + bt s j % 128 * 128 ^ j := rfl
          refine ⟨j, h.2.symm, by omega, hs, ?_, beq_iff_eq.1 e⟩
          rw [← h.1]
          unfold nv
          by_cases e9 : j = 9
          · subst e9
            have h1 : bt s 9 ≤ 1 := by
              by_cases h : 1 < bt s 9
              · simp [uvOk, h] at ho
              · omega
            have : bt s 9 % 128 * 128 ^ 9 ≤ 1 * 128 ^ 9 := Int.mul_le_mul_of_nonneg_right (by omega) (by omega)
            have hp1 := pv_b s (9 + 1)
            omega
          · have h8 := p128_le (show j ≤ 8 by omega)
            have e8 : (128 : Int) ^ 8 = 72057594037927936 := by decide
            have : bt s j % 128 * 128 ^ j ≤ 127 * 128 ^ j := Int.mul_le_mul_of_nonneg_right (by omega) (by omega)
            have hp1 := pv_b s (j + 1)
            omega
        | false =>
          rw [uv_bad s f j hs hc ho, Prod.mk.injEq] at h
          exact absurd h.2.symm hk
      · rw [uv_go s f j hs hc] at h
        exact uv_forth s f (j + 1) (by omega) (fun i hi => by
          by_cases e : i = j
          · subst e; omega
          · exact hm i (by omega)) h hk
    · rw [uv_end s (f + 1) j hs, Prod.mk.injEq] at h
      exact absurd h.2.symm hk
theorem text_of_list {a b : ByteArray} (h : a.toList = b.toList) : a = b := by
  rw [ByteArray.toList_eq, ByteArray.toList_eq] at h
  exact ByteArray.ext (Array.toList_inj.1 h)
/-- A text that begins with a number: the number's text, and what stands behind it. -/
theorem unvar_forth {s : ByteArray} {n k : Int} (h : unvarP s = (n, k)) (hk : k ≠ 0) :
    (0 ≤ n ∧ n ≤ 18446744073709551615) ∧ (0 < k ∧ k ≤ 10 ∧ k ≤ s.size) ∧ (varS n).size = k.toNat ∧ varS n ++ s.extract k.toNat s.size = s := by
  obtain ⟨m, rfl, hm, hs, rfl, he⟩ := uv_forth s 10 0 rfl (fun i hi => absurd hi (Nat.not_lt_zero _)) h hk
  have e := text_of_list he
  refine ⟨nv_b s (m + 1), ⟨by omega, by omega, by omega⟩, ?_, ?_⟩
  · rw [e, ByteArray.size_extract]; omega
  · rw [e, show ((m + 1 : Nat) : Int).toNat = m + 1 from rfl]
    apply ByteArray.ext
    rw [ByteArray.data_append, ByteArray.data_extract, ByteArray.data_extract]
    have : s.size = s.data.size := rfl
    rw [this, Array.extract_append_extract]
    simp
    exact .inr (Nat.le_max_right _ _)
theorem unvar_none {s : ByteArray} (h : s.size = 0) : unvarP s = (0, 0) := uv_end s 10 0 (by omega)
end Go.Proofs.Ytppjmmdiglnkfaa
namespace Go.Proofs.Ytppjmmdiglnkfaa
set_option maxRecDepth 100000
open Go.ChangeShapes Go.WideShapes Go.ChangeAt Go.RowKit Go.PlainAid Go.Shelf

def bldRen : Go.Shelf.Ren := ⟨fun | 169 => 67 | n => n, fun | 70 => 104 | 9 => 9 | 0 => 0 | 72 => 107 | 37 => 105 | 127 => 150 | 3 => 3 | 5 => 5 | n => n, fun | n => n⟩
theorem bldLays : Go.Proofs.Lays.n169 Try.prog bldRen := {
  mixed := by kernel_rfl
  f169 := Try.func67.trans (congrArg some (by kernel_rfl))
  t0 := Try.underlying0
  a0 := Try.isAgg0
  z0 := Try.sizeOf0
  v0 := Try.zeroValue0
  t3 := Try.underlying3
  a3 := Try.isAgg3
  z3 := Try.sizeOf3
  v3 := Try.zeroValue3
  t9 := Try.underlying9
  a9 := Try.isAgg9
  z9 := Try.sizeOf9
  v9 := Try.zeroValue9
  t37 := Try.underlying105
  a37 := Try.isAgg105
  z37 := Try.sizeOf105
  v37 := Try.zeroValue105
  t70 := Try.underlying104
  a70 := Try.isAgg104
  z70 := Try.sizeOf104
  v70 := Try.zeroValue104
  t72 := Try.underlying107
  a72 := Try.isAgg107
  z72 := Try.sizeOf107
  v72 := Try.zeroValue107
  t127 := Try.underlying150
  a127 := Try.isAgg150
  z127 := Try.sizeOf150
  v127 := Try.zeroValue150 }
theorem bldExtra : Builder.Extra Try.prog bldRen := {
  sizeBuilder := by kernel_rfl
  liesBuilder := by kernel_rfl
  t5 := Try.underlying5
  a5 := Try.isAgg5
  z5 := Try.sizeOf5
  v5 := Try.zeroValue5
  infoByte := by kernel_rfl
  cellsByte := by kernel_rfl
  sizeByte := by kernel_rfl
  neB5 := by decide }
theorem heap_lt' {w : World} {q : Nat} {o : Obj} (h : w.heap[q]? = some o) : q < w.heap.size := by
  rcases Nat.lt_or_ge q w.heap.size with c | c
  · exact c
  · rw [Array.getElem?_eq_none c] at h; cases h
/-- String, whatever the builder holds. -/
theorem bstr_any (B b : Nat) (l : List UInt8) (w : World) (h : Lib.IsBuilder 107 5 B b (Lib.byteCells l) w) (hBw : B ≤ w.heap.size) :
    Calls Try.prog 67 #[.pointer (some ⟨b, 0, none⟩)] w fun e w' => e = .returned (.string ⟨l.toArray⟩) ∧ Below B w w' ∧ Lib.OthersKept 5 (some b) w w' := (Any.Builder_String_any_k bldLays bldExtra B b l w (.of h) hBw).mono fun _ _ h => ⟨h.1, h.2.2⟩
theorem sizeBld : (Try.prog.info? 107).map (·.size) = some 2 := by kernel_rfl
theorem liesBld : liesAt Try.prog Try.prog.depth 107 (2 / Try.prog.cellsOf 107) 0 107 1 = true := by kernel_rfl
theorem infoByte : (Try.prog.info? 5).map (fun i => (i.zero, i.size, i.bytes)) = some (some (.int .u8 0), 1, 1) := by kernel_rfl
set_option maxHeartbeats 1000000 in
/-- copyCheck at a builder that has been used. -/
theorem bcheck_used (b : Nat) (w : World) (h0 : w.cell? ⟨b, 0, none⟩ = some (.pointer (some ⟨b, 0, none⟩))) :
    Calls Try.prog 87 #[.pointer (some ⟨b, 0, none⟩)] w fun e w' => e = .returned (.tuple #[]) ∧ w' = w := by
  obtain ⟨j, hj, _⟩ := Option.map_eq_some_iff.1 sizeBld
  go_enter Try.func87, Try.ntmps87
  go_wp2
  rw [Lib.run_neq_ptr_same w _ Try.underlying104 hj]
  go_wp2
  go_end0
  exact ⟨rfl, rfl⟩
set_option maxHeartbeats 1000000 in
/-- copyCheck at a fresh builder. -/
theorem bcheck_fresh (b : Nat) (w : World) (h0 : w.cell? ⟨b, 0, none⟩ = some (.pointer none)) (hsh : w.shape? b = some (107, 2)) (hfz : w.frozen? ⟨b, 0, none⟩ = false) :
    Calls Try.prog 87 #[.pointer (some ⟨b, 0, none⟩)] w fun e w' => e = .returned (.tuple #[]) ∧ w' = w.setCell ⟨b, 0, none⟩ (.pointer (some ⟨b, 0, none⟩)) := by
  obtain ⟨j, hj, hjs⟩ := Option.map_eq_some_iff.1 sizeBld
  go_enter Try.func87, Try.ntmps87
  go_wp2
  rw [Lib.run_to_unsafe w ⟨b, 0, none⟩ Try.underlying104 Try.underlying167 hj (by rw [hjs]; decide) hsh (Nat.zero_lt_succ 1)]
  simp only [Result.andThen]
  rw [Oper.upon_value]
  go_wp2
  rw [run_callFunc_extern Try.func101 (by kernel_rfl) (by kernel_rfl) (by kernel_rfl) (e := Extern.AbiNoEscape.same) (by kernel_rfl)]
  rw [Lib.run_noEscape]
  simp only [Result.andThen]
  rw [Oper.upon_value]
  go_wp2
  rw [Lib.run_from_unsafe w ⟨b, 0, none⟩ Try.underlying167 Try.underlying104 hj hsh liesBld]
  simp only [Result.andThen]
  rw [Oper.upon_value]
  go_wp2
  go_end0
  exact ⟨rfl, rfl⟩
theorem bcheck_any (B b : Nat) (bs : List Value) (w : World) (h : Lib.IsBuilder 107 5 B b bs w) :
    Calls Try.prog 87 #[.pointer (some ⟨b, 0, none⟩)] w fun e w' => e = .returned (.tuple #[]) ∧ Lib.BuilderAt 107 5 B b (.pointer (some ⟨b, 0, none⟩)) bs w' ∧ Below B w w' := by
  rcases h with h | h
  · refine (bcheck_fresh b w h.cell0 h.shape h.frozen0).mono ?_
    rintro e w' ⟨rfl, rfl⟩
    exact ⟨rfl, h.used _, (Below.refl B w).setCell (p := ⟨b, 0, none⟩) h.1 _⟩
  · refine (bcheck_used b w h.cell0).mono ?_
    rintro e w' ⟨rfl, rfl⟩
    exact ⟨rfl, h, Below.refl B _⟩
set_option maxHeartbeats 2000000 in
/-- WriteString. -/
theorem bwrite_any (B b : Nat) (bs : List Value) (s : ByteArray) (w : World) (h : Lib.IsBuilder 107 5 B b bs w) (hlen : bs.length + s.size ≤ 140737488355328) (hBw : B ≤ w.heap.size) :
    Calls Try.prog 64 #[.pointer (some ⟨b, 0, none⟩), .string s] w fun e w' => e = .returned (.tuple #[.int .i64 s.size, .nilIface]) ∧ Lib.BuilderAt 107 5 B b (.pointer (some ⟨b, 0, none⟩)) (bs ++ Lib.strCells s) w' ∧ Below B w w' := by
  obtain ⟨i0, hi, hz0, hz1, hz2⟩ := info_parts infoByte
  go_enter Try.func64, Try.ntmps64
  go_wp2_with (go_at_call 87; refine (bcheck_any B b bs _ h).mono ?_)
  rintro e w1 ⟨rfl, h1, hb1⟩
  obtain ⟨hB, v, hbk, hown, hne⟩ := h1
  have c0 : w1.cell? ⟨b, 0, none⟩ = some (.pointer (some ⟨b, 0, none⟩)) := by rw [Lib.cell_of_heap hbk]; rfl
  have c1 : w1.cell? ⟨b, 1, none⟩ = some v := by rw [Lib.cell_of_heap hbk]; rfl
  go_wp2_with (at_builtin; refine Lib.wpList_append_own_string _ rfl _ _ 105 9 rfl B 5 i0 Try.underlying105 Try.underlying9 hi hz0 hz1 hz2 _ _ _ rfl hown s rfl ?c3 ?c4 ?c5 ?_)
  case c3 => unfold maxLen; omega
  case c4 => omega
  case c5 => have := hb1.size; omega
  intro v' w2 hown' hgrow _
  have hb2 : w2.heap[b]? = some (.cells #[.pointer (some ⟨b, 0, none⟩), v] 107 (0, 0)) := by
    rw [hgrow.block b (heap_lt' hbk) (fun e => hne e.symm)]
    exact hbk
  have d0 : w2.cell? ⟨b, 0, none⟩ = some (.pointer (some ⟨b, 0, none⟩)) := by rw [Lib.cell_of_heap hb2]; rfl
  have d1 : w2.cell? ⟨b, 1, none⟩ = some v := by rw [Lib.cell_of_heap hb2]; rfl
  have f1 : w2.frozen? ⟨b, 1, none⟩ = false := Lib.frozen_of_heap hb2 1
  obtain ⟨ao, n', cap, rfl⟩ : ∃ ao n' cap, v' = .slice ao n' cap := by
    rcases hown'.2 with ⟨hv, _⟩ | ⟨g, cap, cur, hv, _⟩
    · exact ⟨_, _, _, hv⟩
    · exact ⟨_, _, _, hv⟩
  go_wp2
  go_ret2
  refine ⟨rfl, ?_, ?_⟩
  · exact Lib.BuilderAt.put (T := 107) (e := 5) hB hb2 (bs' := bs ++ Lib.strCells s) (by simpa [Lib.strCells_length] using hown') (by decide)
  · exact (hb1.grown hgrow (by have := hb1.size; omega) (fun k hk => (hown.lt k hk).1)).setCell (p := ⟨b, 1, none⟩) hB _
end Go.Proofs.Ytppjmmdiglnkfaa
