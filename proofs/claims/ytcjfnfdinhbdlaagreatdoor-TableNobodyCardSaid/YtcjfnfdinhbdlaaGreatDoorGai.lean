import Derived.Test.YtcjfnfdinhbdlaaGreatDoorGad
import Derived.Test.YtcjfnfdinhbdlaaGreatDoorRows
import Derived.RegionTactic
namespace Go.Proofs.YtcjfnfdinhbdlaaGreatDoor
open Go.ChangeShapes Go.WideShapes Go.ChangeAt Go.RowKit Go.PlainAid
def upd (f : Nat → ByteArray) (k : Nat) (s : ByteArray) : Nat → ByteArray := fun i => if i = k then s else f i
theorem upd_same (f : Nat → ByteArray) (k : Nat) (s : ByteArray) : upd f k s k = s := if_pos rfl
theorem upd_other (f : Nat → ByteArray) {k i : Nat} (s : ByteArray) (h : i ≠ k) : upd f k s i = f i := if_neg h
def done (f : Nat → ByteArray) (l : List (Nat × ByteArray)) : Nat → ByteArray := l.foldl (fun g x => upd g x.1 x.2) f
theorem done_snoc (f : Nat → ByteArray) (l : List (Nat × ByteArray)) (x : Nat × ByteArray) : done f (l ++ [x]) = upd (done f l) x.1 x.2 := by simp [done, List.foldl_append]
structure D where
  n : Nat
  safe : Nat → ByteArray
  late : List (Nat × ByteArray)
  limit : Int
  dark : Bool
def D.last (d : D) : Nat → ByteArray := done d.safe d.late
structure D.Wf (d : D) : Prop where
  lo : 1 ≤ d.n
  hi : d.n ≤ 2048
  safe : ∀ k, k < d.n → (d.safe k).size = 256
  late : ∀ x ∈ d.late, x.1 < d.n ∧ x.2.size = 256
  llo : -1 ≤ d.limit
  lhi : d.limit ≤ 9223372036854775807
theorem done_size {n : Nat} : ∀ (l : List (Nat × ByteArray)) (f : Nat → ByteArray), (∀ k, k < n → (f k).size = 256) → (∀ x ∈ l, x.1 < n ∧ x.2.size = 256) → ∀ k, k < n → (done f l k).size = 256
  | [], _, hf, _ => hf
  | x :: l, f, hf, hl => by
    refine done_size l (upd f x.1 x.2) (fun k hk => ?_) (fun y hy => hl y (List.mem_cons_of_mem _ hy))
    by_cases e : k = x.1
    · subst e; rw [upd_same]; exact (hl x List.mem_cons_self).2
    · rw [upd_other _ _ e]; exact hf k hk
theorem D.Wf.last {d : D} (h : d.Wf) : ∀ k, k < d.n → (d.last k).size = 256 := done_size _ _ h.safe h.late
def lateCells (l : List (Nat × ByteArray)) : List Value := l.flatMap fun x => .int .i64 (x.1 : Int) :: textCells 256 x.2
theorem lateCells_snoc (l : List (Nat × ByteArray)) (x : Nat × ByteArray) : lateCells (l ++ [x]) = lateCells l ++ (.int .i64 (x.1 : Int) :: textCells 256 x.2) := by simp [lateCells]
theorem lateCells_get : ∀ (l : List (Nat × ByteArray)) (i j : Nat) (x : Nat × ByteArray), l[i]? = some x → j < 257 → (lateCells l)[i * 257 + j]? = (Value.int .i64 (x.1 : Int) :: textCells 256 x.2)[j]?
  | [], _, _, _, h, _ => by simp at h
  | y :: l, 0, j, x, h, hj => by
    obtain rfl : y = x := by simpa using h
    unfold lateCells
    rw [List.flatMap_cons, Nat.zero_mul, Nat.zero_add, List.getElem?_append_left (by simp; omega)]
  | y :: l, i + 1, j, x, h, hj => by
    have := lateCells_get l i j x (by simpa using h) hj
    unfold lateCells at *
    have hl : (Value.int .i64 (y.1 : Int) :: textCells 256 y.2).length = 257 := by rw [List.length_cons, length_textCells]
    rw [List.flatMap_cons, List.getElem?_append_right (by rw [hl]; omega), ← this, hl, show (i + 1) * 257 + j - 257 = i * 257 + j by omega]
def Rows (t : TypeId) (w : World) (b n : Nat) (f : Nat → ByteArray) : Prop :=
  ∃ C : Array Value, w.heap[b]? = some (.cells C t (0, 0)) ∧ C.size = 256 * n ∧ ∀ k, k < n → ∀ j, j < 256 → C[k * 256 + j]? = some (.int .u8 (bt (f k) j))
theorem Rows.lt {t : TypeId} {w : World} {b n : Nat} {f : Nat → ByteArray} (h : Rows t w b n f) : b < w.heap.size := by
  obtain ⟨C, h, _⟩ := h
  rcases Nat.lt_or_ge b w.heap.size with c | c
  · exact c
  · rw [Array.getElem?_eq_none c] at h; cases h
theorem Rows.keep {t : TypeId} {w w' : World} {b n : Nat} {f : Nat → ByteArray} (h : Rows t w b n f) (e : w'.heap[b]? = w.heap[b]?) : Rows t w' b n f := by
  obtain ⟨C, h1, h2⟩ := h
  exact ⟨C, e.trans h1, h2⟩
theorem Rows.congr {t : TypeId} {w : World} {b n : Nat} {f g : Nat → ByteArray} (h : Rows t w b n f) (e : ∀ k, k < n → g k = f k) : Rows t w b n g := by
  obtain ⟨C, h1, h2, h3⟩ := h
  exact ⟨C, h1, h2, fun k hk j hj => by rw [e k hk]; exact h3 k hk j hj⟩
theorem Rows.range {t : TypeId} {w : World} {b n : Nat} {f : Nat → ByteArray} (h : Rows t w b n f) {k : Nat} (hk : k < n) : w.rangeAt b (k * 256) (textCells 256 (f k)) := by
  obtain ⟨C, h1, h2, h3⟩ := h
  exact rangeAt_text h1 (fun j hj => h3 k hk j hj)
theorem Rows.there {t : TypeId} {w : World} {b n : Nat} {f : Nat → ByteArray} (h : Rows t w b n f) {k : Nat} (hk : k < n) : w.there b (k * 256) 256 := by
  obtain ⟨C, h1, h2, h3⟩ := h
  intro j hj
  exact ⟨by rw [cell_of_row w b _ C t _ h1, h3 k hk j hj]; rfl, frozen_of_row w b _ C t h1⟩
theorem Rows.setCells {t : TypeId} {w : World} {b n : Nat} {f : Nat → ByteArray} (h : Rows t w b n f) {k : Nat} (hk : k < n) (s : ByteArray) (m : Nat) (hm : m ≤ 256) (g : Nat → ByteArray)
    (hg : ∀ i, i < n → i ≠ k → g i = f i) (hk1 : ∀ j, j < m → bt (g k) j = bt s j) (hk2 : ∀ j, m ≤ j → j < 256 → bt (g k) j = bt (f k) j) : Rows t (w.setCells b (k * 256) (textCells m s)) b n g := by
  obtain ⟨C, h1, h2, h3⟩ := h
  have hfit : k * 256 + m ≤ C.size := by omega
  obtain ⟨C', a1, a2, a3, a4⟩ := heap_setCells_same b t (textCells m s) (k * 256) w C h1 (by rw [length_textCells]; exact hfit)
  rw [length_textCells] at a3 a4
  refine ⟨C', a1, a2.trans h2, fun i hi j hj => ?_⟩
  by_cases e : i = k
  · subst e
    by_cases c : j < m
    · rw [a3 j c, textCells_get m s c, hk1 j c]
    · rw [a4 _ (by omega), h3 i hi j hj, hk2 j (by omega) hj]
  · rw [a4 _ (by omega), h3 i hi j hj, hg i hi e]
theorem Rows.set {t : TypeId} {w : World} {b n : Nat} {f : Nat → ByteArray} (h : Rows t w b n f) {k : Nat} (hk : k < n) (s : ByteArray) : Rows t (w.setCells b (k * 256) (textCells 256 s)) b n (upd f k s) :=
  h.setCells hk s 256 (Nat.le_refl _) _ (fun i _ e => upd_other _ _ e) (fun j _ => by rw [upd_same]) (fun j h1 h2 => by omega)
structure Foot where
  p : Nat
  S : Nat
  L : Nat
  B : Nat
  lv : Value
def Foot.own (F : Foot) (k : Nat) : Prop := k = F.p ∨ k = F.S ∨ k = F.L ∨ F.lv.ownBlock = some k
structure DiskAt (tD tB tW : TypeId) (w : World) (F : Foot) (d : D) : Prop where
  head : w.heap[F.p]? = some (.cells #[.slice (some ⟨F.S, 0, none⟩) d.n d.n, .slice (some ⟨F.L, 0, none⟩) d.n d.n, F.lv, .int .i64 d.limit, .bool d.dark] tD (0, 0))
  safe : Rows tB w F.S d.n d.safe
  last : Rows tB w F.L d.n d.last
  late : w.ownsRow F.B tW 257 F.lv d.late.length (lateCells d.late)
  pB : F.p < F.B
  SB : F.S < F.B
  LB : F.L < F.B
  pS : F.p ≠ F.S
  pL : F.p ≠ F.L
  SL : F.S ≠ F.L
  base : F.B ≤ w.heap.size
  wf : d.Wf
section
variable {tD tB tW : TypeId} {w w' : World} {F : Foot} {d : D}
theorem DiskAt.own_lt (h : DiskAt tD tB tW w F d) {k : Nat} (hk : F.own k) : k < w.heap.size := by
  have h1 := h.base; have h2 := h.pB; have h3 := h.SB; have h4 := h.LB
  rcases hk with rfl | rfl | rfl | hk
  · omega
  · omega
  · omega
  · exact (h.late.lt k hk).2
theorem DiskAt.own_ne (h : DiskAt tD tB tW w F d) {k : Nat} (hk : F.lv.ownBlock = some k) : k ≠ F.p ∧ k ≠ F.S ∧ k ≠ F.L ∧ F.B ≤ k := by
  have h2 := h.pB; have h3 := h.SB; have h4 := h.LB
  have := (h.late.lt k hk).1
  omega
theorem DiskAt.keep (h : DiskAt tD tB tW w F d) (hs : w.heap.size ≤ w'.heap.size) (e : ∀ k, F.own k → w'.heap[k]? = w.heap[k]?) : DiskAt tD tB tW w' F d where
  head := (e _ (.inl rfl)).trans h.head
  safe := h.safe.keep (e _ (.inr (.inl rfl)))
  last := h.last.keep (e _ (.inr (.inr (.inl rfl))))
  late := by
    obtain ⟨h1, h2⟩ := h.late
    refine ⟨h1, ?_⟩
    rcases h2 with h2 | ⟨g, cap, cur, hv, hb, hg, h3⟩
    · exact .inl h2
    · exact .inr ⟨g, cap, cur, hv, hb, (e g (.inr (.inr (.inr (by rw [hv]; rfl))))).trans hg, h3⟩
  pB := h.pB
  SB := h.SB
  LB := h.LB
  pS := h.pS
  pL := h.pL
  SL := h.SL
  base := Nat.le_trans h.base hs
  wf := h.wf
theorem DiskAt.below (h : DiskAt tD tB tW w F d) (k : Below w.heap.size w w') : DiskAt tD tB tW w' F d := h.keep k.size fun i hi => k.block i (h.own_lt hi)
theorem DiskAt.cells (h : DiskAt tD tB tW w F d) : w.cell? ⟨F.p, 0, none⟩ = some (.slice (some ⟨F.S, 0, none⟩) d.n d.n) ∧ w.cell? ⟨F.p, 1, none⟩ = some (.slice (some ⟨F.L, 0, none⟩) d.n d.n) ∧
    w.cell? ⟨F.p, 2, none⟩ = some F.lv ∧ w.cell? ⟨F.p, 3, none⟩ = some (.int .i64 d.limit) ∧ w.cell? ⟨F.p, 4, none⟩ = some (.bool d.dark) := by
  refine ⟨?_, ?_, ?_, ?_, ?_⟩ <;> rw [cell_of_row _ _ _ _ _ _ h.head] <;> rfl
theorem DiskAt.thaw (h : DiskAt tD tB tW w F d) (i : Nat) : w.frozen? ⟨F.p, i, none⟩ = false := frozen_of_row _ _ _ _ _ h.head
end
def zeroText : ByteArray := ofFn 256 fun _ => 0
theorem zeroText_size : zeroText.size = 256 := ofFn_size _ _
theorem zeroText_bt (k : Nat) : bt zeroText k = 0 := by
  by_cases h : k < 256
  · exact ofFn_bt 256 (fun _ => 0) h (Int.le_refl _) (by decide)
  · exact bt_end _ (by rw [zeroText_size]; omega)
def newD (n : Nat) : D := ⟨n, fun _ => zeroText, [], -1, false⟩
theorem newD_wf {n : Nat} (h0 : 1 ≤ n) (h1 : n ≤ 2048) : (newD n).Wf := ⟨h0, h1, fun _ _ => zeroText_size, fun x hx => (by cases hx), by show (-1 : Int) ≤ -1; omega, by show (-1 : Int) ≤ _; omega⟩
def zeroBlocks (n : Nat) : Array Value := madeCells (Array.replicate 256 (.int .u8 0)) (n * 256)
theorem zeroBlocks_rows {t : TypeId} {w : World} {b n : Nat} (h : w.heap[b]? = some (.cells (zeroBlocks n) t (0, 0))) : Rows t w b n fun _ => zeroText := by
  refine ⟨_, h, by unfold zeroBlocks; rw [size_madeCells]; omega, fun k hk j hj => ?_⟩
  rw [zeroText_bt]
  have hi : k * 256 + j < n * 256 := by omega
  simp only [zeroBlocks, madeCells, Array.getElem?_map, Array.getElem?_range, hi, if_true, Option.map_some]
  rw [getElem!_pos _ _ (by simp; omega)]
  simp
def emptyWrite : Array Value := #[.int .i64 0] ++ Array.replicate 256 (.int .u8 0)
theorem emptyWrite_ne : ¬ emptyWrite = #[] := by
  intro h
  have := congrArg Array.size h
  simp [emptyWrite] at this
def writeCells (k : Int) (s : ByteArray) : Array Value := (Value.int .i64 k :: textCells 256 s).toArray
theorem writeCells_size (k : Int) (s : ByteArray) : (writeCells k s).size = 257 := by simp [writeCells]
theorem writeCells_one (k : Int) (s : ByteArray) : ∀ v ∈ (writeCells k s).toList, v.oneCell' = true := by
  intro v hv
  simp only [writeCells, List.mem_cons] at hv
  rcases hv with rfl | hv
  · rfl
  · exact textCells_one _ _ v hv
theorem emptyWrite_get (j : Nat) (k : Int) : (emptyWrite.setIfInBounds 0 (.int .i64 k))[j]? = if j = 0 then some (.int .i64 k) else if j < 257 then some (.int .u8 0) else none := by
  rcases j with _ | j
  · simp [emptyWrite]
  · rw [if_neg (by omega), Array.getElem?_setIfInBounds_ne (by omega)]
    unfold emptyWrite
    rw [Array.getElem?_append_right (by simp)]
    simp only [List.size_toArray, List.length_cons, List.length_nil, Nat.zero_add, Nat.add_sub_cancel, Array.getElem?_replicate]
    by_cases c : j < 256
    · rw [if_pos c, if_pos (by omega)]
    · rw [if_neg c, if_neg (by omega)]
theorem copy_write {P : Program} (w : World) (dT sT ty elem t : TypeId) (k : Int) (s : ByteArray) (hu : P.underlying dT = some (.slice elem)) (hs : (P.info? elem).map (·.size) = some 1) (hsz : s.size ≤ 256) :
    (Builtin.copy_ #[dT, sT] ty #[.slice (some ⟨w.heap.size, 1, none⟩) 256 256, .string s]).run P (w.alloc (.cells (emptyWrite.setIfInBounds 0 (.int .i64 k)) t)) = .ok (goInt s.size) (w.alloc (.cells (writeCells k s) t)) := by
  have hlen : (Lib.byteCells s.data.toList).length = s.size := by rw [Lib.byteCells_length, ← Lib.size_eq]
  have hcl : ((Lib.byteCells s.data.toList).take (min s.size 256)).length = s.size := by rw [List.length_take, hlen]; omega
  have e257 : (emptyWrite.setIfInBounds 0 (.int .i64 k)).size = 257 := by rw [Array.size_setIfInBounds]; simp [emptyWrite]
  have hst := run_storeCells_at P w.heap.size 1 t ((Lib.byteCells s.data.toList).take (min s.size 256)) 0 _ _ (heap_alloc_new w (.cells (emptyWrite.setIfInBounds 0 (.int .i64 k)) t)) (by rw [hcl, e257]; omega) (fun v hv => Lib.byteCells_one _ v (List.mem_of_mem_take hv))
  have hst' := hst
  simp only [Nat.add_zero, hcl, setRow_alloc] at hst'
  have hrow : ∀ l : List Value, l = (emptyWrite.setIfInBounds 0 (.int .i64 k)).toList → (l.take 1 ++ (Lib.byteCells s.data.toList).take (min s.size 256) ++ l.drop (1 + s.size)).toArray = writeCells k s := by
    intro l hl
    have hg : ∀ i, l[i]? = if i = 0 then some (.int .i64 k) else if i < 257 then some (.int .u8 0) else none := fun i => by rw [hl, Array.getElem?_toList, emptyWrite_get]
    have hll : l.length = 257 := by rw [hl, Array.length_toList, e257]
    apply congrArg List.toArray
    apply List.ext_getElem?
    intro i
    have ht : (l.take 1).length = 1 := by rw [List.length_take, hll]; rfl
    rcases i with _ | i
    · rw [List.append_assoc, List.getElem?_append_left (by rw [ht]; omega), List.getElem?_take_of_lt (by omega), hg 0]
      rfl
    · rw [List.append_assoc, List.getElem?_append_right (by rw [ht]; omega), ht, Nat.add_sub_cancel, List.getElem?_cons_succ]
      by_cases c : i < s.size
      · rw [List.getElem?_append_left (by rw [hcl]; exact c), List.getElem?_take_of_lt (by omega), textCells_get 256 s (by omega), bt_list]
        have hlt : i < s.data.toList.length := by simpa using c
        simp [Lib.byteCells, List.getElem?_eq_getElem hlt, List.getD_eq_getElem?_getD]
      · rw [List.getElem?_append_right (by rw [hcl]; omega), hcl, List.getElem?_drop, show 1 + s.size + (i - s.size) = i + 1 by omega, hg, if_neg (by omega)]
        by_cases c2 : i < 256
        · rw [if_pos (by omega), textCells_get 256 s c2, bt_end s (by omega)]
        · rw [if_neg (by omega), List.getElem?_eq_none (by rw [length_textCells]; omega)]
  cases hq : P.info? elem with
  | none => simp [hq] at hs
  | some i =>
    have hi : i.size = 1 := by simpa [hq] using hs
    simp [Builtin.copy_, run_underlying hu, Builtin.lenOf, Builtin.firstCells, sizeOf, typeInfo, hq]
    rw [hrow _ rfl] at hst'
    have hmin : min s.size 256 = s.size := Nat.min_eq_left hsz
    have hmin2 : s.size.min 256 = s.size := hmin
    rw [hmin] at hst'
    rw [hmin2]
    show ((Sem.run P (storeCells ⟨w.heap.size, 1, none⟩ ((Lib.byteCells s.data.toList).take s.size)) _).andThen fun a w' => Result.ok (goInt (s.size : Int)) w') = _
    rw [hst']
    rfl
def filled (s : ByteArray) : ByteArray := ofFn 256 (bt s)
theorem filled_size (s : ByteArray) : (filled s).size = 256 := ofFn_size _ _
theorem filled_bt (s : ByteArray) {k : Nat} (h : k < 256) : bt (filled s) k = bt s k := ofFn_bt _ _ h (bt_nonneg _ _) (bt_le _ _)
theorem textCells_filled (s : ByteArray) : textCells 256 (filled s) = textCells 256 s := by
  unfold textCells
  exact List.map_congr_left fun j hj => by rw [filled_bt s (List.mem_range.1 hj)]
theorem DiskAt.wrote {tD tB tW : TypeId} {W w4 : World} {F : Foot} {d : D} (h : DiskAt tD tB tW W F d) (i : Nat) (hi : i < d.n) (s : ByteArray) (g cap : Nat) (hs : W.heap.size ≤ w4.heap.size)
    (e : ∀ k, k = F.p ∨ k = F.S ∨ k = F.L → w4.heap[k]? = W.heap[k]?)
    (hown : w4.ownsRow F.B tW 257 (.slice (some ⟨g, 0, none⟩) (d.late.length + 1) cap) (d.late.length + 1) (lateCells d.late ++ (writeCells i s).toList)) :
    DiskAt tD tB tW ((w4.setCell ⟨F.p, 2, none⟩ (.slice (some ⟨g, 0, none⟩) (d.late.length + 1) cap)).drew.setCells F.L (i * 256) (textCells 256 s)) { F with lv := .slice (some ⟨g, 0, none⟩) (d.late.length + 1) cap } { d with late := d.late ++ [(i, filled s)] } := by
  have hp4 : w4.heap[F.p]? = _ := (e _ (.inl rfl)).trans h.head
  have h5 := heap_setCell_same w4 F.p 2 _ _ (.slice (some ⟨g, 0, none⟩) (d.late.length + 1) cap) hp4
  have ho : ∀ k, k ≠ F.p → (w4.setCell ⟨F.p, 2, none⟩ (.slice (some ⟨g, 0, none⟩) (d.late.length + 1) cap)).drew.heap[k]? = w4.heap[k]? := fun k hk => heap_setCell_other w4 _ _ _ hk
  have hL : Rows tB (w4.setCell ⟨F.p, 2, none⟩ (.slice (some ⟨g, 0, none⟩) (d.late.length + 1) cap)).drew F.L d.n d.last := h.last.keep ((ho _ h.pL.symm).trans (e _ (.inr (.inr rfl))))
  have hsz : (w4.setCell ⟨F.p, 2, none⟩ (.slice (some ⟨g, 0, none⟩) (d.late.length + 1) cap)).drew.heap.size = w4.heap.size := World.size_setCell ..
  have pB := h.pB
  have LB := h.LB
  have hbase := h.base
  refine ⟨?_, ?_, ?_, ?_, h.pB, h.SB, h.LB, h.pS, h.pL, h.SL, ?_, ?_⟩
  · show (World.setCells _ F.L _ _).heap[F.p]? = _
    rw [heap_setCells_other _ _ h.pL]
    exact h5
  · refine Rows.keep h.safe ?_
    show (World.setCells _ F.L _ _).heap[F.S]? = _
    rw [heap_setCells_other _ _ h.SL, ho _ h.pS.symm]
    exact e _ (.inr (.inl rfl))
  · have := hL.set hi s
    refine Rows.setCells hL hi s 256 (Nat.le_refl _) _ (fun j _ hj => ?_) (fun j hj => ?_) (fun j h1 h2 => by omega)
    · show done d.safe (d.late ++ [(i, filled s)]) j = done d.safe d.late j
      rw [done_snoc, upd_other _ _ hj]
    · show bt (done d.safe (d.late ++ [(i, filled s)]) i) j = _
      rw [done_snoc, upd_same, filled_bt s hj]
  · obtain ⟨h1, h2⟩ := hown
    have hcells : lateCells d.late ++ (writeCells i s).toList = lateCells (d.late ++ [(i, filled s)]) := by
      rw [lateCells_snoc, textCells_filled]
      rfl
    have hlen : (d.late ++ [(i, filled s)]).length = d.late.length + 1 := by simp
    show World.ownsRow _ F.B tW 257 _ (d.late ++ [(i, filled s)]).length (lateCells (d.late ++ [(i, filled s)]))
    rw [hlen, ← hcells]
    refine ⟨h1, ?_⟩
    rcases h2 with h2 | ⟨g', cap', cur, hv, hb, hg, h3⟩
    · exact .inl h2
    · refine .inr ⟨g', cap', cur, hv, hb, ?_, h3⟩
      rw [heap_setCells_other _ _ (by omega), ho _ (by omega)]
      exact hg
  · show F.B ≤ (World.setCells _ F.L _ _).heap.size
    rw [size_setCells, hsz]
    omega
  · exact ⟨h.wf.lo, h.wf.hi, h.wf.safe, fun x hx => by
      rcases List.mem_append.1 hx with hx | hx
      · exact h.wf.late x hx
      · rw [List.mem_singleton] at hx
        subst hx
        exact ⟨hi, filled_size s⟩, h.wf.llo, h.wf.lhi⟩
theorem DiskAt.lates {tD tB tW : TypeId} {w : World} {F : Foot} {d : D} (h : DiskAt tD tB tW w F d) : F.lv = .slice none 0 0 ∧ d.late = [] ∨
    ∃ g cap, F.lv = .slice (some ⟨g, 0, none⟩) d.late.length cap ∧ F.B ≤ g ∧ g < w.heap.size ∧ F.lv.ownBlock = some g ∧ ∀ k x, d.late[k]? = some x → w.rangeAt g (k * 257) (writeCells x.1 x.2).toList := by
  obtain ⟨h1, h2⟩ := h.late
  rcases h2 with ⟨h2, h3⟩ | ⟨g, cap, cur, hv, hb, hg, hn, hc, hsz, ht⟩
  · exact .inl ⟨h2, List.eq_nil_of_length_eq_zero h3⟩
  · have ho : F.lv.ownBlock = some g := by rw [hv]; rfl
    refine .inr ⟨g, cap, hv, hb, (h.late.lt g ho).2, ho, fun k x hx j v hj => ?_⟩
    have hlt : j < 257 := by have := (List.getElem?_eq_some_iff.1 hj).1; simpa [writeCells] using this
    have hk : k < d.late.length := (List.getElem?_eq_some_iff.1 hx).1
    rw [cell_of_row w g _ cur _ _ hg]
    have h3 := lateCells_get d.late k j x hx hlt
    rw [← ht, List.getElem?_take_of_lt (by omega), Array.getElem?_toList] at h3
    rw [h3, ← hj]
    simp [writeCells]
theorem done_take (f : Nat → ByteArray) (l : List (Nat × ByteArray)) (k : Nat) (x : Nat × ByteArray) (h : l[k]? = some x) : done f (l.take (k + 1)) = upd (done f (l.take k)) x.1 x.2 := by
  obtain ⟨hk, hx⟩ := List.getElem?_eq_some_iff.1 h
  rw [List.take_succ_eq_append_getElem hk, hx, done_snoc]
def D.flushed (d : D) : D := { d with safe := d.last, late := [] }
theorem DiskAt.flush {tD tB tW : TypeId} {w1 wr : World} {F : Foot} {d : D} (h : DiskAt tD tB tW w1 F d) (hk : Keeps (fun j => j = F.S) w1 wr) (hr : Rows tB wr F.S d.n d.last) :
    DiskAt tD tB tW (wr.setCell ⟨F.p, 2, none⟩ (.slice none 0 0)) { F with lv := .slice none 0 0 } d.flushed := by
  have hlt : ∀ k, F.own k → k ≠ F.S → wr.heap[k]? = w1.heap[k]? := fun k ho hne => hk.block k (h.own_lt ho) hne
  have hp := (hlt _ (.inl rfl) h.pS).trans h.head
  refine ⟨?_, ?_, ?_, World.ownsRow_nil _ _ _ _, h.pB, h.SB, h.LB, h.pS, h.pL, h.SL, ?_, ?_⟩
  · exact heap_setCell_same wr F.p 2 _ _ (.slice none 0 0) hp
  · exact hr.keep (heap_setCell_other _ _ _ _ h.pS.symm)
  · refine Rows.congr (h.last.keep ((heap_setCell_other _ _ _ _ h.pL.symm).trans (hlt _ (.inr (.inr (.inl rfl))) h.SL.symm))) fun k _ => rfl
  · have := hk.size
    have := h.base
    show F.B ≤ (wr.setCell _ _).heap.size
    rw [World.size_setCell]
    omega
  · exact ⟨h.wf.lo, h.wf.hi, h.wf.last, fun x hx => (by cases hx), h.wf.llo, h.wf.lhi⟩
end Go.Proofs.YtcjfnfdinhbdlaaGreatDoor
namespace Go.Proofs.YtcjfnfdinhbdlaaGreatDoor
open Go.ChangeShapes Go.WideShapes Go.ChangeAt Go.RowKit Go.PlainAid
def Dk (w : World) (F : Foot) (d : D) : Prop := DiskAt 134 195 197 w F d
set_option maxHeartbeats 400000 in
theorem len_any (w : World) (F : Foot) (d : D) (h : Dk w F d) :
    Calls Tryz.prog 80 #[.pointer (some ⟨F.p, 0, none⟩)] w fun e w' => e = .returned (.int .i64 d.n) ∧ w = w' := by
  obtain ⟨c0, c1, c2, c3, c4⟩ := DiskAt.cells h
  go_enter Tryz.func80, Tryz.ntmps80
  go_wp2
  go_returns
  exact ⟨rfl, rfl⟩
set_option maxHeartbeats 400000 in
theorem made_any (w : World) (F : Foot) (d : D) (h : Dk w F d) :
    Calls Tryz.prog 217 #[.pointer (some ⟨F.p, 0, none⟩)] w fun e w' => e = .returned (.bool true) ∧ w = w' := by
  have hn := h.wf.lo
  have hb : decide (0 < d.n) = true := by simp; omega
  go_enter Tryz.func217, Tryz.ntmps217
  go_wp2_with fail
  refine (len_any _ F d h).mono ?_
  rintro e _ ⟨rfl, rfl⟩
  go_wp2
  go_returns
  exact ⟨rfl, rfl⟩
def readyE (d : D) : Int := if d.dark = true then 11 else 0
set_option maxHeartbeats 400000 in
theorem ready_any (w : World) (F : Foot) (d : D) (h : Dk w F d) :
    Calls Tryz.prog 188 #[.pointer (some ⟨F.p, 0, none⟩)] w fun e w' => e = .returned (.int .i64 (readyE d)) ∧ w = w' := by
  obtain ⟨c0, c1, c2, c3, c4⟩ := DiskAt.cells h
  unfold readyE
  cases hd : d.dark
  all_goals
    rw [hd] at c4
    clear hd
    go_enter Tryz.func188, Tryz.ntmps188
    go_wp2_with fail
    refine (made_any _ F d h).mono ?_
    rintro e _ ⟨rfl, rfl⟩
    go_wp2
    go_returns
    exact ⟨rfl, rfl⟩
def reachE (d : D) (k : Int) : Int := if d.dark = true then 11 else if k < 0 ∨ d.n ≤ k then 10 else 0
set_option maxHeartbeats 400000 in
theorem reach_any (w : World) (F : Foot) (d : D) (k : Int) (h : Dk w F d) (h0 : -9223372036854775808 ≤ k) (h1 : k ≤ 9223372036854775807) :
    Calls Tryz.prog 134 #[.pointer (some ⟨F.p, 0, none⟩), .int .i64 k] w fun e w' => e = .returned (.int .i64 (reachE d k)) ∧ w = w' := by
  obtain ⟨c0, c1, c2, c3, c4⟩ := DiskAt.cells h
  have hr : reachE d k = if readyE d = 11 then 11 else if k < 0 ∨ d.n ≤ k then 10 else 0 := by
    unfold reachE readyE
    cases d.dark <;> rfl
  have H := Lib.hid hr
  clear hr
  have hcases : readyE d = 11 ∨ readyE d = 0 := by unfold readyE; cases d.dark <;> simp
  rcases hcases with hc | hc
  · have hd := Lib.hid hc
    clear hc
    go_enter Tryz.func134, Tryz.ntmps134
    go_wp2_with fail
    refine (ready_any _ F d h).mono ?_
    rintro e _ ⟨rfl, rfl⟩
    rw [hd.out]
    go_wp2
    go_returns
    exact ⟨ret_i (by rw [H.out, hd.out]; rfl), rfl⟩
  · have hd := Lib.hid hc
    clear hc
    rcases Int.lt_or_le k 0 with a | a
    · have hb : decide (k < 0) = true := by simpa using a
      go_enter Tryz.func134, Tryz.ntmps134
      go_wp2_with fail
      refine (ready_any _ F d h).mono ?_
      rintro e _ ⟨rfl, rfl⟩
      rw [hd.out]
      go_wp2
      go_returns
      exact ⟨ret_i (by rw [H.out, hd.out, if_neg (by decide), if_pos (.inl a)]), rfl⟩
    · have hb : decide (k < 0) = false := by simpa using a
      rcases Int.lt_or_le k d.n with b | b
      · have hb2 : decide ((d.n : Int) ≤ k) = false := by simpa using b
        go_enter Tryz.func134, Tryz.ntmps134
        go_wp2_with fail
        refine (ready_any _ F d h).mono ?_
        rintro e _ ⟨rfl, rfl⟩
        rw [hd.out]
        go_wp2
        go_returns
        exact ⟨ret_i (by rw [H.out, hd.out, if_neg (by decide), if_neg (by omega)]), rfl⟩
      · have hb2 : decide ((d.n : Int) ≤ k) = true := by simpa using b
        go_enter Tryz.func134, Tryz.ntmps134
        go_wp2_with fail
        refine (ready_any _ F d h).mono ?_
        rintro e _ ⟨rfl, rfl⟩
        rw [hd.out]
        go_wp2
        go_returns
        exact ⟨ret_i (by rw [H.out, hd.out, if_neg (by decide), if_pos (.inr b)]), rfl⟩
theorem Dk.newHead {w : World} {F : Foot} {d : D} (h : Dk w F d) (w' : World) (lim : Int) (dark : Bool) (hs : w.heap.size ≤ w'.heap.size) (l0 : -1 ≤ lim) (l1 : lim ≤ 9223372036854775807)
    (hp : w'.heap[F.p]? = some (.cells #[.slice (some ⟨F.S, 0, none⟩) d.n d.n, .slice (some ⟨F.L, 0, none⟩) d.n d.n, F.lv, .int .i64 lim, .bool dark] 134 (0, 0)))
    (ho : ∀ k, F.own k → k ≠ F.p → w'.heap[k]? = w.heap[k]?) : Dk w' F { d with limit := lim, dark := dark } where
  head := hp
  safe := h.safe.keep (ho _ (.inr (.inl rfl)) h.pS.symm)
  last := h.last.keep (ho _ (.inr (.inr (.inl rfl))) h.pL.symm)
  late := by
    obtain ⟨h1, h2⟩ := h.late
    refine ⟨h1, ?_⟩
    rcases h2 with h2 | ⟨g, cap, cur, hv, hb, hg, h3⟩
    · exact .inl h2
    · have hown : F.lv.ownBlock = some g := by rw [hv]; rfl
      exact .inr ⟨g, cap, cur, hv, hb, (ho g (.inr (.inr (.inr hown))) (h.own_ne hown).1).trans hg, h3⟩
  pB := h.pB
  SB := h.SB
  LB := h.LB
  pS := h.pS
  pL := h.pL
  SL := h.SL
  base := Nat.le_trans h.base hs
  wf := ⟨h.wf.lo, h.wf.hi, h.wf.safe, h.wf.late, l0, l1⟩
def D.spent (d : D) : D := if d.limit = 0 then { d with dark := true } else if 0 < d.limit then { d with limit := d.limit - 1 } else d
def spendE (d : D) : Int := if d.limit = 0 then 11 else 0
set_option maxHeartbeats 400000 in
theorem spend_any (w : World) (F : Foot) (d : D) (h : Dk w F d) :
    Calls Tryz.prog 135 #[.pointer (some ⟨F.p, 0, none⟩)] w fun e w' => e = .returned (.int .i64 (spendE d)) ∧ Dk w' F d.spent ∧ Keeps (fun k => k = F.p) w w' := by
  obtain ⟨c0, c1, c2, c3, c4⟩ := DiskAt.cells h
  have t3 := DiskAt.thaw h 3
  have t4 := DiskAt.thaw h 4
  have hl := h.wf.llo
  have hh := h.wf.lhi
  have hhd := Lib.hid h.head
  unfold spendE D.spent
  by_cases z : d.limit = 0
  · have hb : (d.limit == 0) = true := by simpa using z
    rw [if_pos z, if_pos z]
    have hz := Lib.hid z
    clear z
    go_enter Tryz.func135, Tryz.ntmps135
    go_wp2
    go_returns
    refine ⟨rfl, ?_, Keeps.setCell (own := fun k => k = F.p) (Keeps.refl _ _) (.inl rfl) _⟩
    have := h.newHead (w.setCell ⟨F.p, 4, none⟩ (.bool true)) d.limit true (by simp) hl hh (heap_setCell_same _ _ _ _ _ _ hhd.out) (fun k _ hk => heap_setCell_other _ _ _ _ hk)
    exact this
  · have hb : (d.limit == 0) = false := by simpa using z
    rw [if_neg z, if_neg z]
    by_cases g : 0 < d.limit
    · have hg : decide (0 < d.limit) = true := by simpa using g
      rw [if_pos g]
      clear z
      go_enter Tryz.func135, Tryz.ntmps135
      go_wp2
      go_returns
      refine ⟨rfl, ?_, Keeps.setCell (own := fun k => k = F.p) (Keeps.refl _ _) (.inl rfl) _⟩
      exact h.newHead (w.setCell ⟨F.p, 3, none⟩ (.int .i64 (d.limit - 1))) (d.limit - 1) d.dark (by simp) (by omega) (by omega) (heap_setCell_same _ _ _ _ _ _ hhd.out) (fun k _ hk => heap_setCell_other _ _ _ _ hk)
    · have hg : decide (0 < d.limit) = false := by simpa using g
      rw [if_neg g]
      clear z
      go_enter Tryz.func135, Tryz.ntmps135
      go_wp2
      go_returns
      exact ⟨rfl, h, Keeps.refl _ _⟩
end Go.Proofs.YtcjfnfdinhbdlaaGreatDoor
namespace Go.Proofs.YtcjfnfdinhbdlaaGreatDoor
open Go.ChangeShapes Go.WideShapes Go.ChangeAt Go.RowKit Go.PlainAid
theorem info_block : (Tryz.prog.info? 195).map (fun i => (i.zero, i.size, i.bytes)) = some (some (.agg (Array.replicate 256 (.int .u8 0))), 256, 256) := by kernel_rfl
theorem make_blocks (n : Nat) (hn : n ≤ 4096) (w : World) : (Instr.makeSlice 131 (.int .i64 n) (.int .i64 n)).run Tryz.prog w = .ok (.slice (some ⟨w.heap.size, 0, none⟩) n n) (w.alloc (.cells (zeroBlocks n) 195)) := by
  obtain ⟨i, h1, h2, h3, h4⟩ := info_parts info_block
  have h := run_make (P := Tryz.prog) w 131 195 i _ Tryz.underlying131 h1 h2 .i64 .i64 n n (by omega) (by omega) (by rw [h4]; omega) (by omega)
  rw [h, h3]
  rfl
theorem heap3 (w : World) (X Y Z : Obj) : (((w.alloc X).alloc Y).alloc Z).drew.heap[w.heap.size]? = some X ∧ (((w.alloc X).alloc Y).alloc Z).drew.heap[w.heap.size + 1]? = some Y ∧ (((w.alloc X).alloc Y).alloc Z).drew.heap[w.heap.size + 1 + 1]? = some Z := by
  have e1 : (w.alloc X).heap.size = w.heap.size + 1 := World.size_alloc ..
  have e2 : ((w.alloc X).alloc Y).heap.size = w.heap.size + 1 + 1 := by rw [World.size_alloc, e1]
  refine ⟨?_, ?_, ?_⟩
  · show (((w.alloc X).alloc Y).alloc Z).heap[w.heap.size]? = _
    rw [Below.heap_alloc _ _ _ (by rw [e2]; omega), Below.heap_alloc _ _ _ (by rw [e1]; omega)]
    exact heap_alloc_new w X
  · show (((w.alloc X).alloc Y).alloc Z).heap[w.heap.size + 1]? = _
    rw [Below.heap_alloc _ _ _ (by rw [e2]; omega), ← e1]
    exact heap_alloc_new _ Y
  · show (((w.alloc X).alloc Y).alloc Z).heap[w.heap.size + 1 + 1]? = _
    rw [← e2]
    exact heap_alloc_new _ Z
theorem new_dk {W : World} {n p S L B : Nat} (h0 : 1 ≤ n) (h1 : n ≤ 2048) (hS : W.heap[S]? = some (.cells (zeroBlocks n) 195 (0, 0))) (hL : W.heap[L]? = some (.cells (zeroBlocks n) 195 (0, 0)))
    (hp : W.heap[p]? = some (.cells #[.slice (some ⟨S, 0, none⟩) n n, .slice (some ⟨L, 0, none⟩) n n, .slice none 0 0, .int .i64 (-1), .bool false] 134 (0, 0)))
    (pB : p < B) (SB : S < B) (LB : L < B) (pS : p ≠ S) (pL : p ≠ L) (SL : S ≠ L) (hB : B ≤ W.heap.size) : Dk W ⟨p, S, L, B, .slice none 0 0⟩ (newD n) where
  head := hp
  safe := zeroBlocks_rows hS
  last := zeroBlocks_rows hL
  late := World.ownsRow_nil _ _ _ _
  pB := pB
  SB := SB
  LB := LB
  pS := pS
  pL := pL
  SL := SL
  base := hB
  wf := newD_wf h0 h1
def NewPost (n : Nat) (w : World) (e : Ending) (w' : World) : Prop :=
  ∃ F, e = .returned (.tuple #[.pointer (some ⟨F.p, 0, none⟩), .int .i64 0]) ∧ Dk w' F (newD n) ∧ Below w.heap.size w w' ∧ ∀ k, F.own k → w.heap.size ≤ k
set_option maxHeartbeats 400000 in
theorem new_any (n : Int) (w : World) (h0 : 1 ≤ n) (h1 : n ≤ 2048) :
    Calls Tryz.prog 34 #[.int .i64 n] w (NewPost n.toNat w) := by
  obtain ⟨m, rfl⟩ := Int.eq_ofNat_of_zero_le (show 0 ≤ n by omega)
  rw [Int.toNat_natCast]
  have hm := make_blocks m (by omega)
  have hb1 : decide ((m : Int) < 1) = false := by simpa using h0
  have hb2 : decide (2048 < (m : Int)) = false := by simpa using h1
  go_enter Tryz.func34, Tryz.ntmps34
  go_wp2
  go_region
  all_goals
    go_wp2
    go_returns
    obtain ⟨a1, a2, a3⟩ := heap3 w _ _ _
    first
      | exact ⟨⟨w.heap.size + 1 + 1, w.heap.size, w.heap.size + 1, w.heap.size + 1 + 1 + 1, .slice none 0 0⟩, rfl, new_dk (by omega) (by omega) a1 a2 a3 (by omega) (by omega) (by omega) (by omega) (by omega) (by omega) (by simp), by go_grown, by
          rintro k (rfl | rfl | rfl | hk)
          · exact Nat.le_add_right _ 2
          · exact Nat.le_refl _
          · exact Nat.le_succ _
          · cases hk⟩
      | exact ⟨⟨w.heap.size + 1 + 1, w.heap.size + 1, w.heap.size, w.heap.size + 1 + 1 + 1, .slice none 0 0⟩, rfl, new_dk (by omega) (by omega) a2 a1 a3 (by omega) (by omega) (by omega) (by omega) (by omega) (by omega) (by simp), by go_grown, by
          rintro k (rfl | rfl | rfl | hk)
          · exact Nat.le_add_right _ 2
          · exact Nat.le_succ _
          · exact Nat.le_refl _
          · cases hk⟩
theorem reachE_cases (d : D) (k : Int) : reachE d k = 0 ∧ 0 ≤ k ∧ k < d.n ∧ d.dark = false ∨ reachE d k = 10 ∧ d.dark = false ∨ reachE d k = 11 ∧ d.dark = true := by
  unfold reachE
  cases d.dark
  · by_cases c : k < 0 ∨ d.n ≤ k
    · simp [c]
    · simp [c]; omega
  · simp
def readS (d : D) (k : Int) : ByteArray := if reachE d k = 0 then d.last k.toNat else ByteArray.empty
set_option maxHeartbeats 400000 in
theorem read_any (w : World) (F : Foot) (d : D) (k : Int) (h : Dk w F d) (h0 : -9223372036854775808 ≤ k) (h1 : k ≤ 9223372036854775807) :
    Calls Tryz.prog 79 #[.pointer (some ⟨F.p, 0, none⟩), .int .i64 k] w fun e w' => e = .returned (.tuple #[.string (readS d k), .int .i64 (reachE d k)]) ∧ w = w' := by
  obtain ⟨c0, c1, c2, c3, c4⟩ := DiskAt.cells h
  have hS : readS d k = if reachE d k = 0 then d.last k.toNat else ByteArray.empty := rfl
  have HS := Lib.hid hS
  clear hS
  rcases reachE_cases d k with ⟨a, hk, hn, _⟩ | ⟨a, _⟩ | ⟨a, _⟩
  · have hr := Lib.hid a
    clear a
    obtain ⟨i, rfl⟩ := Int.eq_ofNat_of_zero_le hk
    rw [Int.toNat_natCast] at HS
    have hi : i < d.n := by omega
    have hconv := conv_text (P := Tryz.prog) 160 5 9 Tryz.underlying160 Tryz.underlying5 Tryz.underlying9 w F.L (i * 256) 256 256 (d.last i) (h.wf.last i hi) (h.last.range hi)
    go_enter Tryz.func79, Tryz.ntmps79
    go_wp2_with fail
    refine (reach_any _ F d _ h h0 h1).mono ?_
    rintro e _ ⟨rfl, rfl⟩
    rw [hr.out]
    go_wp2
    go_returns
    refine ⟨?_, rfl⟩
    rw [HS.out, hr.out, if_pos rfl]
    rfl
  all_goals
    have hr := Lib.hid a
    clear a
    go_enter Tryz.func79, Tryz.ntmps79
    go_wp2_with fail
    refine (reach_any _ F d _ h h0 h1).mono ?_
    rintro e _ ⟨rfl, rfl⟩
    rw [hr.out]
    go_wp2
    go_returns
    refine ⟨?_, rfl⟩
    rw [HS.out, hr.out, if_neg (by decide)]
    rfl
end Go.Proofs.YtcjfnfdinhbdlaaGreatDoor
namespace Go.Proofs.YtcjfnfdinhbdlaaGreatDoor
set_option maxRecDepth 100000
open Go.ChangeShapes Go.WideShapes Go.ChangeAt Go.RowKit Go.PlainAid
structure OpV where
  id : Int
  proc : Int
  obj : Int
  kind : Int
  meth : Int
  arg : Int
  sec : Int
  done : Bool
  res : Int
  inv : Int
  ret : Int
def namedB (o : OpV) : Bool := inB o.id 1 1073741824 && inB o.proc 0 1023 && inB o.obj 0 1023
def resB (o : OpV) (low high : Int) : Bool := if o.done then inB o.res low high else o.res == 0
def fitB (o : OpV) (r : RowV) : Bool := argB o.arg (decide (1 ≤ r.needs)) && argB o.sec (decide (2 ≤ r.needs)) && resB o r.low r.high
def ruledB (o : OpV) : Bool := match ruleOf o.kind o.meth with
  | none => false
  | some r => fitB o r
def timedB (o : OpV) : Bool := inB o.inv 0 1099511627776 && (if o.done then decide (o.inv < o.ret) && decide (o.ret ≤ 1099511627776) else o.ret == 0)
def checkZ (o : OpV) : Int := if namedB o then (if ruledB o then (if timedB o then 0 else 31) else 33) else 30
theorem ruled_none {o : OpV} (h : ruleOf o.kind o.meth = none) : ruledB o = false := by unfold ruledB; rw [h]
theorem ruled_some {o : OpV} {r : RowV} (h : ruleOf o.kind o.meth = some r) : ruledB o = fitB o r := by unfold ruledB; rw [h]
set_option maxHeartbeats 1000000 in
theorem named_any (o : OpV) (w : World) : Calls Tryz.prog 130 #[Value.agg #[Value.int .i64 o.id, Value.int .i64 o.proc, Value.int .i64 o.obj, Value.int .i64 o.kind, Value.int .i64 o.meth, Value.int .i64 o.arg, Value.int .i64 o.sec, Value.bool o.done, Value.int .i64 o.res, Value.int .i64 o.inv, Value.int .i64 o.ret]] w fun e w' => e = .returned (.bool (namedB o)) ∧ Below w.heap.size w w' := by
  obtain ⟨b1, h1⟩ : ∃ b, inB o.id 1 1073741824 = b := ⟨_, rfl⟩
  obtain ⟨b2, h2⟩ : ∃ b, inB o.proc 0 1023 = b := ⟨_, rfl⟩
  obtain ⟨b3, h3⟩ : ∃ b, inB o.obj 0 1023 = b := ⟨_, rfl⟩
  have hn := Lib.hid (show namedB o = (b1 && b2 && b3) by unfold namedB; rw [h1, h2, h3])
  have H1 := Lib.hid h1
  have H2 := Lib.hid h2
  have H3 := Lib.hid h3
  clear h1 h2 h3
  go_enter Tryz.func130, Tryz.ntmps130
  go_wp2_with fail
  refine (within_any _ _ _ _).mono ?_
  rintro _ _ ⟨rfl, rfl⟩
  rw [H1.out]
  cases b1
  · go_wp2_with fail
    go_returns
    exact ⟨by rw [hn.out]; rfl, by go_grown⟩
  · go_wp2_with fail
    refine (within_any _ _ _ _).mono ?_
    rintro _ _ ⟨rfl, rfl⟩
    rw [H2.out]
    cases b2
    · go_wp2_with fail
      go_returns
      exact ⟨by rw [hn.out]; rfl, by go_grown⟩
    · go_wp2_with fail
      refine (within_any _ _ _ _).mono ?_
      rintro _ _ ⟨rfl, rfl⟩
      rw [H3.out]
      go_wp2_with fail
      go_returns
      exact ⟨by rw [hn.out]; rfl, by go_grown⟩
set_option maxHeartbeats 1000000 in
theorem timed_any (o : OpV) (w : World) : Calls Tryz.prog 132 #[Value.agg #[Value.int .i64 o.id, Value.int .i64 o.proc, Value.int .i64 o.obj, Value.int .i64 o.kind, Value.int .i64 o.meth, Value.int .i64 o.arg, Value.int .i64 o.sec, Value.bool o.done, Value.int .i64 o.res, Value.int .i64 o.inv, Value.int .i64 o.ret]] w fun e w' => e = .returned (.bool (timedB o)) ∧ Below w.heap.size w w' := by
  obtain ⟨b1, h1⟩ : ∃ b, inB o.inv 0 1099511627776 = b := ⟨_, rfl⟩
  have H1 := Lib.hid h1
  cases hd : o.done
  · have hn := Lib.hid (show timedB o = (b1 && (o.ret == 0)) by unfold timedB; rw [h1, hd]; rfl)
    clear h1 hd
    go_enter Tryz.func132, Tryz.ntmps132
    go_wp2_with fail
    refine (within_any _ _ _ _).mono ?_
    rintro _ _ ⟨rfl, rfl⟩
    rw [H1.out]
    cases b1
    · go_wp2_with fail
      go_returns
      exact ⟨by rw [hn.out]; rfl, by go_grown⟩
    · go_wp2_with fail
      go_returns
      exact ⟨by rw [hn.out]; rfl, by go_grown⟩
  · by_cases c1 : o.inv < o.ret
    · have hn := Lib.hid (show timedB o = (b1 && decide (o.ret ≤ 1099511627776)) by unfold timedB; rw [h1, hd, decide_eq_true c1]; rfl)
      clear h1 hd
      go_enter Tryz.func132, Tryz.ntmps132
      go_wp2_with fail
      refine (within_any _ _ _ _).mono ?_
      rintro _ _ ⟨rfl, rfl⟩
      rw [H1.out]
      cases b1
      · go_wp2_with fail
        go_returns
        exact ⟨by rw [hn.out]; rfl, by go_grown⟩
      · go_wp2_with fail
        go_returns
        exact ⟨by rw [hn.out]; rfl, by go_grown⟩
    · have hn := Lib.hid (show timedB o = false by unfold timedB; rw [h1, hd, decide_eq_false c1]; cases b1 <;> rfl)
      clear h1 hd
      go_enter Tryz.func132, Tryz.ntmps132
      go_wp2_with fail
      refine (within_any _ _ _ _).mono ?_
      rintro _ _ ⟨rfl, rfl⟩
      rw [H1.out]
      cases b1
      · go_wp2_with fail
        go_returns
        exact ⟨by rw [hn.out]; rfl, by go_grown⟩
      · go_wp2_with fail
        go_returns
        exact ⟨by rw [hn.out]; rfl, by go_grown⟩
end Go.Proofs.YtcjfnfdinhbdlaaGreatDoor
