/- The disk of package block, as plain data, and where it lies in memory: over no dump. -/
import Derived.Test.YtfcicpcpdklceaaMem
namespace Go.Proofs.Ytfcicpcpdklceaa
open Go.ChangeShapes Go.WideShapes Go.ChangeAt Go.RowKit Go.PlainAid

/-- f, but s at k. -/
def upd (f : Nat → ByteArray) (k : Nat) (s : ByteArray) : Nat → ByteArray := fun i => if i = k then s else f i
theorem upd_same (f : Nat → ByteArray) (k : Nat) (s : ByteArray) : upd f k s k = s := if_pos rfl
theorem upd_other (f : Nat → ByteArray) {k i : Nat} (s : ByteArray) (h : i ≠ k) : upd f k s i = f i := if_neg h

/-- Late writes, done over blocks. -/
def done (f : Nat → ByteArray) (l : List (Nat × ByteArray)) : Nat → ByteArray := l.foldl (fun g x => upd g x.1 x.2) f
theorem done_snoc (f : Nat → ByteArray) (l : List (Nat × ByteArray)) (x : Nat × ByteArray) : done f (l ++ [x]) = upd (done f l) x.1 x.2 := by simp [done, List.foldl_append]
theorem done_nil (f : Nat → ByteArray) : done f [] = f := rfl
theorem done_off (f : Nat → ByteArray) (k : Nat) : ∀ (l : List (Nat × ByteArray)), (∀ x ∈ l, x.1 ≠ k) → done f l k = f k := by
  intro l
  induction l generalizing f with
  | nil => intro _; rfl
  | cons x l ih =>
    intro h
    show done (upd f x.1 x.2) l k = f k
    rw [ih _ (fun y hy => h y (List.mem_cons_of_mem _ hy)), upd_other _ _ (fun e => h x (List.mem_cons_self) e.symm)]

/-- A disk: how many blocks, the safe ones, late writes, the limit (below 0: none), whether the power is gone. -/
structure D where
  n : Nat
  safe : Nat → ByteArray
  late : List (Nat × ByteArray)
  limit : Int
  dark : Bool
/-- Each block as it was written last. -/
def D.last (d : D) : Nat → ByteArray := done d.safe d.late
structure D.Wf (d : D) : Prop where
  lo : 1 ≤ d.n
  hi : d.n ≤ 2048
  safe : ∀ k, k < d.n → (d.safe k).size = 256
  late : ∀ x ∈ d.late, x.1 < d.n ∧ x.2.size = 256
  llo : -1 ≤ d.limit
  lhi : d.limit ≤ 9223372036854775807
theorem done_size {n : Nat} : ∀ (l : List (Nat × ByteArray)) (f : Nat → ByteArray), (∀ k, k < n → (f k).size = 256) → (∀ x ∈ l, x.1 < n ∧ x.2.size = 256) → ∀ k, k < n → (done f l k).size = 256
  | [], _, hf, _ => hf
  | x :: l, f, hf, hl => by
    refine done_size l (upd f x.1 x.2) (fun k hk => ?_) (fun y hy => hl y (List.mem_cons_of_mem _ hy))
    by_cases e : k = x.1
    · subst e; rw [upd_same]; exact (hl x List.mem_cons_self).2
    · rw [upd_other _ _ e]; exact hf k hk
theorem D.Wf.last {d : D} (h : d.Wf) : ∀ k, k < d.n → (d.last k).size = 256 := done_size _ _ h.safe h.late

/-- The cells of late writes. -/
def lateCells (l : List (Nat × ByteArray)) : List Value := l.flatMap fun x => .int .i64 (x.1 : Int) :: textCells 256 x.2
theorem lateCells_length : ∀ (l : List (Nat × ByteArray)), (lateCells l).length = l.length * 257
  | [] => rfl
  | x :: l => by
    have := lateCells_length l
    unfold lateCells at *
    simp only [List.flatMap_cons, List.length_append, List.length_cons, length_textCells, this]
    omega
theorem lateCells_snoc (l : List (Nat × ByteArray)) (x : Nat × ByteArray) : lateCells (l ++ [x]) = lateCells l ++ (.int .i64 (x.1 : Int) :: textCells 256 x.2) := by simp [lateCells]
theorem lateCells_get : ∀ (l : List (Nat × ByteArray)) (i j : Nat) (x : Nat × ByteArray), l[i]? = some x → j < 257 → (lateCells l)[i * 257 + j]? = (Value.int .i64 (x.1 : Int) :: textCells 256 x.2)[j]?
  | [], _, _, _, h, _ => by simp at h
  | y :: l, 0, j, x, h, hj => by
    obtain rfl : y = x := by simpa using h
    unfold lateCells
    rw [List.flatMap_cons, Nat.zero_mul, Nat.zero_add, List.getElem?_append_left (by simp; omega)]
  | y :: l, i + 1, j, x, h, hj => by
    have := lateCells_get l i j x (by simpa using h) hj
    unfold lateCells at *
    have hl : (Value.int .i64 (y.1 : Int) :: textCells 256 y.2).length = 257 := by rw [List.length_cons, length_textCells]
    rw [List.flatMap_cons, List.getElem?_append_right (by rw [hl]; omega), ← this, hl, show (i + 1) * 257 + j - 257 = i * 257 + j by omega]

/-- Block b of w: n blocks of 256 bytes. -/
def Rows (t : TypeId) (w : World) (b n : Nat) (f : Nat → ByteArray) : Prop :=
  ∃ C : Array Value, w.heap[b]? = some (.cells C t (0, 0)) ∧ C.size = 256 * n ∧ ∀ k, k < n → ∀ j, j < 256 → C[k * 256 + j]? = some (.int .u8 (bt (f k) j))
theorem Rows.lt {t : TypeId} {w : World} {b n : Nat} {f : Nat → ByteArray} (h : Rows t w b n f) : b < w.heap.size := by
  obtain ⟨C, h, _⟩ := h
  rcases Nat.lt_or_ge b w.heap.size with c | c
  · exact c
  · rw [Array.getElem?_eq_none c] at h; cases h
theorem Rows.keep {t : TypeId} {w w' : World} {b n : Nat} {f : Nat → ByteArray} (h : Rows t w b n f) (e : w'.heap[b]? = w.heap[b]?) : Rows t w' b n f := by
  obtain ⟨C, h1, h2⟩ := h
  exact ⟨C, e.trans h1, h2⟩
theorem Rows.congr {t : TypeId} {w : World} {b n : Nat} {f g : Nat → ByteArray} (h : Rows t w b n f) (e : ∀ k, k < n → g k = f k) : Rows t w b n g := by
  obtain ⟨C, h1, h2, h3⟩ := h
  exact ⟨C, h1, h2, fun k hk j hj => by rw [e k hk]; exact h3 k hk j hj⟩
theorem Rows.range {t : TypeId} {w : World} {b n : Nat} {f : Nat → ByteArray} (h : Rows t w b n f) {k : Nat} (hk : k < n) : w.rangeAt b (k * 256) (textCells 256 (f k)) := by
  obtain ⟨C, h1, h2, h3⟩ := h
  exact rangeAt_text h1 (fun j hj => h3 k hk j hj)
theorem Rows.there {t : TypeId} {w : World} {b n : Nat} {f : Nat → ByteArray} (h : Rows t w b n f) {k : Nat} (hk : k < n) : w.there b (k * 256) 256 := by
  obtain ⟨C, h1, h2, h3⟩ := h
  intro j hj
  exact ⟨by rw [cell_of_row w b _ C t _ h1, h3 k hk j hj]; rfl, frozen_of_row w b _ C t h1⟩
/-- Part of a block stored anew. -/
theorem Rows.setCells {t : TypeId} {w : World} {b n : Nat} {f : Nat → ByteArray} (h : Rows t w b n f) {k : Nat} (hk : k < n) (s : ByteArray) (m : Nat) (hm : m ≤ 256) (g : Nat → ByteArray)
    (hg : ∀ i, i < n → i ≠ k → g i = f i) (hk1 : ∀ j, j < m → bt (g k) j = bt s j) (hk2 : ∀ j, m ≤ j → j < 256 → bt (g k) j = bt (f k) j) : Rows t (w.setCells b (k * 256) (textCells m s)) b n g := by
  obtain ⟨C, h1, h2, h3⟩ := h
  have hfit : k * 256 + m ≤ C.size := by omega
  obtain ⟨C', a1, a2, a3, a4⟩ := heap_setCells_same b t (textCells m s) (k * 256) w C h1 (by rw [length_textCells]; exact hfit)
  rw [length_textCells] at a3 a4
  refine ⟨C', a1, a2.trans h2, fun i hi j hj => ?_⟩
  by_cases e : i = k
  · subst e
    by_cases c : j < m
    · rw [a3 j c, textCells_get m s c, hk1 j c]
    · rw [a4 _ (by omega), h3 i hi j hj, hk2 j (by omega) hj]
  · rw [a4 _ (by omega), h3 i hi j hj, hg i hi e]
theorem Rows.set {t : TypeId} {w : World} {b n : Nat} {f : Nat → ByteArray} (h : Rows t w b n f) {k : Nat} (hk : k < n) (s : ByteArray) : Rows t (w.setCells b (k * 256) (textCells 256 s)) b n (upd f k s) :=
  h.setCells hk s 256 (Nat.le_refl _) _ (fun i _ e => upd_other _ _ e) (fun j _ => by rw [upd_same]) (fun j h1 h2 => by omega)

/-- The blocks of memory that a disk lies in: its head, the safe blocks, the last ones, the late writes (as a value; all from B on). -/
structure Foot where
  p : Nat
  S : Nat
  L : Nat
  B : Nat
  lv : Value
def Foot.own (F : Foot) (k : Nat) : Prop := k = F.p ∨ k = F.S ∨ k = F.L ∨ F.lv.ownBlock = some k

/-- A disk lies in memory. -/
structure DiskAt (tD tB tW : TypeId) (w : World) (F : Foot) (d : D) : Prop where
  head : w.heap[F.p]? = some (.cells #[.slice (some ⟨F.S, 0, none⟩) d.n d.n, .slice (some ⟨F.L, 0, none⟩) d.n d.n, F.lv, .int .i64 d.limit, .bool d.dark] tD (0, 0))
  safe : Rows tB w F.S d.n d.safe
  last : Rows tB w F.L d.n d.last
  late : w.ownsRow F.B tW 257 F.lv d.late.length (lateCells d.late)
  pB : F.p < F.B
  SB : F.S < F.B
  LB : F.L < F.B
  pS : F.p ≠ F.S
  pL : F.p ≠ F.L
  SL : F.S ≠ F.L
  base : F.B ≤ w.heap.size
  wf : d.Wf

section
variable {tD tB tW : TypeId} {w w' : World} {F : Foot} {d : D}
theorem DiskAt.own_lt (h : DiskAt tD tB tW w F d) {k : Nat} (hk : F.own k) : k < w.heap.size := by
  have h1 := h.base; have h2 := h.pB; have h3 := h.SB; have h4 := h.LB
  rcases hk with rfl | rfl | rfl | hk
  · omega
  · omega
  · omega
  · exact (h.late.lt k hk).2
theorem DiskAt.own_ne (h : DiskAt tD tB tW w F d) {k : Nat} (hk : F.lv.ownBlock = some k) : k ≠ F.p ∧ k ≠ F.S ∧ k ≠ F.L ∧ F.B ≤ k := by
  have h2 := h.pB; have h3 := h.SB; have h4 := h.LB
  have := (h.late.lt k hk).1
  omega
theorem DiskAt.keep (h : DiskAt tD tB tW w F d) (hs : w.heap.size ≤ w'.heap.size) (e : ∀ k, F.own k → w'.heap[k]? = w.heap[k]?) : DiskAt tD tB tW w' F d where
  head := (e _ (.inl rfl)).trans h.head
  safe := h.safe.keep (e _ (.inr (.inl rfl)))
  last := h.last.keep (e _ (.inr (.inr (.inl rfl))))
  late := by
    obtain ⟨h1, h2⟩ := h.late
    refine ⟨h1, ?_⟩
    rcases h2 with h2 | ⟨g, cap, cur, hv, hb, hg, h3⟩
    · exact .inl h2
    · exact .inr ⟨g, cap, cur, hv, hb, (e g (.inr (.inr (.inr (by rw [hv]; rfl))))).trans hg, h3⟩
  pB := h.pB
  SB := h.SB
  LB := h.LB
  pS := h.pS
  pL := h.pL
  SL := h.SL
  base := Nat.le_trans h.base hs
  wf := h.wf
theorem DiskAt.kept {own : Nat → Prop} (h : DiskAt tD tB tW w F d) (k : Keeps own w w') (ho : ∀ i, own i → F.own i → False) : DiskAt tD tB tW w' F d :=
  h.keep k.size fun i hi => k.block i (h.own_lt hi) fun c => ho i c hi
theorem DiskAt.below (h : DiskAt tD tB tW w F d) (k : Below w.heap.size w w') : DiskAt tD tB tW w' F d := h.keep k.size fun i hi => k.block i (h.own_lt hi)
/-- What the walk reads of the head. -/
theorem DiskAt.cells (h : DiskAt tD tB tW w F d) : w.cell? ⟨F.p, 0, none⟩ = some (.slice (some ⟨F.S, 0, none⟩) d.n d.n) ∧ w.cell? ⟨F.p, 1, none⟩ = some (.slice (some ⟨F.L, 0, none⟩) d.n d.n) ∧
    w.cell? ⟨F.p, 2, none⟩ = some F.lv ∧ w.cell? ⟨F.p, 3, none⟩ = some (.int .i64 d.limit) ∧ w.cell? ⟨F.p, 4, none⟩ = some (.bool d.dark) := by
  refine ⟨?_, ?_, ?_, ?_, ?_⟩ <;> rw [cell_of_row _ _ _ _ _ _ h.head] <;> rfl
theorem DiskAt.thaw (h : DiskAt tD tB tW w F d) (i : Nat) : w.frozen? ⟨F.p, i, none⟩ = false := frozen_of_row _ _ _ _ _ h.head
end

/-- 256 bytes 0. -/
def zeroText : ByteArray := ofFn 256 fun _ => 0
theorem zeroText_size : zeroText.size = 256 := ofFn_size _ _
theorem zeroText_bt (k : Nat) : bt zeroText k = 0 := by
  by_cases h : k < 256
  · exact ofFn_bt 256 (fun _ => 0) h (Int.le_refl _) (by decide)
  · exact bt_end _ (by rw [zeroText_size]; omega)
/-- A new disk. -/
def newD (n : Nat) : D := ⟨n, fun _ => zeroText, [], -1, false⟩
theorem newD_wf {n : Nat} (h0 : 1 ≤ n) (h1 : n ≤ 2048) : (newD n).Wf := ⟨h0, h1, fun _ _ => zeroText_size, fun x hx => (by cases hx), by show (-1 : Int) ≤ -1; omega, by show (-1 : Int) ≤ _; omega⟩
/-- The cells of n new blocks. -/
def zeroBlocks (n : Nat) : Array Value := madeCells (Array.replicate 256 (.int .u8 0)) (n * 256)
theorem zeroBlocks_rows {t : TypeId} {w : World} {b n : Nat} (h : w.heap[b]? = some (.cells (zeroBlocks n) t (0, 0))) : Rows t w b n fun _ => zeroText := by
  refine ⟨_, h, by unfold zeroBlocks; rw [size_madeCells]; omega, fun k hk j hj => ?_⟩
  rw [zeroText_bt]
  have hi : k * 256 + j < n * 256 := by omega
  simp only [zeroBlocks, madeCells, Array.getElem?_map, Array.getElem?_range, hi, if_true, Option.map_some]
  rw [getElem!_pos _ _ (by simp; omega)]
  simp

/-- The cells of a write that is empty. -/
def emptyWrite : Array Value := #[.int .i64 0] ++ Array.replicate 256 (.int .u8 0)
theorem emptyWrite_ne : ¬ emptyWrite = #[] := by
  intro h
  have := congrArg Array.size h
  simp [emptyWrite] at this
/-- .. of a write of a text. -/
def writeCells (k : Int) (s : ByteArray) : Array Value := (Value.int .i64 k :: textCells 256 s).toArray
theorem writeCells_size (k : Int) (s : ByteArray) : (writeCells k s).size = 257 := by simp [writeCells]
theorem writeCells_one (k : Int) (s : ByteArray) : ∀ v ∈ (writeCells k s).toList, v.oneCell' = true := by
  intro v hv
  simp only [writeCells, List.mem_cons] at hv
  rcases hv with rfl | hv
  · rfl
  · exact textCells_one _ _ v hv
theorem emptyWrite_get (j : Nat) (k : Int) : (emptyWrite.setIfInBounds 0 (.int .i64 k))[j]? = if j = 0 then some (.int .i64 k) else if j < 257 then some (.int .u8 0) else none := by
  rcases j with _ | j
  · simp [emptyWrite]
  · rw [if_neg (by omega), Array.getElem?_setIfInBounds_ne (by omega)]
    unfold emptyWrite
    rw [Array.getElem?_append_right (by simp)]
    simp only [List.size_toArray, List.length_cons, List.length_nil, Nat.zero_add, Nat.add_sub_cancel, Array.getElem?_replicate]
    by_cases c : j < 256
    · rw [if_pos c, if_pos (by omega)]
    · rw [if_neg c, if_neg (by omega)]
/-- copy(w.data[:], s). -/
theorem copy_write {P : Program} (w : World) (dT sT ty elem t : TypeId) (k : Int) (s : ByteArray) (hu : P.underlying dT = some (.slice elem)) (hs : (P.info? elem).map (·.size) = some 1) (hsz : s.size ≤ 256) :
    (Builtin.copy_ #[dT, sT] ty #[.slice (some ⟨w.heap.size, 1, none⟩) 256 256, .string s]).run P (w.alloc (.cells (emptyWrite.setIfInBounds 0 (.int .i64 k)) t)) = .ok (goInt s.size) (w.alloc (.cells (writeCells k s) t)) := by
  have hlen : (Lib.byteCells s.data.toList).length = s.size := by rw [Lib.byteCells_length, ← Lib.size_eq]
  have hcl : ((Lib.byteCells s.data.toList).take (min s.size 256)).length = s.size := by rw [List.length_take, hlen]; omega
  have e257 : (emptyWrite.setIfInBounds 0 (.int .i64 k)).size = 257 := by rw [Array.size_setIfInBounds]; simp [emptyWrite]
  have hst := run_storeCells_at P w.heap.size 1 t ((Lib.byteCells s.data.toList).take (min s.size 256)) 0 _ _ (heap_alloc_new w (.cells (emptyWrite.setIfInBounds 0 (.int .i64 k)) t)) (by rw [hcl, e257]; omega) (fun v hv => Lib.byteCells_one _ v (List.mem_of_mem_take hv))
  have hst' := hst
  simp only [Nat.add_zero, hcl, setRow_alloc] at hst'
  have hrow : ∀ l : List Value, l = (emptyWrite.setIfInBounds 0 (.int .i64 k)).toList → (l.take 1 ++ (Lib.byteCells s.data.toList).take (min s.size 256) ++ l.drop (1 + s.size)).toArray = writeCells k s := by
    intro l hl
    have hg : ∀ i, l[i]? = if i = 0 then some (.int .i64 k) else if i < 257 then some (.int .u8 0) else none := fun i => by rw [hl, Array.getElem?_toList, emptyWrite_get]
    have hll : l.length = 257 := by rw [hl, Array.length_toList, e257]
    apply congrArg List.toArray
    apply List.ext_getElem?
    intro i
    have ht : (l.take 1).length = 1 := by rw [List.length_take, hll]; rfl
    rcases i with _ | i
    · rw [List.append_assoc, List.getElem?_append_left (by rw [ht]; omega), List.getElem?_take_of_lt (by omega), hg 0]
      rfl
    · rw [List.append_assoc, List.getElem?_append_right (by rw [ht]; omega), ht, Nat.add_sub_cancel, List.getElem?_cons_succ]
      by_cases c : i < s.size
      · rw [List.getElem?_append_left (by rw [hcl]; exact c), List.getElem?_take_of_lt (by omega), textCells_get 256 s (by omega), bt_list]
        have hlt : i < s.data.toList.length := by simpa using c
        simp [Lib.byteCells, List.getElem?_eq_getElem hlt, List.getD_eq_getElem?_getD]
      · rw [List.getElem?_append_right (by rw [hcl]; omega), hcl, List.getElem?_drop, show 1 + s.size + (i - s.size) = i + 1 by omega, hg, if_neg (by omega)]
        by_cases c2 : i < 256
        · rw [if_pos (by omega), textCells_get 256 s c2, bt_end s (by omega)]
        · rw [if_neg (by omega), List.getElem?_eq_none (by rw [length_textCells]; omega)]
  cases hq : P.info? elem with
  | none => simp [hq] at hs
  | some i =>
    have hi : i.size = 1 := by simpa [hq] using hs
    simp [Builtin.copy_, run_underlying hu, Builtin.lenOf, Builtin.firstCells, sizeOf, typeInfo, hq]
    rw [hrow _ rfl] at hst'
    have hmin : min s.size 256 = s.size := Nat.min_eq_left hsz
    have hmin2 : s.size.min 256 = s.size := hmin
    rw [hmin] at hst'
    rw [hmin2]
    show ((Sem.run P (storeCells ⟨w.heap.size, 1, none⟩ ((Lib.byteCells s.data.toList).take s.size)) _).andThen fun a w' => Result.ok (goInt (s.size : Int)) w') = _
    rw [hst']
    rfl

/-- A text filled up with bytes 0 to 256. -/
def filled (s : ByteArray) : ByteArray := ofFn 256 (bt s)
theorem filled_size (s : ByteArray) : (filled s).size = 256 := ofFn_size _ _
theorem filled_bt (s : ByteArray) {k : Nat} (h : k < 256) : bt (filled s) k = bt s k := ofFn_bt _ _ h (bt_nonneg _ _) (bt_le _ _)
theorem textCells_filled (s : ByteArray) : textCells 256 (filled s) = textCells 256 s := by
  unfold textCells
  exact List.map_congr_left fun j hj => by rw [filled_bt s (List.mem_range.1 hj)]
/-- A disk behind a write that is late. -/
theorem DiskAt.wrote {tD tB tW : TypeId} {W w4 : World} {F : Foot} {d : D} (h : DiskAt tD tB tW W F d) (i : Nat) (hi : i < d.n) (s : ByteArray) (g cap : Nat) (hs : W.heap.size ≤ w4.heap.size)
    (e : ∀ k, k = F.p ∨ k = F.S ∨ k = F.L → w4.heap[k]? = W.heap[k]?)
    (hown : w4.ownsRow F.B tW 257 (.slice (some ⟨g, 0, none⟩) (d.late.length + 1) cap) (d.late.length + 1) (lateCells d.late ++ (writeCells i s).toList)) :
    DiskAt tD tB tW ((w4.setCell ⟨F.p, 2, none⟩ (.slice (some ⟨g, 0, none⟩) (d.late.length + 1) cap)).drew.setCells F.L (i * 256) (textCells 256 s)) { F with lv := .slice (some ⟨g, 0, none⟩) (d.late.length + 1) cap } { d with late := d.late ++ [(i, filled s)] } := by
  have hp4 : w4.heap[F.p]? = _ := (e _ (.inl rfl)).trans h.head
  have h5 := heap_setCell_same w4 F.p 2 _ _ (.slice (some ⟨g, 0, none⟩) (d.late.length + 1) cap) hp4
  have ho : ∀ k, k ≠ F.p → (w4.setCell ⟨F.p, 2, none⟩ (.slice (some ⟨g, 0, none⟩) (d.late.length + 1) cap)).drew.heap[k]? = w4.heap[k]? := fun k hk => heap_setCell_other w4 _ _ _ hk
  have hL : Rows tB (w4.setCell ⟨F.p, 2, none⟩ (.slice (some ⟨g, 0, none⟩) (d.late.length + 1) cap)).drew F.L d.n d.last := h.last.keep ((ho _ h.pL.symm).trans (e _ (.inr (.inr rfl))))
  have hsz : (w4.setCell ⟨F.p, 2, none⟩ (.slice (some ⟨g, 0, none⟩) (d.late.length + 1) cap)).drew.heap.size = w4.heap.size := World.size_setCell ..
  have pB := h.pB
  have LB := h.LB
  have hbase := h.base
  refine ⟨?_, ?_, ?_, ?_, h.pB, h.SB, h.LB, h.pS, h.pL, h.SL, ?_, ?_⟩
  · show (World.setCells _ F.L _ _).heap[F.p]? = _
    rw [heap_setCells_other _ _ h.pL]
    exact h5
  · refine Rows.keep h.safe ?_
    show (World.setCells _ F.L _ _).heap[F.S]? = _
    rw [heap_setCells_other _ _ h.SL, ho _ h.pS.symm]
    exact e _ (.inr (.inl rfl))
  · have := hL.set hi s
    refine Rows.setCells hL hi s 256 (Nat.le_refl _) _ (fun j _ hj => ?_) (fun j hj => ?_) (fun j h1 h2 => by omega)
    · show done d.safe (d.late ++ [(i, filled s)]) j = done d.safe d.late j
      rw [done_snoc, upd_other _ _ hj]
    · show bt (done d.safe (d.late ++ [(i, filled s)]) i) j = _
      rw [done_snoc, upd_same, filled_bt s hj]
  · obtain ⟨h1, h2⟩ := hown
    have hcells : lateCells d.late ++ (writeCells i s).toList = lateCells (d.late ++ [(i, filled s)]) := by
      rw [lateCells_snoc, textCells_filled]
      rfl
    have hlen : (d.late ++ [(i, filled s)]).length = d.late.length + 1 := by simp
    show World.ownsRow _ F.B tW 257 _ (d.late ++ [(i, filled s)]).length (lateCells (d.late ++ [(i, filled s)]))
    rw [hlen, ← hcells]
    refine ⟨h1, ?_⟩
    rcases h2 with h2 | ⟨g', cap', cur, hv, hb, hg, h3⟩
    · exact .inl h2
    · refine .inr ⟨g', cap', cur, hv, hb, ?_, h3⟩
      rw [heap_setCells_other _ _ (by omega), ho _ (by omega)]
      exact hg
  · show F.B ≤ (World.setCells _ F.L _ _).heap.size
    rw [size_setCells, hsz]
    omega
  · exact ⟨h.wf.lo, h.wf.hi, h.wf.safe, fun x hx => by
      rcases List.mem_append.1 hx with hx | hx
      · exact h.wf.late x hx
      · rw [List.mem_singleton] at hx
        subst hx
        exact ⟨hi, filled_size s⟩, h.wf.llo, h.wf.lhi⟩

/-- The late writes in memory: none, or a row. -/
theorem DiskAt.lates {tD tB tW : TypeId} {w : World} {F : Foot} {d : D} (h : DiskAt tD tB tW w F d) : F.lv = .slice none 0 0 ∧ d.late = [] ∨
    ∃ g cap, F.lv = .slice (some ⟨g, 0, none⟩) d.late.length cap ∧ F.B ≤ g ∧ g < w.heap.size ∧ F.lv.ownBlock = some g ∧ ∀ k x, d.late[k]? = some x → w.rangeAt g (k * 257) (writeCells x.1 x.2).toList := by
  obtain ⟨h1, h2⟩ := h.late
  rcases h2 with ⟨h2, h3⟩ | ⟨g, cap, cur, hv, hb, hg, hn, hc, hsz, ht⟩
  · exact .inl ⟨h2, List.eq_nil_of_length_eq_zero h3⟩
  · have ho : F.lv.ownBlock = some g := by rw [hv]; rfl
    refine .inr ⟨g, cap, hv, hb, (h.late.lt g ho).2, ho, fun k x hx j v hj => ?_⟩
    have hlt : j < 257 := by have := (List.getElem?_eq_some_iff.1 hj).1; simpa [writeCells] using this
    have hk : k < d.late.length := (List.getElem?_eq_some_iff.1 hx).1
    rw [cell_of_row w g _ cur _ _ hg]
    have h3 := lateCells_get d.late k j x hx hlt
    rw [← ht, List.getElem?_take_of_lt (by omega), Array.getElem?_toList] at h3
    rw [h3, ← hj]
    simp [writeCells]
/-- done, one write more. -/
theorem done_take (f : Nat → ByteArray) (l : List (Nat × ByteArray)) (k : Nat) (x : Nat × ByteArray) (h : l[k]? = some x) : done f (l.take (k + 1)) = upd (done f (l.take k)) x.1 x.2 := by
  obtain ⟨hk, hx⟩ := List.getElem?_eq_some_iff.1 h
  rw [List.take_succ_eq_append_getElem hk, hx, done_snoc]
/-- A disk behind a flush. -/
def D.flushed (d : D) : D := { d with safe := d.last, late := [] }
theorem DiskAt.flush {tD tB tW : TypeId} {w1 wr : World} {F : Foot} {d : D} (h : DiskAt tD tB tW w1 F d) (hk : Keeps (fun j => j = F.S) w1 wr) (hr : Rows tB wr F.S d.n d.last) :
    DiskAt tD tB tW (wr.setCell ⟨F.p, 2, none⟩ (.slice none 0 0)) { F with lv := .slice none 0 0 } d.flushed := by
  have hlt : ∀ k, F.own k → k ≠ F.S → wr.heap[k]? = w1.heap[k]? := fun k ho hne => hk.block k (h.own_lt ho) hne
  have hp := (hlt _ (.inl rfl) h.pS).trans h.head
  refine ⟨?_, ?_, ?_, World.ownsRow_nil _ _ _ _, h.pB, h.SB, h.LB, h.pS, h.pL, h.SL, ?_, ?_⟩
  · exact heap_setCell_same wr F.p 2 _ _ (.slice none 0 0) hp
  · exact hr.keep (heap_setCell_other _ _ _ _ h.pS.symm)
  · refine Rows.congr (h.last.keep ((heap_setCell_other _ _ _ _ h.pL.symm).trans (hlt _ (.inr (.inr (.inl rfl))) h.SL.symm))) fun k _ => rfl
  · have := hk.size
    have := h.base
    show F.B ≤ (wr.setCell _ _).heap.size
    rw [World.size_setCell]
    omega
  · exact ⟨h.wf.lo, h.wf.hi, h.wf.last, fun x hx => (by cases hx), h.wf.llo, h.wf.lhi⟩

/-- Is the bit of number i set in the mask? -/
def bitB (mask : Int) (i : Nat) : Bool := mask / 2 ^ (i % 64) % 2 == 1
/-- The first n bytes of a, and those of b behind them. -/
def mixed (a b : ByteArray) (n : Nat) : ByteArray := ofFn 256 fun j => if j < n then bt a j else bt b j
theorem mixed_size (a b : ByteArray) (n : Nat) : (mixed a b n).size = 256 := ofFn_size _ _
theorem mixed_bt (a b : ByteArray) (n : Nat) {j : Nat} (h : j < 256) : bt (mixed a b n) j = if j < n then bt a j else bt b j := by
  refine ofFn_bt _ _ h ?_ ?_ <;> (show _ ≤ _; split)
  · exact bt_nonneg _ _
  · exact bt_nonneg _ _
  · exact bt_le _ _
  · exact bt_le _ _
/-- How many bytes of the late write of number i a crash keeps. -/
def tornTo (torn cut : Int) (i : Nat) : Nat := if (i : Int) = torn then (min (max cut 0) 256).toNat else 256
theorem tornTo_le (torn cut : Int) (i : Nat) : tornTo torn cut i ≤ 256 := by unfold tornTo; split <;> omega
/-- The safe blocks behind k late writes of a crash. -/
def D.crashTo (d : D) (mask torn cut : Int) : Nat → Nat → ByteArray
  | 0 => d.safe
  | k + 1 => match d.late[k]? with
    | some x => if bitB mask k = true then upd (D.crashTo d mask torn cut k) x.1 (mixed x.2 (D.crashTo d mask torn cut k x.1) (tornTo torn cut k)) else D.crashTo d mask torn cut k
    | none => D.crashTo d mask torn cut k
theorem D.crashTo_kept {d : D} {mask torn cut : Int} {k : Nat} {x : Nat × ByteArray} (h : d.late[k]? = some x) (b : bitB mask k = true) : d.crashTo mask torn cut (k + 1) = upd (d.crashTo mask torn cut k) x.1 (mixed x.2 (d.crashTo mask torn cut k x.1) (tornTo torn cut k)) := by
  simp only [D.crashTo, h, b, if_true]
theorem D.crashTo_lost {d : D} {mask torn cut : Int} {k : Nat} {x : Nat × ByteArray} (h : d.late[k]? = some x) (b : bitB mask k = false) : d.crashTo mask torn cut (k + 1) = d.crashTo mask torn cut k := by
  simp [D.crashTo, h, b]
theorem D.crashTo_none {d : D} {mask torn cut : Int} {k : Nat} (h : d.late[k]? = none) : d.crashTo mask torn cut (k + 1) = d.crashTo mask torn cut k := by
  simp [D.crashTo, h]
theorem D.crashTo_size {d : D} (w : d.Wf) (mask torn cut : Int) : ∀ k j, j < d.n → (d.crashTo mask torn cut k j).size = 256
  | 0, j, hj => w.safe j hj
  | k + 1, j, hj => by
    have ih := D.crashTo_size w mask torn cut k
    cases hx : d.late[k]? with
    | none => rw [D.crashTo_none hx]; exact ih j hj
    | some x =>
      cases b : bitB mask k with
      | false => rw [D.crashTo_lost hx b]; exact ih j hj
      | true =>
        rw [D.crashTo_kept hx b]
        by_cases e : j = x.1
        · rw [e, upd_same, mixed_size]
        · rw [upd_other _ _ e]; exact ih j hj
theorem D.crashTo_off {d : D} (mask torn cut : Int) (j : Nat) (h : ∀ x ∈ d.late, x.1 ≠ j) : ∀ k, d.crashTo mask torn cut k j = d.safe j
  | 0 => rfl
  | k + 1 => by
    have ih := D.crashTo_off mask torn cut j h k
    cases hx : d.late[k]? with
    | none => rw [D.crashTo_none hx]; exact ih
    | some x =>
      cases b : bitB mask k with
      | false => rw [D.crashTo_lost hx b]; exact ih
      | true =>
        rw [D.crashTo_kept hx b, upd_other _ _ (fun e => h x (List.mem_of_getElem? hx) e.symm)]
        exact ih
/-- A disk behind a crash. -/
def D.crash (d : D) (mask torn cut : Int) : D := ⟨d.n, d.crashTo mask torn cut d.late.length, [], -1, false⟩
/-- What is told of the blocks, behind k of the crash's second round. -/
def relast (f g : Nat → ByteArray) (l : List (Nat × ByteArray)) : Nat → ByteArray := l.foldl (fun h x => upd h x.1 (g x.1)) f
theorem relast_take (f g : Nat → ByteArray) (l : List (Nat × ByteArray)) (k : Nat) (x : Nat × ByteArray) (h : l[k]? = some x) : relast f g (l.take (k + 1)) = upd (relast f g (l.take k)) x.1 (g x.1) := by
  obtain ⟨hk, hx⟩ := List.getElem?_eq_some_iff.1 h
  rw [List.take_succ_eq_append_getElem hk, hx]
  simp [relast, List.foldl_append]
theorem relast_eq (g : Nat → ByteArray) (j : Nat) : ∀ (l : List (Nat × ByteArray)) (f : Nat → ByteArray), (f j = g j ∨ ∃ x ∈ l, x.1 = j) → relast f g l j = g j
  | [], f, h => by
    rcases h with h | ⟨x, hx, _⟩
    · exact h
    · cases hx
  | y :: l, f, h => by
    show relast (upd f y.1 (g y.1)) g l j = g j
    refine relast_eq g j l _ ?_
    by_cases e : j = y.1
    · left; rw [e, upd_same]
    · rcases h with h | ⟨x, hx, hj⟩
      · left; rw [upd_other _ _ e]; exact h
      · right
        rcases List.mem_cons.1 hx with rfl | hx
        · exact absurd hj.symm e
        · exact ⟨x, hx, hj⟩
theorem D.relast_crash (d : D) (mask torn cut : Int) (j : Nat) : relast d.last (d.crashTo mask torn cut d.late.length) d.late j = d.crashTo mask torn cut d.late.length j := by
  refine relast_eq _ j _ _ ?_
  by_cases h : ∃ x ∈ d.late, x.1 = j
  · exact .inr h
  · left
    have hn : ∀ x ∈ d.late, x.1 ≠ j := fun x hx e => h ⟨x, hx, e⟩
    rw [D.crashTo_off mask torn cut j hn]
    exact done_off d.safe j d.late hn
theorem D.crash_wf {d : D} (w : d.Wf) (mask torn cut : Int) : (d.crash mask torn cut).Wf := ⟨w.lo, w.hi, D.crashTo_size w mask torn cut _, fun x hx => (by cases hx), by show (-1 : Int) ≤ -1; omega, by show (-1 : Int) ≤ _; omega⟩
/-- The disk behind a crash, in memory: S and L are as the crash left them; the head's other cells. -/
theorem DiskAt.crashed {tD tB tW : TypeId} {w wr : World} {F : Foot} {d : D} (h : DiskAt tD tB tW w F d) (mask torn cut : Int) (hk : Keeps (fun j => j = F.S ∨ j = F.L) w wr) (hS : Rows tB wr F.S d.n (d.crashTo mask torn cut d.late.length)) (hL : Rows tB wr F.L d.n (d.crashTo mask torn cut d.late.length)) :
    DiskAt tD tB tW (((wr.setCell ⟨F.p, 2, none⟩ (.slice none 0 0)).setCell ⟨F.p, 3, none⟩ (.int .i64 (-1))).setCell ⟨F.p, 4, none⟩ (.bool false)) { F with lv := .slice none 0 0 } (d.crash mask torn cut) := by
  have hp := (hk.block F.p (h.own_lt (.inl rfl)) (fun c => by rcases c with c | c; exact h.pS c; exact h.pL c)).trans h.head
  have h1 := heap_setCell_same wr F.p 2 _ _ (.slice none 0 0) hp
  have h2 := heap_setCell_same _ F.p 3 _ _ (.int .i64 (-1)) h1
  have h3 := heap_setCell_same _ F.p 4 _ _ (.bool false) h2
  have ho : ∀ k, k ≠ F.p → (((wr.setCell ⟨F.p, 2, none⟩ (.slice none 0 0)).setCell ⟨F.p, 3, none⟩ (.int .i64 (-1))).setCell ⟨F.p, 4, none⟩ (.bool false)).heap[k]? = wr.heap[k]? := fun k hk => by
    rw [heap_setCell_other _ _ _ _ hk, heap_setCell_other _ _ _ _ hk, heap_setCell_other _ _ _ _ hk]
  refine ⟨h3, hS.keep (ho _ h.pS.symm), hL.keep (ho _ h.pL.symm), World.ownsRow_nil _ _ _ _, h.pB, h.SB, h.LB, h.pS, h.pL, h.SL, ?_, D.crash_wf h.wf mask torn cut⟩
  have := hk.size
  have := h.base
  show F.B ≤ _
  rw [World.size_setCell, World.size_setCell, World.size_setCell]
  omega
end Go.Proofs.Ytfcicpcpdklceaa
