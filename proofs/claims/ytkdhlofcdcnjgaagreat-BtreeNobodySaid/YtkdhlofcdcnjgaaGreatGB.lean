/- The disk of package block, as plain data, and where it lies in memory: over no dump. Contracts of package block: Len, made, ready, reach, spend, over a disk, and over none. Contracts of package block: New, Read. Contracts of package block: Write. Contracts of package block: Flush, Limit. Contracts of package block: Crash. -/
import Derived.Test.YtkdhlofcdcnjgaaGreatGA
import Derived.Test.YtkdhlofcdcnjgaaGreatRows
import Derived.RegionTactic
import Derived.Deep.RegionLaw
import Derived.StillTailTactics
namespace Go.Proofs.YtkdhlofcdcnjgaaGreat
open Go.ChangeShapes Go.WideShapes Go.ChangeAt Go.RowKit Go.PlainAid

/-- f, but s at k. -/
def upd (f : Nat → ByteArray) (k : Nat) (s : ByteArray) : Nat → ByteArray := fun i => if i = k then s else f i
theorem upd_same (f : Nat → ByteArray) (k : Nat) (s : ByteArray) : upd f k s k = s := if_pos rfl
theorem upd_other (f : Nat → ByteArray) {k i : Nat} (s : ByteArray) (h : i ≠ k) : upd f k s i = f i := if_neg h

/-- Late writes, done over blocks. -/
def done (f : Nat → ByteArray) (l : List (Nat × ByteArray)) : Nat → ByteArray := l.foldl (fun g x => upd g x.1 x.2) f
theorem done_snoc (f : Nat → ByteArray) (l : List (Nat × ByteArray)) (x : Nat × ByteArray) : done f (l ++ [x]) = upd (done f l) x.1 x.2 := by simp [done, List.foldl_append]
theorem done_nil (f : Nat → ByteArray) : done f [] = f := rfl
theorem done_off (f : Nat → ByteArray) (k : Nat) : ∀ (l : List (Nat × ByteArray)), (∀ x ∈ l, x.1 ≠ k) → done f l k = f k := by
  intro l
  induction l generalizing f with
  | nil => intro _; rfl
  | cons x l ih =>
    intro h
    show done (upd f x.1 x.2) l k = f k
    rw [ih _ (fun y hy => h y (List.mem_cons_of_mem _ hy)), upd_other _ _ (fun e => h x (List.mem_cons_self) e.symm)]

/-- A disk: how many blocks, the safe ones, late writes, the limit (below 0: none), whether the power is gone. -/
structure D where
  n : Nat
  safe : Nat → ByteArray
  late : List (Nat × ByteArray)
  limit : Int
  dark : Bool
/-- Each block as it was written last. -/
def D.last (d : D) : Nat → ByteArray := done d.safe d.late
structure D.Wf (d : D) : Prop where
  lo : 1 ≤ d.n
  hi : d.n ≤ 2048
  safe : ∀ k, k < d.n → (d.safe k).size = 256
  late : ∀ x ∈ d.late, x.1 < d.n ∧ x.2.size = 256
  llo : -1 ≤ d.limit
  lhi : d.limit ≤ 9223372036854775807
theorem done_size {n : Nat} : ∀ (l : List (Nat × ByteArray)) (f : Nat → ByteArray), (∀ k, k < n → (f k).size = 256) → (∀ x ∈ l, x.1 < n ∧ x.2.size = 256) → ∀ k, k < n → (done f l k).size = 256
  | [], _, hf, _ => hf
  | x :: l, f, hf, hl => by
    refine done_size l (upd f x.1 x.2) (fun k hk => ?_) (fun y hy => hl y (List.mem_cons_of_mem _ hy))
    by_cases e : k = x.1
    · subst e; rw [upd_same]; exact (hl x List.mem_cons_self).2
    · rw [upd_other _ _ e]; exact hf k hk
theorem D.Wf.last {d : D} (h : d.Wf) : ∀ k, k < d.n → (d.last k).size = 256 := done_size _ _ h.safe h.late

/-- The cells of late writes. -/
def lateCells (l : List (Nat × ByteArray)) : List Value := l.flatMap fun x => .int .i64 (x.1 : Int) :: textCells 256 x.2
theorem lateCells_length : ∀ (l : List (Nat × ByteArray)), (lateCells l).length = l.length * 257
  | [] => rfl
  | x :: l => by
    have := lateCells_length l
    unfold lateCells at *
    simp only [List.flatMap_cons, List.length_append, List.length_cons, length_textCells, this]
    omega
theorem lateCells_snoc (l : List (Nat × ByteArray)) (x : Nat × ByteArray) : lateCells (l ++ [x]) = lateCells l ++ (.int .i64 (x.1 : Int) :: textCells 256 x.2) := by simp [lateCells]
theorem lateCells_get : ∀ (l : List (Nat × ByteArray)) (i j : Nat) (x : Nat × ByteArray), l[i]? = some x → j < 257 → (lateCells l)[i * 257 + j]? = (Value.int .i64 (x.1 : Int) :: textCells 256 x.2)[j]?
  | [], _, _, _, h, _ => by simp at h
  | y :: l, 0, j, x, h, hj => by
    obtain rfl : y = x := by simpa using h
    unfold lateCells
    rw [List.flatMap_cons, Nat.zero_mul, Nat.zero_add, List.getElem?_append_left (by simp; omega)]
  | y :: l, i + 1, j, x, h, hj => by
    have := lateCells_get l i j x (by simpa using h) hj
    unfold lateCells at *
    have hl : (Value.int .i64 (y.1 : Int) :: textCells 256 y.2).length = 257 := by rw [List.length_cons, length_textCells]
    rw [List.flatMap_cons, List.getElem?_append_right (by rw [hl]; omega), ← this, hl, show (i + 1) * 257 + j - 257 = i * 257 + j by omega]

/-- Block b of w: n blocks of 256 bytes. -/
def Rows (t : TypeId) (w : World) (b n : Nat) (f : Nat → ByteArray) : Prop :=
  ∃ C : Array Value, w.heap[b]? = some (.cells C t (0, 0)) ∧ C.size = 256 * n ∧ ∀ k, k < n → ∀ j, j < 256 → C[k * 256 + j]? = some (.int .u8 (bt (f k) j))
theorem Rows.lt {t : TypeId} {w : World} {b n : Nat} {f : Nat → ByteArray} (h : Rows t w b n f) : b < w.heap.size := by
  obtain ⟨C, h, _⟩ := h
  rcases Nat.lt_or_ge b w.heap.size with c | c
  · exact c
  · rw [Array.getElem?_eq_none c] at h; cases h
theorem Rows.keep {t : TypeId} {w w' : World} {b n : Nat} {f : Nat → ByteArray} (h : Rows t w b n f) (e : w'.heap[b]? = w.heap[b]?) : Rows t w' b n f := by
  obtain ⟨C, h1, h2⟩ := h
  exact ⟨C, e.trans h1, h2⟩
theorem Rows.congr {t : TypeId} {w : World} {b n : Nat} {f g : Nat → ByteArray} (h : Rows t w b n f) (e : ∀ k, k < n → g k = f k) : Rows t w b n g := by
  obtain ⟨C, h1, h2, h3⟩ := h
  exact ⟨C, h1, h2, fun k hk j hj => by rw [e k hk]; exact h3 k hk j hj⟩
theorem Rows.range {t : TypeId} {w : World} {b n : Nat} {f : Nat → ByteArray} (h : Rows t w b n f) {k : Nat} (hk : k < n) : w.rangeAt b (k * 256) (textCells 256 (f k)) := by
  obtain ⟨C, h1, h2, h3⟩ := h
  exact rangeAt_text h1 (fun j hj => h3 k hk j hj)
theorem Rows.there {t : TypeId} {w : World} {b n : Nat} {f : Nat → ByteArray} (h : Rows t w b n f) {k : Nat} (hk : k < n) : w.there b (k * 256) 256 := by
  obtain ⟨C, h1, h2, h3⟩ := h
  intro j hj
  exact ⟨by rw [cell_of_row w b _ C t _ h1, h3 k hk j hj]; rfl, frozen_of_row w b _ C t h1⟩
/-- Part of a block stored anew. -/
theorem Rows.setCells {t : TypeId} {w : World} {b n : Nat} {f : Nat → ByteArray} (h : Rows t w b n f) {k : Nat} (hk : k < n) (s : ByteArray) (m : Nat) (hm : m ≤ 256) (g : Nat → ByteArray)
    (hg : ∀ i, i < n → i ≠ k → g i = f i) (hk1 : ∀ j, j < m → bt (g k) j = bt s j) (hk2 : ∀ j, m ≤ j → j < 256 → bt (g k) j = bt (f k) j) : Rows t (w.setCells b (k * 256) (textCells m s)) b n g := by
  obtain ⟨C, h1, h2, h3⟩ := h
  have hfit : k * 256 + m ≤ C.size := by omega
  obtain ⟨C', a1, a2, a3, a4⟩ := heap_setCells_same b t (textCells m s) (k * 256) w C h1 (by rw [length_textCells]; exact hfit)
  rw [length_textCells] at a3 a4
  refine ⟨C', a1, a2.trans h2, fun i hi j hj => ?_⟩
  by_cases e : i = k
  · subst e
    by_cases c : j < m
    · rw [a3 j c, textCells_get m s c, hk1 j c]
    · rw [a4 _ (by omega), h3 i hi j hj, hk2 j (by omega) hj]
  · rw [a4 _ (by omega), h3 i hi j hj, hg i hi e]
theorem Rows.set {t : TypeId} {w : World} {b n : Nat} {f : Nat → ByteArray} (h : Rows t w b n f) {k : Nat} (hk : k < n) (s : ByteArray) : Rows t (w.setCells b (k * 256) (textCells 256 s)) b n (upd f k s) :=
  h.setCells hk s 256 (Nat.le_refl _) _ (fun i _ e => upd_other _ _ e) (fun j _ => by rw [upd_same]) (fun j h1 h2 => by omega)

/-- The blocks of memory that a disk lies in: its head, the safe blocks, the last ones, the late writes (as a value; all from B on). -/
structure Foot where
  p : Nat
  S : Nat
  L : Nat
  B : Nat
  lv : Value
def Foot.own (F : Foot) (k : Nat) : Prop := k = F.p ∨ k = F.S ∨ k = F.L ∨ F.lv.ownBlock = some k

/-- A disk lies in memory. -/
structure DiskAt (tD tB tW : TypeId) (w : World) (F : Foot) (d : D) : Prop where
  head : w.heap[F.p]? = some (.cells #[.slice (some ⟨F.S, 0, none⟩) d.n d.n, .slice (some ⟨F.L, 0, none⟩) d.n d.n, F.lv, .int .i64 d.limit, .bool d.dark] tD (0, 0))
  safe : Rows tB w F.S d.n d.safe
  last : Rows tB w F.L d.n d.last
  late : w.ownsRow F.B tW 257 F.lv d.late.length (lateCells d.late)
  pB : F.p < F.B
  SB : F.S < F.B
  LB : F.L < F.B
  pS : F.p ≠ F.S
  pL : F.p ≠ F.L
  SL : F.S ≠ F.L
  base : F.B ≤ w.heap.size
  wf : d.Wf

section
variable {tD tB tW : TypeId} {w w' : World} {F : Foot} {d : D}
theorem DiskAt.own_lt (h : DiskAt tD tB tW w F d) {k : Nat} (hk : F.own k) : k < w.heap.size := by
  have h1 := h.base; have h2 := h.pB; have h3 := h.SB; have h4 := h.LB
  rcases hk with rfl | rfl | rfl | hk
  · omega
  · omega
  · omega
  · exact (h.late.lt k hk).2
theorem DiskAt.own_ne (h : DiskAt tD tB tW w F d) {k : Nat} (hk : F.lv.ownBlock = some k) : k ≠ F.p ∧ k ≠ F.S ∧ k ≠ F.L ∧ F.B ≤ k := by
  have h2 := h.pB; have h3 := h.SB; have h4 := h.LB
  have := (h.late.lt k hk).1
  omega
theorem DiskAt.keep (h : DiskAt tD tB tW w F d) (hs : w.heap.size ≤ w'.heap.size) (e : ∀ k, F.own k → w'.heap[k]? = w.heap[k]?) : DiskAt tD tB tW w' F d where
  head := (e _ (.inl rfl)).trans h.head
  safe := h.safe.keep (e _ (.inr (.inl rfl)))
  last := h.last.keep (e _ (.inr (.inr (.inl rfl))))
  late := by
    obtain ⟨h1, h2⟩ := h.late
    refine ⟨h1, ?_⟩
    rcases h2 with h2 | ⟨g, cap, cur, hv, hb, hg, h3⟩
    · exact .inl h2
    · exact .inr ⟨g, cap, cur, hv, hb, (e g (.inr (.inr (.inr (by rw [hv]; rfl))))).trans hg, h3⟩
  pB := h.pB
  SB := h.SB
  LB := h.LB
  pS := h.pS
  pL := h.pL
  SL := h.SL
  base := Nat.le_trans h.base hs
  wf := h.wf
theorem DiskAt.kept {own : Nat → Prop} (h : DiskAt tD tB tW w F d) (k : Keeps own w w') (ho : ∀ i, own i → F.own i → False) : DiskAt tD tB tW w' F d :=
  h.keep k.size fun i hi => k.block i (h.own_lt hi) fun c => ho i c hi
theorem DiskAt.below (h : DiskAt tD tB tW w F d) (k : Below w.heap.size w w') : DiskAt tD tB tW w' F d := h.keep k.size fun i hi => k.block i (h.own_lt hi)
/-- What the walk reads of the head. -/
theorem DiskAt.cells (h : DiskAt tD tB tW w F d) : w.cell? ⟨F.p, 0, none⟩ = some (.slice (some ⟨F.S, 0, none⟩) d.n d.n) ∧ w.cell? ⟨F.p, 1, none⟩ = some (.slice (some ⟨F.L, 0, none⟩) d.n d.n) ∧
    w.cell? ⟨F.p, 2, none⟩ = some F.lv ∧ w.cell? ⟨F.p, 3, none⟩ = some (.int .i64 d.limit) ∧ w.cell? ⟨F.p, 4, none⟩ = some (.bool d.dark) := by
  refine ⟨?_, ?_, ?_, ?_, ?_⟩ <;> rw [cell_of_row _ _ _ _ _ _ h.head] <;> rfl
theorem DiskAt.thaw (h : DiskAt tD tB tW w F d) (i : Nat) : w.frozen? ⟨F.p, i, none⟩ = false := frozen_of_row _ _ _ _ _ h.head
end

/-- 256 bytes 0. -/
def zeroText : ByteArray := ofFn 256 fun _ => 0
theorem zeroText_size : zeroText.size = 256 := ofFn_size _ _
theorem zeroText_bt (k : Nat) : bt zeroText k = 0 := by
  by_cases h : k < 256
  · exact ofFn_bt 256 (fun _ => 0) h (Int.le_refl _) (by decide)
  · exact bt_end _ (by rw [zeroText_size]; omega)
/-- A new disk. -/
def newD (n : Nat) : D := ⟨n, fun _ => zeroText, [], -1, false⟩
theorem newD_wf {n : Nat} (h0 : 1 ≤ n) (h1 : n ≤ 2048) : (newD n).Wf := ⟨h0, h1, fun _ _ => zeroText_size, fun x hx => (by cases hx), by show (-1 : Int) ≤ -1; omega, by show (-1 : Int) ≤ _; omega⟩
/-- The cells of n new blocks. -/
def zeroBlocks (n : Nat) : Array Value := madeCells (Array.replicate 256 (.int .u8 0)) (n * 256)
theorem zeroBlocks_rows {t : TypeId} {w : World} {b n : Nat} (h : w.heap[b]? = some (.cells (zeroBlocks n) t (0, 0))) : Rows t w b n fun _ => zeroText := by
  refine ⟨_, h, by unfold zeroBlocks; rw [size_madeCells]; omega, fun k hk j hj => ?_⟩
  rw [zeroText_bt]
  have hi : k * 256 + j < n * 256 := by omega
  simp only [zeroBlocks, madeCells, Array.getElem?_map, Array.getElem?_range, hi, if_true, Option.map_some]
  rw [getElem!_pos _ _ (by simp; omega)]
  simp

/-- The cells of a write that is empty. -/
def emptyWrite : Array Value := #[.int .i64 0] ++ Array.replicate 256 (.int .u8 0)
theorem emptyWrite_ne : ¬ emptyWrite = #[] := by
  intro h
  have := congrArg Array.size h
  simp [emptyWrite] at this
/-- .. of a write of a text. -/
def writeCells (k : Int) (s : ByteArray) : Array Value := (Value.int .i64 k :: textCells 256 s).toArray
theorem writeCells_size (k : Int) (s : ByteArray) : (writeCells k s).size = 257 := by simp [writeCells]
theorem writeCells_one (k : Int) (s : ByteArray) : ∀ v ∈ (writeCells k s).toList, v.oneCell' = true := by
  intro v hv
  simp only [writeCells, List.mem_cons] at hv
  rcases hv with rfl | hv
  · rfl
  · exact textCells_one _ _ v hv
theorem emptyWrite_get (j : Nat) (k : Int) : (emptyWrite.setIfInBounds 0 (.int .i64 k))[j]? = if j = 0 then some (.int .i64 k) else if j < 257 then some (.int .u8 0) else none := by
  rcases j with _ | j
  · simp [emptyWrite]
  · rw [if_neg (by omega), Array.getElem?_setIfInBounds_ne (by omega)]
    unfold emptyWrite
    rw [Array.getElem?_append_right (by simp)]
    simp only [List.size_toArray, List.length_cons, List.length_nil, Nat.zero_add, Nat.add_sub_cancel, Array.getElem?_replicate]
    by_cases c : j < 256
    · rw [if_pos c, if_pos (by omega)]
    · rw [if_neg c, if_neg (by omega)]
/-- copy(w.data[:], s). -/
theorem copy_write {P : Program} (w : World) (dT sT ty elem t : TypeId) (k : Int) (s : ByteArray) (hu : P.underlying dT = some (.slice elem)) (hs : (P.info? elem).map (·.size) = some 1) (hsz : s.size ≤ 256) :
    (Builtin.copy_ #[dT, sT] ty #[.slice (some ⟨w.heap.size, 1, none⟩) 256 256, .string s]).run P (w.alloc (.cells (emptyWrite.setIfInBounds 0 (.int .i64 k)) t)) = .ok (goInt s.size) (w.alloc (.cells (writeCells k s) t)) := by
  have hlen : (Lib.byteCells s.data.toList).length = s.size := by rw [Lib.byteCells_length, ← Lib.size_eq]
  have hcl : ((Lib.byteCells s.data.toList).take (min s.size 256)).length = s.size := by rw [List.length_take, hlen]; omega
  have e257 : (emptyWrite.setIfInBounds 0 (.int .i64 k)).size = 257 := by rw [Array.size_setIfInBounds]; simp [emptyWrite]
  have hst := run_storeCells_at P w.heap.size 1 t ((Lib.byteCells s.data.toList).take (min s.size 256)) 0 _ _ (heap_alloc_new w (.cells (emptyWrite.setIfInBounds 0 (.int .i64 k)) t)) (by rw [hcl, e257]; omega) (fun v hv => Lib.byteCells_one _ v (List.mem_of_mem_take hv))
  have hst' := hst
  simp only [Nat.add_zero, hcl, setRow_alloc] at hst'
  have hrow : ∀ l : List Value, l = (emptyWrite.setIfInBounds 0 (.int .i64 k)).toList → (l.take 1 ++ (Lib.byteCells s.data.toList).take (min s.size 256) ++ l.drop (1 + s.size)).toArray = writeCells k s := by
    intro l hl
    have hg : ∀ i, l[i]? = if i = 0 then some (.int .i64 k) else if i < 257 then some (.int .u8 0) else none := fun i => by rw [hl, Array.getElem?_toList, emptyWrite_get]
    have hll : l.length = 257 := by rw [hl, Array.length_toList, e257]
    apply congrArg List.toArray
    apply List.ext_getElem?
    intro i
    have ht : (l.take 1).length = 1 := by rw [List.length_take, hll]; rfl
    rcases i with _ | i
    · rw [List.append_assoc, List.getElem?_append_left (by rw [ht]; omega), List.getElem?_take_of_lt (by omega), hg 0]
      rfl
    · rw [List.append_assoc, List.getElem?_append_right (by rw [ht]; omega), ht, Nat.add_sub_cancel, List.getElem?_cons_succ]
      by_cases c : i < s.size
      · rw [List.getElem?_append_left (by rw [hcl]; exact c), List.getElem?_take_of_lt (by omega), textCells_get 256 s (by omega), bt_list]
        have hlt : i < s.data.toList.length := by simpa using c
        simp [Lib.byteCells, List.getElem?_eq_getElem hlt, List.getD_eq_getElem?_getD]
      · rw [List.getElem?_append_right (by rw [hcl]; omega), hcl, List.getElem?_drop, show 1 + s.size + (i - s.size) = i + 1 by omega, hg, if_neg (by omega)]
        by_cases c2 : i < 256
        · rw [if_pos (by omega), textCells_get 256 s c2, bt_end s (by omega)]
        · rw [if_neg (by omega), List.getElem?_eq_none (by rw [length_textCells]; omega)]
  cases hq : P.info? elem with
  | none => simp [hq] at hs
  | some i =>
    have hi : i.size = 1 := by simpa [hq] using hs
    simp [Builtin.copy_, run_underlying hu, Builtin.lenOf, Builtin.firstCells, sizeOf, typeInfo, hq]
    rw [hrow _ rfl] at hst'
    have hmin : min s.size 256 = s.size := Nat.min_eq_left hsz
    have hmin2 : s.size.min 256 = s.size := hmin
    rw [hmin] at hst'
    rw [hmin2]
    show ((Sem.run P (storeCells ⟨w.heap.size, 1, none⟩ ((Lib.byteCells s.data.toList).take s.size)) _).andThen fun a w' => Result.ok (goInt (s.size : Int)) w') = _
    rw [hst']
    rfl

/-- A text filled up with bytes 0 to 256. -/
def filled (s : ByteArray) : ByteArray := ofFn 256 (bt s)
theorem filled_size (s : ByteArray) : (filled s).size = 256 := ofFn_size _ _
theorem filled_bt (s : ByteArray) {k : Nat} (h : k < 256) : bt (filled s) k = bt s k := ofFn_bt _ _ h (bt_nonneg _ _) (bt_le _ _)
theorem textCells_filled (s : ByteArray) : textCells 256 (filled s) = textCells 256 s := by
  unfold textCells
  exact List.map_congr_left fun j hj => by rw [filled_bt s (List.mem_range.1 hj)]
/-- A disk behind a write that is late. -/
theorem DiskAt.wrote {tD tB tW : TypeId} {W w4 : World} {F : Foot} {d : D} (h : DiskAt tD tB tW W F d) (i : Nat) (hi : i < d.n) (s : ByteArray) (g cap : Nat) (hs : W.heap.size ≤ w4.heap.size)
    (e : ∀ k, k = F.p ∨ k = F.S ∨ k = F.L → w4.heap[k]? = W.heap[k]?)
    (hown : w4.ownsRow F.B tW 257 (.slice (some ⟨g, 0, none⟩) (d.late.length + 1) cap) (d.late.length + 1) (lateCells d.late ++ (writeCells i s).toList)) :
    DiskAt tD tB tW ((w4.setCell ⟨F.p, 2, none⟩ (.slice (some ⟨g, 0, none⟩) (d.late.length + 1) cap)).drew.setCells F.L (i * 256) (textCells 256 s)) { F with lv := .slice (some ⟨g, 0, none⟩) (d.late.length + 1) cap } { d with late := d.late ++ [(i, filled s)] } := by
  have hp4 : w4.heap[F.p]? = _ := (e _ (.inl rfl)).trans h.head
  have h5 := heap_setCell_same w4 F.p 2 _ _ (.slice (some ⟨g, 0, none⟩) (d.late.length + 1) cap) hp4
  have ho : ∀ k, k ≠ F.p → (w4.setCell ⟨F.p, 2, none⟩ (.slice (some ⟨g, 0, none⟩) (d.late.length + 1) cap)).drew.heap[k]? = w4.heap[k]? := fun k hk => heap_setCell_other w4 _ _ _ hk
  have hL : Rows tB (w4.setCell ⟨F.p, 2, none⟩ (.slice (some ⟨g, 0, none⟩) (d.late.length + 1) cap)).drew F.L d.n d.last := h.last.keep ((ho _ h.pL.symm).trans (e _ (.inr (.inr rfl))))
  have hsz : (w4.setCell ⟨F.p, 2, none⟩ (.slice (some ⟨g, 0, none⟩) (d.late.length + 1) cap)).drew.heap.size = w4.heap.size := World.size_setCell ..
  have pB := h.pB
  have LB := h.LB
  have hbase := h.base
  refine ⟨?_, ?_, ?_, ?_, h.pB, h.SB, h.LB, h.pS, h.pL, h.SL, ?_, ?_⟩
  · show (World.setCells _ F.L _ _).heap[F.p]? = _
    rw [heap_setCells_other _ _ h.pL]
    exact h5
  · refine Rows.keep h.safe ?_
    show (World.setCells _ F.L _ _).heap[F.S]? = _
    rw [heap_setCells_other _ _ h.SL, ho _ h.pS.symm]
    exact e _ (.inr (.inl rfl))
  · have := hL.set hi s
    refine Rows.setCells hL hi s 256 (Nat.le_refl _) _ (fun j _ hj => ?_) (fun j hj => ?_) (fun j h1 h2 => by omega)
    · show done d.safe (d.late ++ [(i, filled s)]) j = done d.safe d.late j
      rw [done_snoc, upd_other _ _ hj]
    · show bt (done d.safe (d.late ++ [(i, filled s)]) i) j = _
      rw [done_snoc, upd_same, filled_bt s hj]
  · obtain ⟨h1, h2⟩ := hown
    have hcells : lateCells d.late ++ (writeCells i s).toList = lateCells (d.late ++ [(i, filled s)]) := by
      rw [lateCells_snoc, textCells_filled]
      rfl
    have hlen : (d.late ++ [(i, filled s)]).length = d.late.length + 1 := by simp
    show World.ownsRow _ F.B tW 257 _ (d.late ++ [(i, filled s)]).length (lateCells (d.late ++ [(i, filled s)]))
    rw [hlen, ← hcells]
    refine ⟨h1, ?_⟩
    rcases h2 with h2 | ⟨g', cap', cur, hv, hb, hg, h3⟩
    · exact .inl h2
    · refine .inr ⟨g', cap', cur, hv, hb, ?_, h3⟩
      rw [heap_setCells_other _ _ (by omega), ho _ (by omega)]
      exact hg
  · show F.B ≤ (World.setCells _ F.L _ _).heap.size
    rw [size_setCells, hsz]
    omega
  · exact ⟨h.wf.lo, h.wf.hi, h.wf.safe, fun x hx => by
      rcases List.mem_append.1 hx with hx | hx
      · exact h.wf.late x hx
      · rw [List.mem_singleton] at hx
        subst hx
        exact ⟨hi, filled_size s⟩, h.wf.llo, h.wf.lhi⟩

/-- The late writes in memory: none, or a row. -/
theorem DiskAt.lates {tD tB tW : TypeId} {w : World} {F : Foot} {d : D} (h : DiskAt tD tB tW w F d) : F.lv = .slice none 0 0 ∧ d.late = [] ∨
    ∃ g cap, F.lv = .slice (some ⟨g, 0, none⟩) d.late.length cap ∧ F.B ≤ g ∧ g < w.heap.size ∧ F.lv.ownBlock = some g ∧ ∀ k x, d.late[k]? = some x → w.rangeAt g (k * 257) (writeCells x.1 x.2).toList := by
  obtain ⟨h1, h2⟩ := h.late
  rcases h2 with ⟨h2, h3⟩ | ⟨g, cap, cur, hv, hb, hg, hn, hc, hsz, ht⟩
  · exact .inl ⟨h2, List.eq_nil_of_length_eq_zero h3⟩
  · have ho : F.lv.ownBlock = some g := by rw [hv]; rfl
    refine .inr ⟨g, cap, hv, hb, (h.late.lt g ho).2, ho, fun k x hx j v hj => ?_⟩
    have hlt : j < 257 := by have := (List.getElem?_eq_some_iff.1 hj).1; simpa [writeCells] using this
    have hk : k < d.late.length := (List.getElem?_eq_some_iff.1 hx).1
    rw [cell_of_row w g _ cur _ _ hg]
    have h3 := lateCells_get d.late k j x hx hlt
    rw [← ht, List.getElem?_take_of_lt (by omega), Array.getElem?_toList] at h3
    rw [h3, ← hj]
    simp [writeCells]
/-- done, one write more. -/
theorem done_take (f : Nat → ByteArray) (l : List (Nat × ByteArray)) (k : Nat) (x : Nat × ByteArray) (h : l[k]? = some x) : done f (l.take (k + 1)) = upd (done f (l.take k)) x.1 x.2 := by
  obtain ⟨hk, hx⟩ := List.getElem?_eq_some_iff.1 h
  rw [List.take_succ_eq_append_getElem hk, hx, done_snoc]
/-- A disk behind a flush. -/
def D.flushed (d : D) : D := { d with safe := d.last, late := [] }
theorem DiskAt.flush {tD tB tW : TypeId} {w1 wr : World} {F : Foot} {d : D} (h : DiskAt tD tB tW w1 F d) (hk : Keeps (fun j => j = F.S) w1 wr) (hr : Rows tB wr F.S d.n d.last) :
    DiskAt tD tB tW (wr.setCell ⟨F.p, 2, none⟩ (.slice none 0 0)) { F with lv := .slice none 0 0 } d.flushed := by
  have hlt : ∀ k, F.own k → k ≠ F.S → wr.heap[k]? = w1.heap[k]? := fun k ho hne => hk.block k (h.own_lt ho) hne
  have hp := (hlt _ (.inl rfl) h.pS).trans h.head
  refine ⟨?_, ?_, ?_, World.ownsRow_nil _ _ _ _, h.pB, h.SB, h.LB, h.pS, h.pL, h.SL, ?_, ?_⟩
  · exact heap_setCell_same wr F.p 2 _ _ (.slice none 0 0) hp
  · exact hr.keep (heap_setCell_other _ _ _ _ h.pS.symm)
  · refine Rows.congr (h.last.keep ((heap_setCell_other _ _ _ _ h.pL.symm).trans (hlt _ (.inr (.inr (.inl rfl))) h.SL.symm))) fun k _ => rfl
  · have := hk.size
    have := h.base
    show F.B ≤ (wr.setCell _ _).heap.size
    rw [World.size_setCell]
    omega
  · exact ⟨h.wf.lo, h.wf.hi, h.wf.last, fun x hx => (by cases hx), h.wf.llo, h.wf.lhi⟩

/-- Is the bit of number i set in the mask? -/
def bitB (mask : Int) (i : Nat) : Bool := mask / 2 ^ (i % 64) % 2 == 1
/-- The first n bytes of a, and those of b behind them. -/
def mixed (a b : ByteArray) (n : Nat) : ByteArray := ofFn 256 fun j => if j < n then bt a j else bt b j
theorem mixed_size (a b : ByteArray) (n : Nat) : (mixed a b n).size = 256 := ofFn_size _ _
theorem mixed_bt (a b : ByteArray) (n : Nat) {j : Nat} (h : j < 256) : bt (mixed a b n) j = if j < n then bt a j else bt b j := by
  refine ofFn_bt _ _ h ?_ ?_ <;> (show _ ≤ _; split)
  · exact bt_nonneg _ _
  · exact bt_nonneg _ _
  · exact bt_le _ _
  · exact bt_le _ _
/-- How many bytes of the late write of number i a crash keeps. -/
def tornTo (torn cut : Int) (i : Nat) : Nat := if (i : Int) = torn then (min (max cut 0) 256).toNat else 256
theorem tornTo_le (torn cut : Int) (i : Nat) : tornTo torn cut i ≤ 256 := by unfold tornTo; split <;> omega
/-- The safe blocks behind k late writes of a crash. -/
def D.crashTo (d : D) (mask torn cut : Int) : Nat → Nat → ByteArray
  | 0 => d.safe
  | k + 1 => match d.late[k]? with
    | some x => if bitB mask k = true then upd (D.crashTo d mask torn cut k) x.1 (mixed x.2 (D.crashTo d mask torn cut k x.1) (tornTo torn cut k)) else D.crashTo d mask torn cut k
    | none => D.crashTo d mask torn cut k
theorem D.crashTo_kept {d : D} {mask torn cut : Int} {k : Nat} {x : Nat × ByteArray} (h : d.late[k]? = some x) (b : bitB mask k = true) : d.crashTo mask torn cut (k + 1) = upd (d.crashTo mask torn cut k) x.1 (mixed x.2 (d.crashTo mask torn cut k x.1) (tornTo torn cut k)) := by
  simp only [D.crashTo, h, b, if_true]
theorem D.crashTo_lost {d : D} {mask torn cut : Int} {k : Nat} {x : Nat × ByteArray} (h : d.late[k]? = some x) (b : bitB mask k = false) : d.crashTo mask torn cut (k + 1) = d.crashTo mask torn cut k := by
  simp [D.crashTo, h, b]
theorem D.crashTo_none {d : D} {mask torn cut : Int} {k : Nat} (h : d.late[k]? = none) : d.crashTo mask torn cut (k + 1) = d.crashTo mask torn cut k := by
  simp [D.crashTo, h]
theorem D.crashTo_size {d : D} (w : d.Wf) (mask torn cut : Int) : ∀ k j, j < d.n → (d.crashTo mask torn cut k j).size = 256
  | 0, j, hj => w.safe j hj
  | k + 1, j, hj => by
    have ih := D.crashTo_size w mask torn cut k
    cases hx : d.late[k]? with
    | none => rw [D.crashTo_none hx]; exact ih j hj
    | some x =>
      cases b : bitB mask k with
      | false => rw [D.crashTo_lost hx b]; exact ih j hj
      | true =>
        rw [D.crashTo_kept hx b]
        by_cases e : j = x.1
        · rw [e, upd_same, mixed_size]
        · rw [upd_other _ _ e]; exact ih j hj
theorem D.crashTo_off {d : D} (mask torn cut : Int) (j : Nat) (h : ∀ x ∈ d.late, x.1 ≠ j) : ∀ k, d.crashTo mask torn cut k j = d.safe j
  | 0 => rfl
  | k + 1 => by
    have ih := D.crashTo_off mask torn cut j h k
    cases hx : d.late[k]? with
    | none => rw [D.crashTo_none hx]; exact ih
    | some x =>
      cases b : bitB mask k with
      | false => rw [D.crashTo_lost hx b]; exact ih
      | true =>
        rw [D.crashTo_kept hx b, upd_other _ _ (fun e => h x (List.mem_of_getElem? hx) e.symm)]
        exact ih
/-- A disk behind a crash. -/
def D.crash (d : D) (mask torn cut : Int) : D := ⟨d.n, d.crashTo mask torn cut d.late.length, [], -1, false⟩
/-- What is told of the blocks, behind k of the crash's second round. -/
def relast (f g : Nat → ByteArray) (l : List (Nat × ByteArray)) : Nat → ByteArray := l.foldl (fun h x => upd h x.1 (g x.1)) f
theorem relast_take (f g : Nat → ByteArray) (l : List (Nat × ByteArray)) (k : Nat) (x : Nat × ByteArray) (h : l[k]? = some x) : relast f g (l.take (k + 1)) = upd (relast f g (l.take k)) x.1 (g x.1) := by
  obtain ⟨hk, hx⟩ := List.getElem?_eq_some_iff.1 h
  rw [List.take_succ_eq_append_getElem hk, hx]
  simp [relast, List.foldl_append]
theorem relast_eq (g : Nat → ByteArray) (j : Nat) : ∀ (l : List (Nat × ByteArray)) (f : Nat → ByteArray), (f j = g j ∨ ∃ x ∈ l, x.1 = j) → relast f g l j = g j
  | [], f, h => by
    rcases h with h | ⟨x, hx, _⟩
    · exact h
    · cases hx
  | y :: l, f, h => by
    show relast (upd f y.1 (g y.1)) g l j = g j
    refine relast_eq g j l _ ?_
    by_cases e : j = y.1
    · left; rw [e, upd_same]
    · rcases h with h | ⟨x, hx, hj⟩
      · left; rw [upd_other _ _ e]; exact h
      · right
        rcases List.mem_cons.1 hx with rfl | hx
        · exact absurd hj.symm e
        · exact ⟨x, hx, hj⟩
theorem D.relast_crash (d : D) (mask torn cut : Int) (j : Nat) : relast d.last (d.crashTo mask torn cut d.late.length) d.late j = d.crashTo mask torn cut d.late.length j := by
  refine relast_eq _ j _ _ ?_
  by_cases h : ∃ x ∈ d.late, x.1 = j
  · exact .inr h
  · left
    have hn : ∀ x ∈ d.late, x.1 ≠ j := fun x hx e => h ⟨x, hx, e⟩
    rw [D.crashTo_off mask torn cut j hn]
    exact done_off d.safe j d.late hn
theorem D.crash_wf {d : D} (w : d.Wf) (mask torn cut : Int) : (d.crash mask torn cut).Wf := ⟨w.lo, w.hi, D.crashTo_size w mask torn cut _, fun x hx => (by cases hx), by show (-1 : Int) ≤ -1; omega, by show (-1 : Int) ≤ _; omega⟩
/-- The disk behind a crash, in memory: S and L are as the crash left them; the head's other cells. -/
theorem DiskAt.crashed {tD tB tW : TypeId} {w wr : World} {F : Foot} {d : D} (h : DiskAt tD tB tW w F d) (mask torn cut : Int) (hk : Keeps (fun j => j = F.S ∨ j = F.L) w wr) (hS : Rows tB wr F.S d.n (d.crashTo mask torn cut d.late.length)) (hL : Rows tB wr F.L d.n (d.crashTo mask torn cut d.late.length)) :
    DiskAt tD tB tW (((wr.setCell ⟨F.p, 2, none⟩ (.slice none 0 0)).setCell ⟨F.p, 3, none⟩ (.int .i64 (-1))).setCell ⟨F.p, 4, none⟩ (.bool false)) { F with lv := .slice none 0 0 } (d.crash mask torn cut) := by
  have hp := (hk.block F.p (h.own_lt (.inl rfl)) (fun c => by rcases c with c | c; exact h.pS c; exact h.pL c)).trans h.head
  have h1 := heap_setCell_same wr F.p 2 _ _ (.slice none 0 0) hp
  have h2 := heap_setCell_same _ F.p 3 _ _ (.int .i64 (-1)) h1
  have h3 := heap_setCell_same _ F.p 4 _ _ (.bool false) h2
  have ho : ∀ k, k ≠ F.p → (((wr.setCell ⟨F.p, 2, none⟩ (.slice none 0 0)).setCell ⟨F.p, 3, none⟩ (.int .i64 (-1))).setCell ⟨F.p, 4, none⟩ (.bool false)).heap[k]? = wr.heap[k]? := fun k hk => by
    rw [heap_setCell_other _ _ _ _ hk, heap_setCell_other _ _ _ _ hk, heap_setCell_other _ _ _ _ hk]
  refine ⟨h3, hS.keep (ho _ h.pS.symm), hL.keep (ho _ h.pL.symm), World.ownsRow_nil _ _ _ _, h.pB, h.SB, h.LB, h.pS, h.pL, h.SL, ?_, D.crash_wf h.wf mask torn cut⟩
  have := hk.size
  have := h.base
  show F.B ≤ _
  rw [World.size_setCell, World.size_setCell, World.size_setCell]
  omega
end Go.Proofs.YtkdhlofcdcnjgaaGreat
namespace Go.Proofs.YtkdhlofcdcnjgaaGreat
open Go.ChangeShapes Go.WideShapes Go.ChangeAt Go.RowKit Go.PlainAid

/-- A disk, in this translation. -/
def Dk (w : World) (F : Foot) (d : D) : Prop := DiskAt 99 145 147 w F d
/-- A disk that no call made. -/
def Blank (w : World) (p : Nat) : Prop := w.heap[p]? = some (.cells #[.slice none 0 0, .slice none 0 0, .slice none 0 0, .int .i64 0, .bool false] 99 (0, 0))
/-- The value is no disk: nil, or a zero value. -/
def NoDisk (w : World) (v : Value) : Prop := v = .pointer none ∨ ∃ p, v = .pointer (some ⟨p, 0, none⟩) ∧ Blank w p

set_option maxHeartbeats 400000 in
theorem len_any (w : World) (F : Foot) (d : D) (h : Dk w F d) :
    Calls Tryz.prog 47 #[.pointer (some ⟨F.p, 0, none⟩)] w fun e w' => e = .returned (.int .i64 d.n) ∧ w = w' := by
  obtain ⟨c0, c1, c2, c3, c4⟩ := DiskAt.cells h
  go_enter Tryz.func47, Tryz.ntmps47
  go_wp2
  go_returns
  exact ⟨rfl, rfl⟩
set_option maxHeartbeats 400000 in
theorem len_no (w : World) (v : Value) (h : NoDisk w v) :
    Calls Tryz.prog 47 #[v] w fun e w' => e = .returned (.int .i64 0) ∧ w = w' := by
  rcases h with rfl | ⟨p, rfl, h⟩
  · go_enter Tryz.func47, Tryz.ntmps47
    go_wp2
    go_returns
    exact ⟨rfl, rfl⟩
  · have c0 : w.cell? ⟨p, 0, none⟩ = some (.slice none 0 0) := by rw [cell_of_row _ _ _ _ _ _ h]; rfl
    clear h
    go_enter Tryz.func47, Tryz.ntmps47
    go_wp2
    go_returns
    exact ⟨rfl, rfl⟩
set_option maxHeartbeats 400000 in
theorem made_any (w : World) (F : Foot) (d : D) (h : Dk w F d) :
    Calls Tryz.prog 152 #[.pointer (some ⟨F.p, 0, none⟩)] w fun e w' => e = .returned (.bool true) ∧ w = w' := by
  have hn := h.wf.lo
  have hb : decide (0 < d.n) = true := by simp; omega
  go_enter Tryz.func152, Tryz.ntmps152
  go_wp2_with fail
  refine (len_any _ F d h).mono ?_
  rintro e _ ⟨rfl, rfl⟩
  go_wp2
  go_returns
  exact ⟨rfl, rfl⟩
set_option maxHeartbeats 400000 in
theorem made_no (w : World) (v : Value) (h : NoDisk w v) :
    Calls Tryz.prog 152 #[v] w fun e w' => e = .returned (.bool false) ∧ w = w' := by
  go_enter Tryz.func152, Tryz.ntmps152
  go_wp2_with fail
  refine (len_no _ v h).mono ?_
  rintro e _ ⟨rfl, rfl⟩
  go_wp2
  go_returns
  exact ⟨rfl, rfl⟩
/-- What keeps a disk from all that it does. -/
def readyE (d : D) : Int := if d.dark = true then 11 else 0
set_option maxHeartbeats 400000 in
theorem ready_any (w : World) (F : Foot) (d : D) (h : Dk w F d) :
    Calls Tryz.prog 125 #[.pointer (some ⟨F.p, 0, none⟩)] w fun e w' => e = .returned (.int .i64 (readyE d)) ∧ w = w' := by
  obtain ⟨c0, c1, c2, c3, c4⟩ := DiskAt.cells h
  unfold readyE
  cases hd : d.dark
  all_goals
    rw [hd] at c4
    clear hd
    go_enter Tryz.func125, Tryz.ntmps125
    go_wp2_with fail
    refine (made_any _ F d h).mono ?_
    rintro e _ ⟨rfl, rfl⟩
    go_wp2
    go_returns
    exact ⟨rfl, rfl⟩
set_option maxHeartbeats 400000 in
theorem ready_no (w : World) (v : Value) (h : NoDisk w v) :
    Calls Tryz.prog 125 #[v] w fun e w' => e = .returned (.int .i64 3) ∧ w = w' := by
  go_enter Tryz.func125, Tryz.ntmps125
  go_wp2_with fail
  refine (made_no _ v h).mono ?_
  rintro e _ ⟨rfl, rfl⟩
  go_wp2
  go_returns
  exact ⟨rfl, rfl⟩
/-- What keeps a block from being read or written. -/
def reachE (d : D) (k : Int) : Int := if d.dark = true then 11 else if k < 0 ∨ d.n ≤ k then 10 else 0
theorem reachE_ready {d : D} {k : Int} (h : readyE d = 11) : reachE d k = 11 := by
  unfold readyE at h
  unfold reachE
  cases hd : d.dark
  · rw [hd] at h; simp at h
  · rfl
set_option maxHeartbeats 400000 in
theorem reach_any (w : World) (F : Foot) (d : D) (k : Int) (h : Dk w F d) (h0 : -9223372036854775808 ≤ k) (h1 : k ≤ 9223372036854775807) :
    Calls Tryz.prog 90 #[.pointer (some ⟨F.p, 0, none⟩), .int .i64 k] w fun e w' => e = .returned (.int .i64 (reachE d k)) ∧ w = w' := by
  obtain ⟨c0, c1, c2, c3, c4⟩ := DiskAt.cells h
  have hr : reachE d k = if readyE d = 11 then 11 else if k < 0 ∨ d.n ≤ k then 10 else 0 := by
    unfold reachE readyE
    cases d.dark <;> rfl
  have H := Lib.hid hr
  clear hr
  have hcases : readyE d = 11 ∨ readyE d = 0 := by unfold readyE; cases d.dark <;> simp
  rcases hcases with hc | hc
  · have hd := Lib.hid hc
    clear hc
    go_enter Tryz.func90, Tryz.ntmps90
    go_wp2_with fail
    refine (ready_any _ F d h).mono ?_
    rintro e _ ⟨rfl, rfl⟩
    rw [hd.out]
    go_wp2
    go_returns
    exact ⟨ret_i (by rw [H.out, hd.out]; rfl), rfl⟩
  · have hd := Lib.hid hc
    clear hc
    rcases Int.lt_or_le k 0 with a | a
    · have hb : decide (k < 0) = true := by simpa using a
      go_enter Tryz.func90, Tryz.ntmps90
      go_wp2_with fail
      refine (ready_any _ F d h).mono ?_
      rintro e _ ⟨rfl, rfl⟩
      rw [hd.out]
      go_wp2
      go_returns
      exact ⟨ret_i (by rw [H.out, hd.out, if_neg (by decide), if_pos (.inl a)]), rfl⟩
    · have hb : decide (k < 0) = false := by simpa using a
      rcases Int.lt_or_le k d.n with b | b
      · have hb2 : decide ((d.n : Int) ≤ k) = false := by simpa using b
        go_enter Tryz.func90, Tryz.ntmps90
        go_wp2_with fail
        refine (ready_any _ F d h).mono ?_
        rintro e _ ⟨rfl, rfl⟩
        rw [hd.out]
        go_wp2
        go_returns
        exact ⟨ret_i (by rw [H.out, hd.out, if_neg (by decide), if_neg (by omega)]), rfl⟩
      · have hb2 : decide ((d.n : Int) ≤ k) = true := by simpa using b
        go_enter Tryz.func90, Tryz.ntmps90
        go_wp2_with fail
        refine (ready_any _ F d h).mono ?_
        rintro e _ ⟨rfl, rfl⟩
        rw [hd.out]
        go_wp2
        go_returns
        exact ⟨ret_i (by rw [H.out, hd.out, if_neg (by decide), if_pos (.inr b)]), rfl⟩
set_option maxHeartbeats 400000 in
theorem reach_no (w : World) (v : Value) (k : Int) (h : NoDisk w v) :
    Calls Tryz.prog 90 #[v, .int .i64 k] w fun e w' => e = .returned (.int .i64 3) ∧ w = w' := by
  go_enter Tryz.func90, Tryz.ntmps90
  go_wp2_with fail
  refine (ready_no _ v h).mono ?_
  rintro e _ ⟨rfl, rfl⟩
  go_wp2
  go_returns
  exact ⟨rfl, rfl⟩
/-- A disk whose head has another limit, or power. -/
theorem Dk.newHead {w : World} {F : Foot} {d : D} (h : Dk w F d) (w' : World) (lim : Int) (dark : Bool) (hs : w.heap.size ≤ w'.heap.size) (l0 : -1 ≤ lim) (l1 : lim ≤ 9223372036854775807)
    (hp : w'.heap[F.p]? = some (.cells #[.slice (some ⟨F.S, 0, none⟩) d.n d.n, .slice (some ⟨F.L, 0, none⟩) d.n d.n, F.lv, .int .i64 lim, .bool dark] 99 (0, 0)))
    (ho : ∀ k, F.own k → k ≠ F.p → w'.heap[k]? = w.heap[k]?) : Dk w' F { d with limit := lim, dark := dark } where
  head := hp
  safe := h.safe.keep (ho _ (.inr (.inl rfl)) h.pS.symm)
  last := h.last.keep (ho _ (.inr (.inr (.inl rfl))) h.pL.symm)
  late := by
    obtain ⟨h1, h2⟩ := h.late
    refine ⟨h1, ?_⟩
    rcases h2 with h2 | ⟨g, cap, cur, hv, hb, hg, h3⟩
    · exact .inl h2
    · have hown : F.lv.ownBlock = some g := by rw [hv]; rfl
      exact .inr ⟨g, cap, cur, hv, hb, (ho g (.inr (.inr (.inr hown))) (h.own_ne hown).1).trans hg, h3⟩
  pB := h.pB
  SB := h.SB
  LB := h.LB
  pS := h.pS
  pL := h.pL
  SL := h.SL
  base := Nat.le_trans h.base hs
  wf := ⟨h.wf.lo, h.wf.hi, h.wf.safe, h.wf.late, l0, l1⟩
/-- A write, or a flush, is taken off the limit. -/
def D.spent (d : D) : D := if d.limit = 0 then { d with dark := true } else if 0 < d.limit then { d with limit := d.limit - 1 } else d
def spendE (d : D) : Int := if d.limit = 0 then 11 else 0
set_option maxHeartbeats 400000 in
theorem spend_any (w : World) (F : Foot) (d : D) (h : Dk w F d) :
    Calls Tryz.prog 91 #[.pointer (some ⟨F.p, 0, none⟩)] w fun e w' => e = .returned (.int .i64 (spendE d)) ∧ Dk w' F d.spent ∧ Keeps (fun k => k = F.p) w w' := by
  obtain ⟨c0, c1, c2, c3, c4⟩ := DiskAt.cells h
  have t3 := DiskAt.thaw h 3
  have t4 := DiskAt.thaw h 4
  have hl := h.wf.llo
  have hh := h.wf.lhi
  have hhd := Lib.hid h.head
  unfold spendE D.spent
  by_cases z : d.limit = 0
  · have hb : (d.limit == 0) = true := by simpa using z
    rw [if_pos z, if_pos z]
    have hz := Lib.hid z
    clear z
    go_enter Tryz.func91, Tryz.ntmps91
    go_wp2
    go_returns
    refine ⟨rfl, ?_, Keeps.setCell (own := fun k => k = F.p) (Keeps.refl _ _) (.inl rfl) _⟩
    have := h.newHead (w.setCell ⟨F.p, 4, none⟩ (.bool true)) d.limit true (by simp) hl hh (heap_setCell_same _ _ _ _ _ _ hhd.out) (fun k _ hk => heap_setCell_other _ _ _ _ hk)
    exact this
  · have hb : (d.limit == 0) = false := by simpa using z
    rw [if_neg z, if_neg z]
    by_cases g : 0 < d.limit
    · have hg : decide (0 < d.limit) = true := by simpa using g
      rw [if_pos g]
      clear z
      go_enter Tryz.func91, Tryz.ntmps91
      go_wp2
      go_returns
      refine ⟨rfl, ?_, Keeps.setCell (own := fun k => k = F.p) (Keeps.refl _ _) (.inl rfl) _⟩
      exact h.newHead (w.setCell ⟨F.p, 3, none⟩ (.int .i64 (d.limit - 1))) (d.limit - 1) d.dark (by simp) (by omega) (by omega) (heap_setCell_same _ _ _ _ _ _ hhd.out) (fun k _ hk => heap_setCell_other _ _ _ _ hk)
    · have hg : decide (0 < d.limit) = false := by simpa using g
      rw [if_neg g]
      clear z
      go_enter Tryz.func91, Tryz.ntmps91
      go_wp2
      go_returns
      exact ⟨rfl, h, Keeps.refl _ _⟩
end Go.Proofs.YtkdhlofcdcnjgaaGreat
namespace Go.Proofs.YtkdhlofcdcnjgaaGreat
open Go.ChangeShapes Go.WideShapes Go.ChangeAt Go.RowKit Go.PlainAid

theorem info_block : (Tryz.prog.info? 145).map (fun i => (i.zero, i.size, i.bytes)) = some (some (.agg (Array.replicate 256 (.int .u8 0))), 256, 256) := by kernel_rfl
theorem make_blocks (n : Nat) (hn : n ≤ 4096) (w : World) : (Instr.makeSlice 96 (.int .i64 n) (.int .i64 n)).run Tryz.prog w = .ok (.slice (some ⟨w.heap.size, 0, none⟩) n n) (w.alloc (.cells (zeroBlocks n) 145)) := by
  obtain ⟨i, h1, h2, h3, h4⟩ := info_parts info_block
  have h := run_make (P := Tryz.prog) w 96 145 i _ Tryz.underlying96 h1 h2 .i64 .i64 n n (by omega) (by omega) (by rw [h4]; omega) (by omega)
  rw [h, h3]
  rfl
theorem heap3 (w : World) (X Y Z : Obj) : (((w.alloc X).alloc Y).alloc Z).drew.heap[w.heap.size]? = some X ∧ (((w.alloc X).alloc Y).alloc Z).drew.heap[w.heap.size + 1]? = some Y ∧ (((w.alloc X).alloc Y).alloc Z).drew.heap[w.heap.size + 1 + 1]? = some Z := by
  have e1 : (w.alloc X).heap.size = w.heap.size + 1 := World.size_alloc ..
  have e2 : ((w.alloc X).alloc Y).heap.size = w.heap.size + 1 + 1 := by rw [World.size_alloc, e1]
  refine ⟨?_, ?_, ?_⟩
  · show (((w.alloc X).alloc Y).alloc Z).heap[w.heap.size]? = _
    rw [Below.heap_alloc _ _ _ (by rw [e2]; omega), Below.heap_alloc _ _ _ (by rw [e1]; omega)]
    exact heap_alloc_new w X
  · show (((w.alloc X).alloc Y).alloc Z).heap[w.heap.size + 1]? = _
    rw [Below.heap_alloc _ _ _ (by rw [e2]; omega), ← e1]
    exact heap_alloc_new _ Y
  · show (((w.alloc X).alloc Y).alloc Z).heap[w.heap.size + 1 + 1]? = _
    rw [← e2]
    exact heap_alloc_new _ Z
theorem new_dk {W : World} {n p S L B : Nat} (h0 : 1 ≤ n) (h1 : n ≤ 2048) (hS : W.heap[S]? = some (.cells (zeroBlocks n) 145 (0, 0))) (hL : W.heap[L]? = some (.cells (zeroBlocks n) 145 (0, 0)))
    (hp : W.heap[p]? = some (.cells #[.slice (some ⟨S, 0, none⟩) n n, .slice (some ⟨L, 0, none⟩) n n, .slice none 0 0, .int .i64 (-1), .bool false] 99 (0, 0)))
    (pB : p < B) (SB : S < B) (LB : L < B) (pS : p ≠ S) (pL : p ≠ L) (SL : S ≠ L) (hB : B ≤ W.heap.size) : Dk W ⟨p, S, L, B, .slice none 0 0⟩ (newD n) where
  head := hp
  safe := zeroBlocks_rows hS
  last := zeroBlocks_rows hL
  late := World.ownsRow_nil _ _ _ _
  pB := pB
  SB := SB
  LB := LB
  pS := pS
  pL := pL
  SL := SL
  base := hB
  wf := newD_wf h0 h1
/-- New's answer. -/
def NewPost (n : Nat) (w : World) (e : Ending) (w' : World) : Prop :=
  ∃ F, e = .returned (.tuple #[.pointer (some ⟨F.p, 0, none⟩), .int .i64 0]) ∧ Dk w' F (newD n) ∧ Below w.heap.size w w' ∧ ∀ k, F.own k → w.heap.size ≤ k
set_option maxHeartbeats 400000 in
theorem new_any (n : Int) (w : World) (h0 : 1 ≤ n) (h1 : n ≤ 2048) :
    Calls Tryz.prog 20 #[.int .i64 n] w (NewPost n.toNat w) := by
  obtain ⟨m, rfl⟩ := Int.eq_ofNat_of_zero_le (show 0 ≤ n by omega)
  rw [Int.toNat_natCast]
  have hm := make_blocks m (by omega)
  have hb1 : decide ((m : Int) < 1) = false := by simpa using h0
  have hb2 : decide (2048 < (m : Int)) = false := by simpa using h1
  go_enter Tryz.func20, Tryz.ntmps20
  go_wp2
  go_region
  all_goals
    go_wp2
    go_returns
    obtain ⟨a1, a2, a3⟩ := heap3 w _ _ _
    first
      | exact ⟨⟨w.heap.size + 1 + 1, w.heap.size, w.heap.size + 1, w.heap.size + 1 + 1 + 1, .slice none 0 0⟩, rfl, new_dk (by omega) (by omega) a1 a2 a3 (by omega) (by omega) (by omega) (by omega) (by omega) (by omega) (by simp), by go_grown, by
          rintro k (rfl | rfl | rfl | hk)
          · exact Nat.le_add_right _ 2
          · exact Nat.le_refl _
          · exact Nat.le_succ _
          · cases hk⟩
      | exact ⟨⟨w.heap.size + 1 + 1, w.heap.size + 1, w.heap.size, w.heap.size + 1 + 1 + 1, .slice none 0 0⟩, rfl, new_dk (by omega) (by omega) a2 a1 a3 (by omega) (by omega) (by omega) (by omega) (by omega) (by omega) (by simp), by go_grown, by
          rintro k (rfl | rfl | rfl | hk)
          · exact Nat.le_add_right _ 2
          · exact Nat.le_succ _
          · exact Nat.le_refl _
          · cases hk⟩
set_option maxHeartbeats 400000 in
theorem new_no (n : Int) (w : World) (h : n < 1 ∨ 2048 < n) :
    Calls Tryz.prog 20 #[.int .i64 n] w fun e w' => e = .returned (.tuple #[.pointer none, .int .i64 1]) ∧ w = w' := by
  rcases Int.lt_or_le n 1 with a | a
  · have hb1 : decide (n < 1) = true := by simpa using a
    clear h
    go_enter Tryz.func20, Tryz.ntmps20
    go_wp2
    go_returns
    exact ⟨rfl, rfl⟩
  · have hb1 : decide (n < 1) = false := by simpa using a
    have hb2 : decide (2048 < n) = true := by simp; omega
    clear h
    go_enter Tryz.func20, Tryz.ntmps20
    go_wp2
    go_returns
    exact ⟨rfl, rfl⟩

theorem reachE_cases (d : D) (k : Int) : reachE d k = 0 ∧ 0 ≤ k ∧ k < d.n ∧ d.dark = false ∨ reachE d k = 10 ∧ d.dark = false ∨ reachE d k = 11 ∧ d.dark = true := by
  unfold reachE
  cases d.dark
  · by_cases c : k < 0 ∨ d.n ≤ k
    · simp [c]
    · simp [c]; omega
  · simp
/-- What Read tells. -/
def readS (d : D) (k : Int) : ByteArray := if reachE d k = 0 then d.last k.toNat else ByteArray.empty
set_option maxHeartbeats 400000 in
theorem read_any (w : World) (F : Foot) (d : D) (k : Int) (h : Dk w F d) (h0 : -9223372036854775808 ≤ k) (h1 : k ≤ 9223372036854775807) :
    Calls Tryz.prog 46 #[.pointer (some ⟨F.p, 0, none⟩), .int .i64 k] w fun e w' => e = .returned (.tuple #[.string (readS d k), .int .i64 (reachE d k)]) ∧ w = w' := by
  obtain ⟨c0, c1, c2, c3, c4⟩ := DiskAt.cells h
  have hS : readS d k = if reachE d k = 0 then d.last k.toNat else ByteArray.empty := rfl
  have HS := Lib.hid hS
  clear hS
  rcases reachE_cases d k with ⟨a, hk, hn, _⟩ | ⟨a, _⟩ | ⟨a, _⟩
  · have hr := Lib.hid a
    clear a
    obtain ⟨i, rfl⟩ := Int.eq_ofNat_of_zero_le hk
    rw [Int.toNat_natCast] at HS
    have hi : i < d.n := by omega
    have hconv := conv_text (P := Tryz.prog) 143 5 9 Tryz.underlying143 Tryz.underlying5 Tryz.underlying9 w F.L (i * 256) 256 256 (d.last i) (h.wf.last i hi) (h.last.range hi)
    go_enter Tryz.func46, Tryz.ntmps46
    go_wp2_with fail
    refine (reach_any _ F d _ h h0 h1).mono ?_
    rintro e _ ⟨rfl, rfl⟩
    rw [hr.out]
    go_wp2
    go_returns
    refine ⟨?_, rfl⟩
    rw [HS.out, hr.out, if_pos rfl]
    rfl
  all_goals
    have hr := Lib.hid a
    clear a
    go_enter Tryz.func46, Tryz.ntmps46
    go_wp2_with fail
    refine (reach_any _ F d _ h h0 h1).mono ?_
    rintro e _ ⟨rfl, rfl⟩
    rw [hr.out]
    go_wp2
    go_returns
    refine ⟨?_, rfl⟩
    rw [HS.out, hr.out, if_neg (by decide)]
    rfl
set_option maxHeartbeats 400000 in
theorem read_no (w : World) (v : Value) (k : Int) (h : NoDisk w v) :
    Calls Tryz.prog 46 #[v, .int .i64 k] w fun e w' => e = .returned (.tuple #[.string ByteArray.empty, .int .i64 3]) ∧ w = w' := by
  go_enter Tryz.func46, Tryz.ntmps46
  go_wp2_with fail
  refine (reach_no _ v k h).mono ?_
  rintro e _ ⟨rfl, rfl⟩
  go_wp2
  go_returns
  exact ⟨rfl, rfl⟩
end Go.Proofs.YtkdhlofcdcnjgaaGreat
namespace Go.Proofs.YtkdhlofcdcnjgaaGreat
set_option maxRecDepth 100000
open Go.ChangeShapes Go.WideShapes Go.ChangeAt Go.RowKit Go.PlainAid

theorem spent_same (d : D) : d.spent.n = d.n ∧ d.spent.safe = d.safe ∧ d.spent.late = d.late := by
  unfold D.spent
  split
  · exact ⟨rfl, rfl, rfl⟩
  · split <;> exact ⟨rfl, rfl, rfl⟩
theorem spent_last (d : D) : d.spent.last = d.last := by
  obtain ⟨_, h2, h3⟩ := spent_same d
  unfold D.last
  rw [h2, h3]
/-- The error of a Write. -/
def writeE (d : D) (k : Int) (s : ByteArray) : Int := if reachE d k = 0 then (if 256 < s.size then 21 else spendE d) else reachE d k
/-- A disk behind a Write. -/
def D.write (d : D) (k : Int) (s : ByteArray) : D :=
  if reachE d k = 0 then (if 256 < s.size then d else if spendE d = 0 then { d.spent with late := d.spent.late ++ [(k.toNat, filled s)] } else d.spent) else d
/-- What a call that writes leaves of the disk's blocks. -/
def Moves (F : Foot) (d' : D) (w w' : World) : Prop := ∃ F', Dk w' F' d' ∧ F'.p = F.p ∧ (∀ k, F'.own k → F.own k ∨ w.heap.size ≤ k) ∧ Keeps F.own w w'

theorem info_write : (Tryz.prog.info? 147).map (fun i => (i.zero, i.size, i.bytes)) = some (some (.agg (#[.int .i64 0] ++ Array.replicate 256 (.int .u8 0))), 257, 264) := by kernel_rfl
theorem loadS_write (v : Value) : Instr.loadAt 147 v = loadS 147 v := rfl
theorem loadS_block (v : Value) : Instr.loadAt 145 v = loadS 145 v := rfl
theorem storeS_write (p v : Value) : Instr.storeAt 147 p v = storeS 147 p v := rfl
theorem storeS_block (p v : Value) : Instr.storeAt 145 p v = storeS 145 p v := rfl
theorem buildS_write (n : Nat) (l : Array (Nat × Value)) : Instr.buildSlice 97 n l = buildS 97 n l := rfl
theorem buildS_one (m : Int) (s : ByteArray) (w : World) : (buildS 97 1 #[(0, .agg (writeCells m s))]).run Tryz.prog w = .ok (.slice (some ⟨w.heap.size, 0, none⟩) 1 1) (w.alloc (.cells (writeCells m s) 147)) := by
  obtain ⟨i, i1, i2, i3, _⟩ := info_parts info_write
  exact run_buildOne (P := Tryz.prog) w 97 147 (writeCells m s) i _ Tryz.underlying97 i1 i2 (by rw [i3, writeCells_size]) (by omega) (by omega)
attribute [local go_sem ↓ high] loadS_write loadS_block storeS_write storeS_block buildS_write
theorem wrote_own {F : Foot} {g n cap H k : Nat} (h : F.lv.ownBlock = some g ∨ H ≤ g) (hk : Foot.own { F with lv := .slice (some ⟨g, 0, none⟩) n cap } k) : F.own k ∨ H ≤ k := by
  rcases hk with hk | hk | hk | hk
  · exact .inl (.inl hk)
  · exact .inl (.inr (.inl hk))
  · exact .inl (.inr (.inr (.inl hk)))
  · have e : g = k := by simpa [Value.ownBlock] using hk
    subst e
    rcases h with h | h
    · exact .inl (.inr (.inr (.inr h)))
    · exact .inr h
theorem zero_write (w : World) : (zeroValue 147).run Tryz.prog w = .ok (.agg emptyWrite) w := (zero_of_info (P := Tryz.prog) (t := 147) (v := .agg emptyWrite) (n := 257) (by kernel_rfl)).1 w
theorem size_write : (Tryz.prog.info? 147).map (·.size) = some 257 := by kernel_rfl
theorem write_same (k : Int) : emptyWrite.size = (emptyWrite.setIfInBounds 0 (.int .i64 k)).size := Array.size_setIfInBounds.symm
theorem write_size (k : Int) : (Tryz.prog.info? 147).map (·.size) = some (emptyWrite.setIfInBounds 0 (.int .i64 k)).size := by
  rw [← write_same, size_write]
  simp [emptyWrite]
theorem write_one (k : Int) : (emptyWrite.setIfInBounds 0 (.int .i64 k)).all (·.oneCell') = true := by
  rw [Array.all_eq_true]
  intro i hi
  have := emptyWrite_get i k
  rw [Array.getElem?_eq_getElem hi] at this
  rcases i with _ | i
  · rw [if_pos rfl, Option.some.injEq] at this
    rw [this]
    rfl
  · rw [if_neg (by omega), if_pos (by have := write_same k; simp [emptyWrite] at this hi; omega), Option.some.injEq] at this
    rw [this]
    rfl
theorem size_block : (Tryz.prog.info? 145).map (·.size) = some 256 := by kernel_rfl
theorem WritePost_no {F : Foot} {d : D} {w : World} (h : Dk w F d) : Moves F d w w := ⟨F, h, rfl, fun _ hk => .inl hk, Keeps.refl _ _⟩
theorem append_base {W : World} {B : Nat} {o : Obj} (h : B ≤ W.heap.size) : B ≤ (W.drew.alloc o).heap.size := by
  rw [World.size_alloc]
  exact Nat.le_succ_of_le h
theorem write_facts {w w1 W w4 : World} {F : Foot} {d : D} {m : Nat} {g cap : Nat} (hd1 : Dk w1 F d) (hdW : Dk W F d) (hkW : Keeps F.own w W) (hsW : W.heap.size = w1.heap.size + 1) (s : ByteArray)
    (hW0 : W.heap[w1.heap.size]? = some (.cells (writeCells m s) 147 (0, 0))) (hlt : m < d.n)
    (hown : w4.ownsRow F.B 147 257 (.slice (some ⟨g, 0, none⟩) (d.late.length + 1) cap) (d.late.length + 1) (lateCells d.late ++ (writeCells m s).toList)) (hgrow : (W.drew.alloc (.cells (writeCells m s) 147)).grownBy w4 F.lv.ownBlock)
    (hat : F.lv.ownBlock = some g ∨ g = (W.drew.alloc (.cells (writeCells m s) 147)).heap.size) :
    Keeps F.own w w4 ∧ Hid (Dk ((w4.setCell ⟨F.p, 2, none⟩ (.slice (some ⟨g, 0, none⟩) (d.late.length + 1) cap)).drew.setCells F.L (m * 256) (textCells 256 s)) { F with lv := .slice (some ⟨g, 0, none⟩) (d.late.length + 1) cap } { d with late := d.late ++ [(m, filled s)] }) ∧
      Hid (w4.heap[w1.heap.size]? = some (.cells (writeCells m s) 147 (0, 0))) ∧ Hid (F.lv.ownBlock = some g ∨ w.heap.size ≤ g) ∧
      w4.frozen? ⟨F.p, 2, none⟩ = false ∧ w4.cell? ⟨F.p, 2, none⟩ = some F.lv ∧ Hid (∀ k, k = F.p ∨ k = F.S ∨ k = F.L → w4.heap[k]? = W.heap[k]?) := by
  have hk4 : Keeps F.own w w4 := (hkW.drew.alloc _).grown hgrow fun k hk => .inl (.inr (.inr (.inr hk)))
  have hsz4 : W.heap.size ≤ w4.heap.size := Nat.le_trans (by rw [World.size_alloc]; exact Nat.le_succ _) hgrow.size
  have heq4 : ∀ k, k < W.heap.size → F.lv.ownBlock ≠ some k → w4.heap[k]? = W.heap[k]? := fun k hk hne =>
    (hgrow.block k (by rw [World.size_alloc]; exact Nat.lt_succ_of_lt hk) (fun e => hne e.symm)).trans (Below.heap_alloc W.drew _ k hk)
  have heqF : ∀ k, k = F.p ∨ k = F.S ∨ k = F.L → w4.heap[k]? = W.heap[k]? := fun k hk => by
    refine heq4 k (hdW.own_lt (by rcases hk with h | h | h; exact .inl h; exact .inr (.inl h); exact .inr (.inr (.inl h)))) fun e => ?_
    obtain ⟨n1, n2, n3, _⟩ := hdW.own_ne e
    omega
  refine ⟨hk4, hdW.wrote m hlt s g cap hsz4 heqF hown, (heq4 _ (by rw [hsW]; exact Nat.lt_succ_self _) (fun e => ?_)).trans hW0, ?_, ?_, ?_, heqF⟩
  · have := DiskAt.own_lt hd1 (.inr (.inr (.inr e)))
    omega
  · rcases hat with c | c
    · exact .inl c
    · right
      rw [c, World.size_alloc]
      exact Nat.le_succ_of_le hkW.size
  · exact frozen_of_row _ _ _ _ _ ((heqF _ (.inl rfl)).trans hdW.head)
  · rw [cell_of_row _ _ _ _ _ _ ((heqF _ (.inl rfl)).trans hdW.head)]
    rfl
set_option maxHeartbeats 400000 in
theorem write_any (w : World) (F : Foot) (d : D) (k : Int) (s : ByteArray) (h : Dk w F d) (h0 : -9223372036854775808 ≤ k) (h1 : k ≤ 9223372036854775807) (hl : d.late.length < 4294967296) :
    Calls Tryz.prog 48 #[.pointer (some ⟨F.p, 0, none⟩), .int .i64 k, .string s] w fun e w' => e = .returned (.int .i64 (writeE d k s)) ∧ Moves F (d.write k s) w w' := by
  have hE : writeE d k s = if reachE d k = 0 then (if 256 < s.size then 21 else spendE d) else reachE d k := rfl
  have hD : d.write k s = if reachE d k = 0 then (if 256 < s.size then d else if spendE d = 0 then { d.spent with late := d.spent.late ++ [(k.toNat, filled s)] } else d.spent) else d := rfl
  have HE := Lib.hid hE
  have HD := Lib.hid hD
  clear hE hD
  rcases reachE_cases d k with ⟨a, hk, hn, _⟩ | ⟨a, _⟩ | ⟨a, _⟩
  · have hr := Lib.hid a
    clear a
    by_cases hbig : 256 < s.size
    · have hb : decide (256 < s.size) = true := by simpa using hbig
      go_enter Tryz.func48, Tryz.ntmps48
      go_wp2_with fail
      refine (reach_any _ F d _ h h0 h1).mono ?_
      rintro e _ ⟨rfl, rfl⟩
      rw [hr.out]
      go_wp2
      go_returns
      exact ⟨ret_i (by rw [HE.out, hr.out, if_pos rfl, if_pos hbig]), by rw [HD.out, hr.out, if_pos rfl, if_pos hbig]; exact WritePost_no h⟩
    · have hb : decide (256 < s.size) = false := by simpa using hbig
      have hsp : spendE d = 11 ∨ spendE d = 0 := by unfold spendE; split <;> simp
      rcases hsp with a | a
      · have hs := Lib.hid a
        clear a
        go_enter Tryz.func48, Tryz.ntmps48
        go_wp2_with fail
        refine (reach_any _ F d _ h h0 h1).mono ?_
        rintro e _ ⟨rfl, rfl⟩
        rw [hr.out]
        go_wp2_with fail
        refine (spend_any _ F d h).mono ?_
        rintro e w1 ⟨rfl, hd1, hk1⟩
        rw [hs.out]
        go_wp2
        go_returns
        exact ⟨ret_i (by rw [HE.out, hr.out, if_pos rfl, if_neg hbig, hs.out]), by
          rw [HD.out, hr.out, if_pos rfl, if_neg hbig, if_neg (by rw [hs.out]; decide)]
          exact ⟨F, hd1, rfl, fun _ hk => .inl hk, hk1.mono fun i hi => .inl (.inl hi)⟩⟩
      · have hs := Lib.hid a
        clear a
        obtain ⟨m, rfl⟩ := Int.eq_ofNat_of_zero_le hk
        rw [Int.toNat_natCast] at HD
        have hlt : m < d.spent.n := by rw [(spent_same d).1]; omega
        have hlen : d.spent.late.length < 4294967296 := by rw [(spent_same d).2.2]; exact hl
        go_enter Tryz.func48, Tryz.ntmps48
        go_wp2_with fail
        refine (reach_any _ F d _ h h0 h1).mono ?_
        rintro e _ ⟨rfl, rfl⟩
        rw [hr.out]
        go_wp2_with fail
        refine (spend_any _ F d h).mono ?_
        rintro e w1 ⟨rfl, hd1, hk1⟩
        rw [hs.out]
        have hzero := zero_write
        have hne := emptyWrite_ne
        have hcopy := copy_write (P := Tryz.prog) w1 143 9 3 5 147 m s Tryz.underlying143 (by kernel_rfl) (by omega)
        go_wp2_with (with_reducible refine wpList_store_new rfl 147 (.tmp 9) (.tmp 25) rfl emptyWrite (emptyWrite.setIfInBounds 0 (.int .i64 m)) _ rfl rfl (write_size m) (write_same m) (write_one m) ?_)
        have hW0 : (w1.alloc (.cells (writeCells m s) 147)).heap[w1.heap.size]? = some (.cells (writeCells m s) 147 (0, 0)) := heap_alloc_new _ _
        have hdW : Dk (w1.alloc (.cells (writeCells m s) 147)) F d.spent := DiskAt.below hd1 (by go_grown)
        have hkW : Keeps F.own w (w1.alloc (.cells (writeCells m s) 147)) := (hk1.mono fun i hi => .inl (.inl hi)).alloc _
        have hsW : (w1.alloc (.cells (writeCells m s) 147)).heap.size = w1.heap.size + 1 := World.size_alloc ..
        generalize w1.alloc (.cells (writeCells m s) 147) = W at *
        clear hcopy hzero hne
        have HsW := Lib.hid hsW
        have HW0 := Lib.hid hW0
        have hlw : loadMany Tryz.prog 147 W.drew w1.heap.size 0 = .ok (.agg (writeCells m s)) W.drew := loadMany_range (writeCells m s).toList _ (rangeAt_whole hW0) Tryz.underlying147 rfl (by rw [size_write, Array.length_toList, writeCells_size])
        obtain ⟨e0, e1, e2, e3, e4⟩ := DiskAt.cells hdW
        clear hW0 hsW
        have hlv : (loadS 147 (.pointer (some ⟨w1.heap.size, 0, none⟩))).run Tryz.prog W.drew = .ok (.agg (writeCells m s)) W.drew := hlw
        have hbv := buildS_one m s
        have hpW : F.p < W.heap.size := DiskAt.own_lt hdW (.inl rfl)
        obtain ⟨i0, hi, hz0, hz1, hz2⟩ := info_parts info_write
        have HI := Lib.hid (And.intro hi (And.intro hz0 (And.intro hz1 hz2)))
        clear hlw hi hz0 hz1 hz2
        go_region_law (refine step_append_lies _ rfl (.tmp 34) (.tmp 36) 97 rfl F.B 147 i0 _ 257 264 Tryz.underlying97 HI.out.1 HI.out.2.1 HI.out.2.2.1 HI.out.2.2.2 (by simp [Value.cells]) (by decide) F.lv _ _ rfl (World.ownsRow.alloc hdW.late _) _ 1 1 (writeCells m s).toList rfl (by rw [Array.length_toList, writeCells_size]) (World.news_of_block (heap_alloc_new _ _)) (writeCells_one m s) (by decide) (Nat.le_trans (Nat.succ_le_succ (Nat.le_of_lt hlen)) (by decide)) (by omega) (append_base hdW.base) _ rfl ?_; intro g cap w4 hown hgrow hat hlt4; obtain ⟨hk4, Hfin, HH4, Hg4, f4, c4, HqF⟩ := write_facts hd1 hdW hkW HsW.out s HW0.out hlt hown hgrow hat; clear hown hgrow hat)
        all_goals
          go_wp2_with fail
          have hp5 := heap_setCell_same w4 F.p 2 _ _ (.slice (some ⟨g, 0, none⟩) (d.spent.late.length + 1) cap) ((HqF.out _ (.inl rfl)).trans hdW.head)
          have hL5 : Rows 145 (w4.setCell ⟨F.p, 2, none⟩ (.slice (some ⟨g, 0, none⟩) (d.spent.late.length + 1) cap)).drew F.L d.spent.n d.spent.last :=
            Rows.keep hdW.last ((heap_setCell_other _ _ _ _ hdW.pL.symm).trans (HqF.out _ (.inr (.inr rfl))))
          have hne : w1.heap.size ≠ F.p := fun e => by
            have := DiskAt.own_lt hd1 (.inl rfl)
            omega
          have hw5 : (w4.setCell ⟨F.p, 2, none⟩ (.slice (some ⟨g, 0, none⟩) (d.spent.late.length + 1) cap)).drew.heap[w1.heap.size]? = some (.cells (writeCells m s) 147 (0, 0)) :=
            (heap_setCell_other _ _ _ _ hne).trans HH4.out
          have hk5 : Keeps F.own w (w4.setCell ⟨F.p, 2, none⟩ (.slice (some ⟨g, 0, none⟩) (d.spent.late.length + 1) cap)) := hk4.setCell (.inl (.inl rfl)) _
          have Hfin2 : DiskAt _ _ _ _ _ _ := Hfin.out
          generalize w4.setCell ⟨F.p, 2, none⟩ (.slice (some ⟨g, 0, none⟩) (d.spent.late.length + 1) cap) = w5 at *
          have hr5 : w5.drew.rangeAt w1.heap.size 1 (textCells 256 s) := fun j v hv => by
            rw [cell_of_row _ _ _ _ _ _ hw5]
            have e : (writeCells m s)[1 + j]? = (textCells 256 s)[j]? := by
              rw [Nat.add_comm]
              simp [writeCells]
            rw [e, hv]
          have hload : loadMany Tryz.prog 145 w5.drew w1.heap.size 1 = .ok (.agg (textCells 256 s).toArray) w5.drew := loadMany_range _ _ hr5 Tryz.underlying145 rfl (by rw [size_block, length_textCells])
          have hstore : storeMany Tryz.prog 145 w5.drew F.L (m * 256) (.agg (textCells 256 s).toArray) = .ok () (w5.drew.setCells F.L (m * 256) (textCells 256 s)) :=
            storeMany_range _ (by rw [length_textCells]; exact hL5.there hlt) (by rw [size_block, length_textCells]) (textCells_one _ _)
          have c5 : w5.cell? ⟨F.p, 1, none⟩ = some (.slice (some ⟨F.L, 0, none⟩) d.spent.n d.spent.n) := by rw [cell_of_row _ _ _ _ _ _ hp5]; rfl
          have Hfin3 := Lib.hid Hfin2
          clear Hfin Hfin2 hr5 hw5 hL5 hp5 HH4 c4 f4 HqF
          refine wp_region_still_tail 8 (by kernel_rfl) (by kernel_rfl) ?_
          simp only [List.take_succ_cons, List.take_zero, List.drop_succ_cons, List.drop_zero]
          change wpStill _ _ w5.drew _ _ _
          still_step
          still_step
          still_step
          still_step
          still_step
          still_step
          refine wpStill_loadMany rfl 145 (.tmp 45) rfl w1.heap.size 1 rfl _ hload ?_
          still_step
          refine wpStill_nil ?_
          refine wpList_storeMany rfl 145 (.tmp 47) (.tmp 46) rfl F.L (m * 256) _ rfl rfl hstore ?_
          go_wp2_with fail
          go_returns
          refine ⟨?_, ?_⟩
          · rw [HE.out, hr.out, if_pos rfl, if_neg hbig, hs.out]
            rfl
          · rw [HD.out, hr.out, if_pos rfl, if_neg hbig, hs.out, if_pos rfl]
            exact ⟨_, Hfin3.out, rfl, fun k hk => wrote_own Hg4.out hk, hk5.drew.setCells (.inl (.inr (.inr (.inl rfl)))) _ _⟩
  all_goals
    have hr := Lib.hid a
    clear a
    go_enter Tryz.func48, Tryz.ntmps48
    go_wp2_with fail
    refine (reach_any _ F d _ h h0 h1).mono ?_
    rintro e _ ⟨rfl, rfl⟩
    rw [hr.out]
    go_wp2
    go_returns
    exact ⟨ret_i (by rw [HE.out, hr.out, if_neg (by decide)]), by rw [HD.out, hr.out, if_neg (by decide)]; exact WritePost_no h⟩
end Go.Proofs.YtkdhlofcdcnjgaaGreat
namespace Go.Proofs.YtkdhlofcdcnjgaaGreat
set_option maxRecDepth 100000
open Go.ChangeShapes Go.WideShapes Go.ChangeAt Go.RowKit Go.PlainAid
attribute [local go_sem ↓ high] loadS_write loadS_block storeS_write storeS_block buildS_write

theorem storeS_new (w : World) (i : Int) (s : ByteArray) : (storeS 147 (.pointer (some ⟨w.heap.size, 0, none⟩)) (.agg (writeCells i s))).run Tryz.prog (w.alloc (.cells emptyWrite 147)) = .ok () (w.alloc (.cells (writeCells i s) 147)) := by
  have h0 : emptyWrite.size = (writeCells i s).size := by rw [writeCells_size]; simp [emptyWrite]
  have hr := run_storeVar_row (P := Tryz.prog) (w.alloc (.cells emptyWrite 147)) w.heap.size 147 147 emptyWrite (writeCells i s) (heap_alloc_new w _) (by rw [size_write, writeCells_size]) h0
    (Array.all_eq_true_iff_forall_mem.2 fun v hv => writeCells_one i s v (by simpa using hv))
  rw [setRow_alloc] at hr
  show (Instr.storeAt 147 (.pointer (some ⟨w.heap.size, 0, none⟩)) (.agg (writeCells i s))).run Tryz.prog _ = _
  simp only [Instr.storeAt, Instr.sureAddr, Sem.run_bind, Sem.run_pure, Result.andThen_ok, hr]
theorem loadS_range {w : World} {g o : Nat} {i : Int} {s : ByteArray} (h : w.rangeAt g o (writeCells i s).toList) : (loadS 147 (.pointer (some ⟨g, o, none⟩))).run Tryz.prog w = .ok (.agg (writeCells i s)) w :=
  loadMany_range (writeCells i s).toList _ h Tryz.underlying147 rfl (by rw [size_write, Array.length_toList, writeCells_size])
theorem loadS_text {w : World} {g o : Nat} {s : ByteArray} (h : w.rangeAt g o (textCells 256 s)) : (loadS 145 (.pointer (some ⟨g, o, none⟩))).run Tryz.prog w = .ok (.agg (textCells 256 s).toArray) w :=
  loadMany_range _ _ h Tryz.underlying145 rfl (by rw [size_block, length_textCells])
theorem storeS_text {w : World} {g o : Nat} {s : ByteArray} (h : w.there g o 256) : (storeS 145 (.pointer (some ⟨g, o, none⟩)) (.agg (textCells 256 s).toArray)).run Tryz.prog w = .ok () (w.setCells g o (textCells 256 s)) :=
  storeMany_range _ (by rw [length_textCells]; exact h) (by rw [size_block, length_textCells]) (textCells_one _ _)
/-- The data of a write that lies whole in a block. -/
theorem range_data {w : World} {g : Nat} {i : Int} {s : ByteArray} {t : TypeId} {fr : Nat × Nat} (h : w.heap[g]? = some (.cells (writeCells i s) t fr)) : w.rangeAt g 1 (textCells 256 s) := fun j v hv => by
  rw [cell_of_row _ _ _ _ _ _ h]
  have e : (writeCells i s)[1 + j]? = (textCells 256 s)[j]? := by
    rw [Nat.add_comm]
    simp [writeCells]
  rw [e, hv]

def flushE (d : D) : Int := if readyE d = 0 then spendE d else readyE d
def D.flush (d : D) : D := if readyE d = 0 then (if spendE d = 0 then d.spent.flushed else d.spent) else d
theorem flushed_moves {w w1 wr : World} {F : Foot} {d : D} (hd1 : Dk w1 F d.spent) (hk1 : Keeps (fun k => k = F.p) w w1) (hkr : Keeps (fun j => j = F.S) w1 wr) (hr : Rows 145 wr F.S d.spent.n d.spent.last) :
    Moves F d.spent.flushed w (wr.setCell ⟨F.p, 2, none⟩ (.slice none 0 0)) := by
  refine ⟨_, DiskAt.flush hd1 hkr hr, rfl, fun k hk => .inl ?_, ?_⟩
  · rcases hk with hk | hk | hk | hk
    · exact .inl hk
    · exact .inr (.inl hk)
    · exact .inr (.inr (.inl hk))
    · cases hk
  · have a : Keeps F.own w w1 := hk1.mono fun i hi => .inl (.inl hi)
    have b : Keeps F.own w1 wr := hkr.mono fun i hi => .inl (.inr (.inl hi))
    exact (a.on b).setCell (.inl (.inl rfl)) _
set_option maxHeartbeats 400000 in
theorem flush_any (w : World) (F : Foot) (d : D) (h : Dk w F d) (hl : d.late.length < 4294967296) :
    Calls Tryz.prog 93 #[.pointer (some ⟨F.p, 0, none⟩)] w fun e w' => e = .returned (.int .i64 (flushE d)) ∧ Moves F d.flush w w' := by
  have hE : flushE d = if readyE d = 0 then spendE d else readyE d := rfl
  have hD : d.flush = if readyE d = 0 then (if spendE d = 0 then d.spent.flushed else d.spent) else d := rfl
  have HE := Lib.hid hE
  have HD := Lib.hid hD
  clear hE hD
  have hcases : readyE d = 11 ∨ readyE d = 0 := by unfold readyE; cases d.dark <;> simp
  rcases hcases with a | a
  · have hr := Lib.hid a
    clear a
    go_enter Tryz.func93, Tryz.ntmps93
    go_wp2_with fail
    refine (ready_any _ F d h).mono ?_
    rintro e _ ⟨rfl, rfl⟩
    rw [hr.out]
    go_wp2
    go_returns
    exact ⟨ret_i (by rw [HE.out, hr.out, if_neg (by decide)]), by rw [HD.out, hr.out, if_neg (by decide)]; exact WritePost_no h⟩
  · have hr := Lib.hid a
    clear a
    have hsp : spendE d = 11 ∨ spendE d = 0 := by unfold spendE; split <;> simp
    rcases hsp with a | a
    · have hs := Lib.hid a
      clear a
      go_enter Tryz.func93, Tryz.ntmps93
      go_wp2_with fail
      refine (ready_any _ F d h).mono ?_
      rintro e _ ⟨rfl, rfl⟩
      rw [hr.out]
      go_wp2_with fail
      refine (spend_any _ F d h).mono ?_
      rintro e w1 ⟨rfl, hd1, hk1⟩
      rw [hs.out]
      go_wp2
      go_returns
      exact ⟨ret_i (by rw [HE.out, hr.out, if_pos rfl, hs.out]), by
        rw [HD.out, hr.out, if_pos rfl, if_neg (by rw [hs.out]; decide)]
        exact ⟨F, hd1, rfl, fun _ hk => .inl hk, hk1.mono fun i hi => .inl (.inl hi)⟩⟩
    · have hs := Lib.hid a
      clear a
      have hlen : d.spent.late.length < 4294967296 := by rw [(spent_same d).2.2]; exact hl
      go_enter Tryz.func93, Tryz.ntmps93
      go_wp2_with fail
      refine (ready_any _ F d h).mono ?_
      rintro e _ ⟨rfl, rfl⟩
      rw [hr.out]
      go_wp2_with fail
      refine (spend_any _ F d h).mono ?_
      rintro e w1 ⟨rfl, hd1, hk1⟩
      rw [hs.out]
      have hzero := zero_write
      have hnew := storeS_new
      obtain ⟨c0, c1, c2, c3, c4⟩ := DiskAt.cells hd1
      rcases hd1.lates with ⟨hv, hnil⟩ | ⟨g, cap, hv, hB, hgl, hown, hrows⟩
      · rw [hv] at c2
        have HN := Lib.hid hnil
        have f2 := DiskAt.thaw hd1 2
        clear hv hnil
        go_wp2
        go_rounds 1
        go_returns
        refine ⟨?_, ?_⟩
        · rw [HE.out, hr.out, if_pos rfl, hs.out]
          rfl
        · rw [HD.out, hr.out, if_pos rfl, hs.out, if_pos rfl]
          refine flushed_moves hd1 hk1 (Keeps.refl _ _) ?_
          refine hd1.safe.congr fun k _ => ?_
          unfold D.last
          rw [HN.out]
          rfl
      · rw [hv] at c2
        have HV := Lib.hid hv
        have HO := Lib.hid hown
        have HR := Lib.hid hrows
        have hSB := hd1.SB
        clear hv hown hrows
        go_wp2
        go_loopw [22] (fun i wr => ∃ k : Nat, k ≤ d.spent.late.length ∧ i = .int .i64 k ∧ Keeps (fun j => j = F.S) w1 wr ∧ Rows 145 wr F.S d.spent.n (done d.spent.safe (d.spent.late.take k))) (fun i _ => d.spent.late.length - (intOf i).toNat)
        case atStart => exact ⟨0, Nat.zero_le _, rfl, Keeps.refl _ _, hd1.safe⟩
        case round =>
          obtain ⟨k, hk, rfl, hkr, hsr⟩ := hrel
          by_cases hlt : k < d.spent.late.length
          · obtain ⟨x, hx⟩ : ∃ x, d.spent.late[k]? = some x := ⟨_, List.getElem?_eq_getElem hlt⟩
            have hxw := hd1.wf.late x (List.mem_of_getElem? hx)
            have hx1 : x.1 < d.spent.n := hxw.1
            have hld := loadS_range (rangeAt_keep (HR.out k x hx) (hkr.block g hgl (by omega)))
            have hW0 : (wr.alloc (.cells (writeCells x.1 x.2) 147)).heap[wr.heap.size]? = some (.cells (writeCells x.1 x.2) 147 (0, 0)) := heap_alloc_new _ _
            have hkW : Keeps (fun j => j = F.S) w1 (wr.alloc (.cells (writeCells x.1 x.2) 147)) := hkr.alloc _
            have hsW : Rows 145 (wr.alloc (.cells (writeCells x.1 x.2) 147)) F.S d.spent.n (done d.spent.safe (d.spent.late.take k)) := hsr.keep (Below.heap_alloc _ _ _ hsr.lt)
            have hcW : (wr.alloc (.cells (writeCells x.1 x.2) 147)).cell? ⟨F.p, 0, none⟩ = some (.slice (some ⟨F.S, 0, none⟩) d.spent.n d.spent.n) :=
              (World.cell?_of_block (a := ⟨F.p, 0, none⟩) (hkW.block F.p (DiskAt.own_lt hd1 (.inl rfl)) hd1.pS)).trans c0
            have H1 := Lib.hid hW0
            have H2 := Lib.hid hsW
            have H3 := Lib.hid hx
            clear hW0 hsW hx hsr
            go_wp2_with fail
            generalize wr.alloc (.cells (writeCells x.1 x.2) 147) = W at *
            have hat : W.cell? ⟨wr.heap.size, 0, none⟩ = some (.int .i64 x.1) := by rw [cell_of_row _ _ _ _ _ _ H1.out]; rfl
            have hdt : (loadS 145 (.pointer (some ⟨wr.heap.size, 1, none⟩))).run Tryz.prog W.drew = .ok (.agg (textCells 256 x.2).toArray) W.drew := loadS_text (w := W.drew) (range_data H1.out)
            have hst : (storeS 145 (.pointer (some ⟨F.S, x.1 * 256, none⟩)) (.agg (textCells 256 x.2).toArray)).run Tryz.prog W.drew = .ok () (W.drew.setCells F.S (x.1 * 256) (textCells 256 x.2)) := storeS_text (H2.out.there hx1)
            have hsz : d.spent.late.length ≤ 4294967296 := Nat.le_of_lt hlen
            clear hld
            go_still_tail 9, (by kernel_rfl)
            go_wp2
            go_roundw
            case rel =>
              refine ⟨k + 1, by omega, by go_num, hkW.drew.setCells (.inl rfl) _ _, ?_⟩
              rw [done_take _ _ _ x H3.out]
              exact Rows.set (w := W.drew) H2.out hx1 x.2
            case measure => simp [intOf]; omega
          · have hk2 : k = d.spent.late.length := by omega
            subst hk2
            have hp2 := (World.cell?_of_block (a := ⟨F.p, 2, none⟩) (hkr.block F.p (DiskAt.own_lt hd1 (.inl rfl)) hd1.pS)).trans c2
            have hf2 : wr.frozen? ⟨F.p, 2, none⟩ = false := (World.frozen?_of_block (a := ⟨F.p, 2, none⟩) (hkr.block F.p (DiskAt.own_lt hd1 (.inl rfl)) hd1.pS)).trans (DiskAt.thaw hd1 2)
            have HS := Lib.hid hsr
            clear hsr
            go_wp2
            go_returns
            refine ⟨?_, ?_⟩
            · rw [HE.out, hr.out, if_pos rfl, hs.out]
              rfl
            · rw [HD.out, hr.out, if_pos rfl, hs.out, if_pos rfl]
              refine flushed_moves hd1 hk1 hkr ?_
              have := HS.out
              rw [List.take_length] at this
              exact this
def D.limited (d : D) (n : Int) : D := { d with limit := max n (-1) }
theorem limited_moves {w : World} {F : Foot} {d : D} (h : Dk w F d) (n v : Int) (hv : v = max n (-1)) (h1 : n ≤ 9223372036854775807) : Moves F (d.limited n) w (w.setCell ⟨F.p, 3, none⟩ (.int .i64 v)) := by
  refine ⟨F, ?_, rfl, fun _ hk => .inl hk, (Keeps.refl _ _).setCell (.inl (.inl rfl)) _⟩
  have := h.newHead (w.setCell ⟨F.p, 3, none⟩ (.int .i64 v)) v d.dark (by rw [World.size_setCell]; exact Nat.le_refl _) (by omega) (by omega) (heap_setCell_same _ _ _ _ _ _ h.head) (fun k _ hk => heap_setCell_other _ _ _ _ hk)
  rw [hv] at this ⊢
  exact this
set_option maxHeartbeats 400000 in
theorem flush_no (w : World) (v : Value) (h : NoDisk w v) :
    Calls Tryz.prog 93 #[v] w fun e w' => e = .returned (.int .i64 3) ∧ w = w' := by
  go_enter Tryz.func93, Tryz.ntmps93
  go_wp2_with fail
  refine (ready_no _ v h).mono ?_
  rintro e _ ⟨rfl, rfl⟩
  go_wp2
  go_returns
  exact ⟨rfl, rfl⟩
set_option maxHeartbeats 400000 in
theorem write_no (w : World) (v : Value) (k : Int) (s : ByteArray) (h : NoDisk w v) :
    Calls Tryz.prog 48 #[v, .int .i64 k, .string s] w fun e w' => e = .returned (.int .i64 3) ∧ w = w' := by
  go_enter Tryz.func48, Tryz.ntmps48
  go_wp2_with fail
  refine (reach_no _ v k h).mono ?_
  rintro e _ ⟨rfl, rfl⟩
  go_wp2
  go_returns
  exact ⟨rfl, rfl⟩
end Go.Proofs.YtkdhlofcdcnjgaaGreat
namespace Go.Proofs.YtkdhlofcdcnjgaaGreat
set_option maxRecDepth 100000
open Go.ChangeShapes Go.WideShapes Go.ChangeAt Go.RowKit Go.PlainAid
attribute [local go_sem ↓ high] loadS_write loadS_block storeS_write storeS_block buildS_write

/-- copy(safe[at][:n], w.data[:]). -/
theorem copy_part {w : World} {S o h n : Nat} {s : ByteArray} (hn : n ≤ 256) (cap : Nat) (ht : w.there S o 256) (hr : w.rangeAt h 1 (textCells 256 s)) :
    (Builtin.copy_ #[143, 143] 3 #[.slice (some ⟨S, o, none⟩) n cap, .slice (some ⟨h, 1, none⟩) 256 256]).run Tryz.prog w = .ok (goInt n) (w.setCells S o (textCells n s)) := by
  have hmin : Nat.min 256 n = n := Nat.min_eq_right hn
  have := run_copy_cells (P := Tryz.prog) w 143 143 3 5 S o n cap ⟨h, 1, none⟩ 256 256 (textCells n s) Tryz.underlying143 (by kernel_rfl) (by rw [length_textCells, hmin]) (fun j v hv => by
    have hj : j < n := by have := (List.getElem?_eq_some_iff.1 hv).1; simpa using this
    rw [Addr.add_mid]
    exact hr j v (by rw [textCells_get 256 s (by omega), ← textCells_get n s hj, hv])) (fun j hj => (ht j (by rw [length_textCells] at hj; omega)).1) (fun j hj => (ht j (by rw [length_textCells] at hj; omega)).2) (textCells_one _ _)
  rw [this, length_textCells]
theorem bit_low (m : Int) (k : Nat) (m0 : 0 ≤ m) (m1 : m ≤ 18446744073709551615) : bits .and .u64 (m / 2 ^ (k % 64)) 1 = m / 2 ^ (k % 64) % 2 := by
  have h2 : (0 : Int) < 2 ^ (k % 64) := Int.pow_pos (by decide)
  have h0 : 0 ≤ m / 2 ^ (k % 64) := Int.ediv_nonneg m0 (Int.le_of_lt h2)
  have h1 : m / 2 ^ (k % 64) ≤ m := Int.ediv_le_self _ m0
  exact u64_low _ h0 (Int.le_trans h1 m1)
theorem bit_no {m : Int} {k : Nat} (m0 : 0 ≤ m) (m1 : m ≤ 18446744073709551615) (b : bitB m k = false) : (bits .and .u64 (m / 2 ^ (k % 64)) 1 == 0) = true := by
  rw [bit_low m k m0 m1]
  unfold bitB at b
  have := Int.emod_two_eq (m / 2 ^ (k % 64))
  rcases this with e | e
  · rw [e]; rfl
  · rw [e] at b; cases b
theorem bit_yes {m : Int} {k : Nat} (m0 : 0 ≤ m) (m1 : m ≤ 18446744073709551615) (b : bitB m k = true) : (bits .and .u64 (m / 2 ^ (k % 64)) 1 == 0) = false := by
  rw [bit_low m k m0 m1]
  unfold bitB at b
  have := Int.emod_two_eq (m / 2 ^ (k % 64))
  rcases this with e | e
  · rw [e] at b; cases b
  · rw [e]; rfl
/-- What a round of the crash leaves in the safe blocks. -/
theorem crash_row {W : World} {S : Nat} {d : D} {m t c : Int} {k : Nat} {x : Nat × ByteArray} (hx : d.late[k]? = some x) (hx1 : x.1 < d.n) (b : bitB m k = true) (sz : Nat) (hsz : tornTo t c k = sz) (h : Rows 145 W S d.n (d.crashTo m t c k)) :
    Rows 145 (W.drew.setCells S (x.1 * 256) (textCells sz x.2)) S d.n (d.crashTo m t c (k + 1)) := by
  have hle : sz ≤ 256 := by rw [← hsz]; exact tornTo_le t c k
  rw [D.crashTo_kept hx b, hsz]
  refine Rows.setCells (w := W.drew) h hx1 x.2 sz hle _ (fun i _ e => upd_other _ _ e) (fun j hj => ?_) (fun j h1 h2 => ?_)
  · rw [upd_same, mixed_bt _ _ _ (by omega), if_pos hj]
  · rw [upd_same, mixed_bt _ _ _ h2, if_neg (by omega)]
theorem crash_moves {w wr : World} {F : Foot} {d : D} {m t c : Int} (h : Dk w F d) (hk : Keeps (fun j => j = F.S ∨ j = F.L) w wr) (hS : Rows 145 wr F.S d.n (d.crashTo m t c d.late.length)) (hL : Rows 145 wr F.L d.n (d.crashTo m t c d.late.length)) :
    Moves F (d.crash m t c) w (((wr.setCell ⟨F.p, 2, none⟩ (.slice none 0 0)).setCell ⟨F.p, 3, none⟩ (.int .i64 (-1))).setCell ⟨F.p, 4, none⟩ (.bool false)) := by
  refine ⟨_, DiskAt.crashed h m t c hk hS hL, rfl, fun k hk => .inl ?_, ?_⟩
  · rcases hk with hk | hk | hk | hk
    · exact .inl hk
    · exact .inr (.inl hk)
    · exact .inr (.inr (.inl hk))
    · cases hk
  · exact (((hk.mono fun i hi => .inl (.inr (hi.elim .inl fun e => .inr (.inl e)))).setCell (.inl (.inl rfl)) _).setCell (.inl (.inl rfl)) _).setCell (.inl (.inl rfl)) _
end Go.Proofs.YtkdhlofcdcnjgaaGreat
