import Derived.Test.YtcjfnfdinhbdlaaGreatDoorGbf
import Derived.Test.YtcjfnfdinhbdlaaGreatDoorGay
import Derived.Test.YtcjfnfdinhbdlaaGreatDoorGbb
import Derived.Test.YtcjfnfdinhbdlaaGreatDoorGaz
import Derived.Test.YtcjfnfdinhbdlaaGreatDoorGae
namespace Go.Proofs.YtcjfnfdinhbdlaaGreatDoor
set_option maxRecDepth 100000
open Go.ChangeShapes Go.WideShapes Go.ChangeAt Go.RowKit Go.PlainAid Go.Shelf
attribute [local go_sem] Oper.semAt_some
def ofPages (n : Nat) (l : List Int) : Nat := l.countP fun x => decide (x < (n : Int))
theorem ofPages_snoc (n : Nat) (l : List Int) (x : Int) : ofPages n (l ++ [x]) = ofPages n l + if x < (n : Int) then 1 else 0 := by
  unfold ofPages
  rw [List.countP_append, List.countP_singleton]
  by_cases h : x < (n : Int) <;> simp [h]
theorem ofPages_le (n : Nat) (l : List Int) : ofPages n l ≤ l.length := List.countP_le_length
def roomZ (n : Nat) (s : ByteArray) : Int := (n : Int) - (ofPages n (nums s s.size) : Int)
def Counts (n : Nat) (s : ByteArray) (w1 : World) (pre : List Int) (W : World) : Prop :=
  Boxed W w1.heap.size 3 (.int .i64 n) ∧ Boxed W (w1.heap.size + 1) 3 (.int .i64 ((n : Int) - (ofPages n pre : Int))) ∧ Boxed W (w1.heap.size + 1 + 1) 9 (.string s) ∧ Below w1.heap.size w1 W
section
variable {w0 w w' : World} {pp c : Nat} {S : Sto} {R : List (Nat × Obj)}
set_option maxHeartbeats 2000000 in
theorem proom_any (H : Pag w0 pp S c R w) (hp : 0 < S.h.pages) :
    Calls Tryz.prog 21 #[.pointer (some ⟨pp, 0, none⟩)] w fun e w' => e = .returned (.int .i64 (roomZ S.h.pages (S.at 0))) ∧ Pag w0 pp S c R w' := by
  have HR := Lib.hid (pread_any H 0 (by omega) (by omega))
  have hsz := H.size (k := 0) (by omega) (by omega)
  have hpg := H.ok.wf.pages
  clear H
  refine (callsIn_wide (n := 10)).1 ?_
  refine callsIn_of_wp_marks Tryz.func21 rfl trivial ?_ rfl
  simp only [Tryz.ntmps21, List.size_toArray, List.length_cons, List.length_nil, Nat.reduceAdd, Nat.reduceSub, Array.replicate_succ, Array.replicate_zero, List.push_toArray, List.append_toArray, List.nil_append, List.cons_append]
  refine wpIn_wide.2 ?_
  go_wp2_with fail
  refine HR.out.mono ?_
  rintro e w1 ⟨rfl, H1⟩
  obtain ⟨c0, c1⟩ := pager_cells (Pag.at H1)
  have HL := Lib.hid (slenP H1)
  have H1' := Lib.hid H1
  clear H1 HR
  go_wp2_with fail
  refine HL.out.mono ?_
  rintro e _ ⟨rfl, rfl⟩
  clear HL c0 c1
  go_wp2_with fail
  refine (mk_each _ _).mono ?_
  rintro e _ ⟨rfl, rfl⟩
  go_wp2_with fail
  have hS0 : Counts S.h.pages (S.at 0) w1 [] (((w1.alloc (.cells #[.int .i64 S.h.pages] 3)).alloc (.cells #[.int .i64 S.h.pages] 3)).alloc (.cells #[.string (S.at 0)] 9)) := by
    have z1 : (w1.alloc (.cells #[.int .i64 S.h.pages] 3)).heap.size = w1.heap.size + 1 := by simp
    have z2 : ((w1.alloc (.cells #[.int .i64 S.h.pages] 3)).alloc (.cells #[.int .i64 S.h.pages] 3)).heap.size = w1.heap.size + 1 + 1 := by simp
    have q0 := Boxed.new w1 3 (.int .i64 S.h.pages)
    have q1 := Boxed.new (w1.alloc (.cells #[.int .i64 S.h.pages] 3)) 3 (.int .i64 S.h.pages)
    have q2 := Boxed.new ((w1.alloc (.cells #[.int .i64 S.h.pages] 3)).alloc (.cells #[.int .i64 S.h.pages] 3)) 9 (.string (S.at 0))
    rw [z1] at q1
    rw [z2] at q2
    refine ⟨(q0.alloc _).alloc _, ?_, q2, by go_grown⟩
    rw [show ((S.h.pages : Int) - (ofPages S.h.pages [] : Int)) = S.h.pages by show _ - ((0 : Nat) : Int) = _; omega]
    exact q1.alloc _
  have hz0 : (((w1.alloc (.cells #[.int .i64 S.h.pages] 3)).alloc (.cells #[.int .i64 S.h.pages] 3)).alloc (.cells #[.string (S.at 0)] 9)).heap.size = w1.heap.size + 3 := by simp
  generalize ((w1.alloc (.cells #[.int .i64 S.h.pages] 3)).alloc (.cells #[.int .i64 S.h.pages] 3)).alloc (.cells #[.string (S.at 0)] 9) = W0 at *
  generalize hn : S.h.pages = n at *
  generalize hs : S.at 0 = s at *
  have HC0 := Lib.hid hS0
  have HSZ := Lib.hid hsz
  clear hS0 hsz
  refine (wpIn_wide (n := 9)).1 ?_
  refine wpIn_rangeFunc_ownH (w0 := W0) rfl (by decide) (gf := 102) (lb := #[.pointer (some ⟨w1.heap.size + 1 + 1, 0, none⟩)]) rfl trivial (enters_of Tryz.func102 (by kernel_rfl) rfl)
    (ieach_stops (w1.heap.size + 1 + 1) s (by rw [HSZ.out]; omega) W0 HC0.out.2.2.1) (fun h k => Eq.trans k h)
    (fun W l o o' hl' _ _ _ => World.putObj_heap_other (by omega)) (Below.refl _ _) (fun _ => rfl)
    (fun pre W => Counts n s w1 pre W) (fun c pre W => False)
    ?own ?ownx HC0.out
    (fun x a' W => a' = {
      tmps := #[Value.pointer (some { block := pp, off := 0 }), undef, Value.int IntKind.i64 0, Value.string s, Value.int IntKind.i64 0, Value.pointer (some { block := w1.heap.size, off := 0 }), Value.pointer (some { block := w1.heap.size + 1, off := 0 }), .int .i64 x,
          Value.tuple #[Value.string s, Value.int IntKind.i64 0], Value.pointer (some { block := pp, off := 0 }),
          Value.tuple #[Value.string s, Value.int IntKind.i64 0], Value.string s, Value.int IntKind.i64 0,
          Value.int IntKind.i64 0, Value.bool false, Value.pointer (some { block := pp, off := 0 }),
          Value.pointer (some { block := pp, off := 0 }), Value.pointer (some { block := pp, off := 0 }),
          Value.pointer (some { block := S.q, off := 0 }), Value.int IntKind.i64 n, Value.int IntKind.i64 n, Value.string s,
          Value.func (Fn.func 102) #[] #[Value.pointer (some { block := w1.heap.size + 1 + 1, off := 0 })], .int .i64 x, undef, undef, undef, undef, undef, undef], defers := [] }) ?ownA ?assign ?body ?done ?stop
  case own =>
    rintro pre X Y row ⟨h1, h2, h3, h4⟩ hgr hr
    have hk : ∀ k, k < W0.heap.size → k < X.heap.size → Y.heap[k]? = X.heap[k]? := fun k hk hx => hgr.block k hx fun e => by have := (hr k e.symm).1; omega
    exact ⟨(hk _ (by omega) h1.lt).trans h1, (hk _ (by omega) h2.lt).trans h2, (hk _ (by omega) h3.lt).trans h3, h4.grown hgr h4.size (fun k e => by have := (hr k e).1; omega)⟩
  case ownx =>
    rintro c pre X Y row h hgr hr
    exact h
  case ownA =>
    rintro x a' _ X Y row h hgr hr
    exact h
  case assign =>
    rintro l pre x W K h1 hK
    have H1 := Lib.hid h1
    unfold encI
    clear h1
    gi_wp2
    exact hK _ _ (KeepsFrom.refl _ _) rfl H1.out rfl
  case body =>
    rintro l pre x _ W hl' _ ⟨h1, h2, h3, h4⟩ rfl hlt
    have m1 := h1.cell
    have m2 := h2.cell
    have f2 := h2.frozen
    have hle := ofPages_le n pre
    have hll : (nums s s.size).length ≤ 100000 := by
      rw [nums_len]
      have := cnt_le s s.size
      rw [HSZ.out] at this ⊢
      omega
    have HB := Lib.hid (And.intro h1 (And.intro h2 (And.intro h3 h4)))
    have hsn := ofPages_snoc n pre x
    by_cases hx : x < (n : Int)
    · have hd : decide (x < (n : Int)) = true := by simpa using hx
      rw [if_pos hx] at hsn
      have b1 := h1.other (B' := w1.heap.size + 1) (by omega) (.int .i64 ((n : Int) - (ofPages n pre : Int) - 1))
      have b2 := h2.set (.int .i64 ((n : Int) - (ofPages n pre : Int) - 1))
      have b3 := h3.other (B' := w1.heap.size + 1) (by omega) (.int .i64 ((n : Int) - (ofPages n pre : Int) - 1))
      have b4 : Below w1.heap.size w1 (W.setCell ⟨w1.heap.size + 1, 0, none⟩ (.int .i64 ((n : Int) - (ofPages n pre : Int) - 1))) := h4.setCell (Nat.le_succ _) _
      have HI : Hid (Counts n s w1 (pre ++ [x]) (W.setCell ⟨w1.heap.size + 1, 0, none⟩ (.int .i64 ((n : Int) - (ofPages n pre : Int) - 1)))) := by
        refine Lib.hid ⟨b1, ?_, b3, b4⟩
        rw [hsn, show (n : Int) - ((ofPages n pre + 1 : Nat) : Int) = (n : Int) - (ofPages n pre : Int) - 1 by omega]
        exact b2
      clear b1 b2 b3 b4 h1 h2 h3 h4 hsn HB
      gi_wp2
      exact ⟨(KeepsOthers.setCell W _ _).from _, heap_setCell_other _ _ _ _ (by show w1.heap.size + 1 + 1 ≠ w1.heap.size + 1; omega), HI.out⟩
    · have hd : decide (x < (n : Int)) = false := by simpa using hx
      rw [if_neg hx] at hsn
      have HSN := Lib.hid hsn
      clear hx hsn h1 h2 h3 h4
      gi_wp2
      refine ⟨KeepsFrom.refl _ _, rfl, ?_⟩
      show Counts n s w1 (pre ++ [x]) W
      unfold Counts
      rw [HSN.out, Nat.add_zero]
      exact HB.out
  case done =>
    rintro D ys W hD rfl ⟨h1, h2, h3, h4⟩ hK
    have m2 := h2.cell
    have HB := Lib.hid h4
    have HD := Lib.hid (show w1.heap.size ≤ D by omega)
    have HK := Lib.hid hK
    clear h1 h2 h3 h4 hK
    go_wp2_with fail
    refine ⟨by simp, .inl ⟨_, _, rfl, run_takeDeferred HK.out, ?_⟩⟩
    exact ⟨.int .i64 (roomZ n s), by simp [results, Tryz.results21, go_sem, roomZ], by rw [hn, hs], H1'.out.on (below_putC HB.out HD.out HK.out rfl rfl)⟩
  case stop =>
    rintro D c pre W hD hSp h hK
    exact h.elim
end
end Go.Proofs.YtcjfnfdinhbdlaaGreatDoor
namespace Go.Proofs.YtcjfnfdinhbdlaaGreatDoor
set_option maxRecDepth 100000
open Go.ChangeShapes Go.WideShapes Go.ChangeAt Go.RowKit Go.PlainAid
def usedN (s : ByteArray) : Nat → Nat | 0 => 0 | k + 1 => usedN s k + (hasB s (k : Int)).toNat
theorem usedN_le (s : ByteArray) : ∀ n, usedN s n ≤ n
  | 0 => Nat.le_refl _
  | n + 1 => by have := usedN_le s n; have := Bool.toNat_le (hasB s (n : Int)); simp only [usedN]; omega
theorem pages_of_range (n : Nat) (s : ByteArray) : ∀ N, ofPages n (((List.range N).filter fun j : Nat => hasB s (j : Int)).map fun j : Nat => (j : Int)) = usedN s (min n N)
  | 0 => by rw [Nat.min_zero]; rfl
  | N + 1 => by
    have ih := pages_of_range n s N
    rw [List.range_succ, List.filter_append, List.map_append]
    by_cases h : hasB s (N : Int) = true
    · rw [show [N].filter (fun j : Nat => hasB s (j : Int)) = [N] by simp [h], List.map_cons, List.map_nil, ofPages_snoc, ih]
      by_cases c : N < n
      · rw [if_pos (by omega), Nat.min_eq_right (by omega), Nat.min_eq_right (by omega)]
        simp only [usedN]
        rw [h]
        rfl
      · rw [if_neg (by omega), Nat.min_eq_left (by omega), Nat.min_eq_left (by omega), Nat.add_zero]
    · rw [show [N].filter (fun j : Nat => hasB s (j : Int)) = [] by simp [h], List.map_nil, List.append_nil, ih]
      by_cases c : N < n
      · rw [Nat.min_eq_right (by omega), Nat.min_eq_right (by omega)]
        simp only [usedN]
        rw [show hasB s (N : Int) = false by simpa using h]
        rfl
      · rw [Nat.min_eq_left (by omega), Nat.min_eq_left (by omega)]
theorem nums_range (s : ByteArray) : ∀ k, k ≤ s.size → nums s k = ((List.range (8 * k)).filter fun j : Nat => hasB s (j : Int)).map fun j : Nat => (j : Int)
  | 0, _ => rfl
  | k + 1, h => by
    have ih := nums_range s k (by omega)
    show nums s k ++ (byteL (bt s k)).map (fun b : Nat => (k : Int) * 8 + (b : Int)) = _
    rw [show 8 * (k + 1) = 8 * k + 8 by omega, List.range_add, List.filter_append, List.map_append, ← ih]
    congr 1
    rw [List.filter_map, List.map_map]
    unfold byteL
    have e : (List.range 8).filter ((fun j : Nat => hasB s (j : Int)) ∘ fun x => 8 * k + x) = (List.range 8).filter (bitBM (bt s k)) := by
      refine List.filter_congr fun b hb => ?_
      have hb8 := List.mem_range.1 hb
      exact has_in (by omega) (by simp only; omega) (by simp only; omega)
    rw [e]
    refine List.map_congr_left fun b _ => ?_
    show (k : Int) * 8 + (b : Int) = ((8 * k + b : Nat) : Int)
    omega
theorem roomZ_used {s : ByteArray} {n : Nat} (h : n ≤ 8 * s.size) : roomZ n s = (n : Int) - (usedN s n : Int) := by
  unfold roomZ
  rw [nums_range s s.size (Nat.le_refl _), pages_of_range, Nat.min_eq_left h]
theorem used_with {s : ByteArray} {v : Int} (hr : roomB s v = true) (x : Bool) : ∀ n : Nat, usedN (withS s v x) n + (if 0 ≤ v ∧ v < (n : Int) then (hasB s v).toNat else 0) = usedN s n + (if 0 ≤ v ∧ v < (n : Int) then x.toNat else 0)
  | 0 => by
    have c0 : ¬ (0 ≤ v ∧ v < ((0 : Nat) : Int)) := by omega
    rw [if_neg c0, if_neg c0]
    rfl
  | n + 1 => by
    have ih := used_with hr x n
    simp only [usedN]
    rw [has_with s v n x hr]
    have c1 : (0 ≤ v ∧ v < ((n + 1 : Nat) : Int)) ↔ (n : Int) = v ∨ (0 ≤ v ∧ v < (n : Int)) := by omega
    by_cases e : (n : Int) = v
    · have c0 : ¬ (0 ≤ v ∧ v < (n : Int)) := by omega
      have c2 := c1.2 (.inl e)
      rw [if_neg c0, if_neg c0] at ih
      rw [if_pos e, if_pos c2, if_pos c2, e]
      omega
    · rw [if_neg e]
      by_cases c : 0 ≤ v ∧ v < (n : Int)
      · have c2 := c1.2 (.inr c)
        rw [if_pos c, if_pos c] at ih
        rw [if_pos c2, if_pos c2]
        omega
      · have c2 : ¬ (0 ≤ v ∧ v < ((n + 1 : Nat) : Int)) := fun h => (c1.1 h).elim e c
        rw [if_neg c, if_neg c] at ih
        rw [if_neg c2, if_neg c2]
        omega
theorem used_first {s : ByteArray} {n i : Nat} (h : ∀ k : Int, 0 ≤ k → k < n → hasB s k = decide (k < (i : Int))) : ∀ m, m ≤ n → usedN s m = min i m
  | 0, _ => by rw [Nat.min_zero]; rfl
  | m + 1, hm => by
    have ih := used_first h m (by omega)
    simp only [usedN]
    rw [ih, h m (by omega) (by omega)]
    by_cases c : m < i
    · rw [decide_eq_true (by omega)]; show _ + 1 = _; omega
    · rw [decide_eq_false (by omega)]; show _ + 0 = _; omega
theorem room_page {s : ByteArray} (hs : s.size = 256) {k : Int} (h0 : 0 ≤ k) (h1 : k < 2048) : roomB s k = true := room_in h0 (by rw [hs]; omega)
theorem has_three {k : Int} (h0 : 0 ≤ k) (h1 : k < 2048) : hasB (filled ⟨#[3]⟩) k = decide (k < 2) := by
  obtain ⟨j, rfl⟩ := Int.eq_ofNat_of_zero_le h0
  have hsz := filled_size ⟨#[3]⟩
  have hj : j / 8 < 256 := by omega
  rw [has_in (s := filled ⟨#[3]⟩) (i := (j : Int)) (j := j / 8) (k := j % 8) (by rw [hsz]; exact hj) (by omega) (by omega), filled_bt _ hj]
  by_cases h8 : j < 8
  · have e : j / 8 = 0 := by omega
    rw [e, show bt ⟨#[3]⟩ 0 = 3 by kernel_rfl, show j % 8 = j by omega]
    have : ∀ z : Fin 8, bitBM 3 z.val = decide (z.val < 2) := by decide +kernel
    have h2 := this ⟨j, h8⟩
    simp only at h2
    rw [h2]
    by_cases c : j < 2
    · rw [decide_eq_true c, decide_eq_true (by omega)]
    · rw [decide_eq_false c, decide_eq_false (by omega)]
  · rw [bt_end _ (show (⟨#[3]⟩ : ByteArray).size ≤ j / 8 by show 1 ≤ j / 8; omega), decide_eq_false (by omega)]
    unfold bitBM
    rw [hv_zero]
    rfl
def updV (V : Int → ByteArray) (k : Int) (s : ByteArray) : Int → ByteArray := fun j => if j = k then s else V j
theorem updV_same (V : Int → ByteArray) (k : Int) (s : ByteArray) : updV V k s k = s := if_pos rfl
theorem updV_other (V : Int → ByteArray) {k j : Int} (s : ByteArray) (h : j ≠ k) : updV V k s j = V j := if_neg h
theorem Sto.put_at (S : Sto) (k : Int) (s : ByteArray) : (S.put k s).at = updV S.at k s := funext fun j => S.at_put k s j
def givenV (V : Int → ByteArray) (v : Int) : Int → ByteArray := updV (updV V v zeroText) 0 (withS (V 0) v true)
theorem Sto.given_at (S : Sto) (v : Int) : (S.given v).at = givenV S.at v := by
  unfold Sto.given givenV
  rw [Sto.put_at, Sto.put_at, filled_empty]
def fmtV (V : Int → ByteArray) : Int → ByteArray := updV (updV V 0 (filled ⟨#[3]⟩)) 1 zeroText
theorem bt_setRoot {s : ByteArray} (hs : s.size = 256) {i : Nat} (hi : i < 16) (k : Int) {m : Nat} (hm : m < 256) : bt (setRoot s (i : Int) k) m = if 4 * i ≤ m ∧ m < 4 * i + 4 then bt (fixS k 4) (m - 4 * i) else bt s m := by
  unfold setRoot
  rw [show (4 * (i : Int)).toNat = 4 * i by omega, show (4 * ((i : Int) + 1)).toNat = 4 * i + 4 by omega, bt_append, bt_append, ByteArray.size_append, ByteArray.size_extract, fixS_size4, hs]
  by_cases a : m < 4 * i
  · rw [if_pos (by omega), if_pos (by omega), if_neg (by omega), bt_ext _ _ _ _ (by omega) (by omega), Nat.zero_add]
  · by_cases b : m < 4 * i + 4
    · rw [if_pos (by omega), if_neg (by omega), if_pos (by omega), show m - (min (4 * i) 256 - 0) = m - 4 * i by omega]
    · rw [if_neg (by omega), if_neg (by omega), bt_ext _ _ _ _ (by omega) (by omega)]
      congr 1
      omega
theorem root_set {s : ByteArray} (hs : s.size = 256) {i j k : Int} (hi : 0 ≤ i ∧ i < 16) (hj : 0 ≤ j ∧ j < 16) (hk : 0 ≤ k ∧ k < 4294967296) : rootZ (setRoot s i k) j = if j = i then k else rootZ s j := by
  obtain ⟨i, rfl⟩ := Int.eq_ofNat_of_zero_le hi.1
  obtain ⟨j, rfl⟩ := Int.eq_ofNat_of_zero_le hj.1
  have hsz : (setRoot s (i : Int) k).size = 256 := setRoot_size hs (by omega) (by omega)
  unfold rootZ
  rw [show (4 * (j : Int)).toNat = 4 * j by omega]
  have hbt : ∀ t, t < 4 → bt (((setRoot s (i : Int) k).extract (4 * j) 256).extract 0 4) t = bt (setRoot s (i : Int) k) (4 * j + t) := fun t ht => by
    rw [ext_ext _ _ _ _ _ (by omega), bt_ext _ _ _ _ (by omega) (by omega), Nat.add_zero]
  have hbs : ∀ t, t < 4 → bt ((s.extract (4 * j) 256).extract 0 4) t = bt s (4 * j + t) := fun t ht => by
    rw [ext_ext _ _ _ _ _ (by omega), bt_ext _ _ _ _ (by omega) (by omega), Nat.add_zero]
  have z1 : (((setRoot s (i : Int) k).extract (4 * j) 256).extract 0 4).size = 4 := by rw [ByteArray.size_extract, ByteArray.size_extract]; omega
  have z2 : ((s.extract (4 * j) 256).extract 0 4).size = 4 := by rw [ByteArray.size_extract, ByteArray.size_extract]; omega
  by_cases e : (j : Int) = (i : Int)
  · have e' : j = i := by omega
    subst e'
    rw [if_pos rfl]
    have : ((setRoot s (j : Int) k).extract (4 * j) 256).extract 0 4 = fixS k 4 := text_ext (by rw [z1, fixS_size4]) fun t ht => by
      rw [z1] at ht
      rw [hbt t ht, bt_setRoot hs (by omega) k (by omega), if_pos (by omega), show 4 * j + t - 4 * j = t by omega]
    rw [this, back_fix4 _ hk.1 (by omega)]
    omega
  · rw [if_neg e]
    have : ((setRoot s (i : Int) k).extract (4 * j) 256).extract 0 4 = (s.extract (4 * j) 256).extract 0 4 := text_ext (by rw [z1, z2]) fun t ht => by
      rw [z1] at ht
      rw [hbt t ht, hbs t ht, bt_setRoot hs (by omega) k (by omega), if_neg (by omega)]
    rw [this]
theorem unfix_zero {x : ByteArray} (h : ∀ t, bt x t = 0) : unfixZ x = 0 := by
  unfold unfixZ n8
  rw [h, h, h, h, h, h, h, h]
  omega
theorem root_zero (j : Int) : rootZ zeroText j = 0 := by
  unfold rootZ
  refine unfix_zero fun t => ?_
  by_cases ht : t < ((zeroText.extract (4 * j).toNat 256).extract 0 4).size
  · have ht2 := ht
    rw [ByteArray.size_extract, ByteArray.size_extract, zeroText_size] at ht2
    rw [bt_ext _ _ _ _ (by rw [ByteArray.size_extract, zeroText_size]; omega) (by omega), bt_ext _ _ _ _ (by rw [zeroText_size]; omega) (by omega), zeroText_bt]
  · exact bt_end _ (by omega)
end Go.Proofs.YtcjfnfdinhbdlaaGreatDoor
namespace Go.Proofs.YtcjfnfdinhbdlaaGreatDoor
set_option maxRecDepth 100000
open Go.ChangeShapes Go.WideShapes Go.ChangeAt Go.RowKit Go.PlainAid
open Go.Sort (grow)
def PV (w0 : World) (pp n c : Nat) (V : Int → ByteArray) (R : List (Nat × Obj)) (w : World) : Prop := ∃ S : Sto, Pag w0 pp S c R w ∧ S.h.pages = n ∧ S.at = V
section
variable {w0 w w' : World} {pp n c : Nat} {V : Int → ByteArray} {R : List (Nat × Obj)}
theorem PV.on (H : PV w0 pp n c V R w) (b : Below w.heap.size w w') : PV w0 pp n c V R w' := by
  obtain ⟨S, h1, h2, h3⟩ := H
  exact ⟨S, h1.on b, h2, h3⟩
theorem PV.below (H : PV w0 pp n c V R w) : Below w0.heap.size w0 w := by
  obtain ⟨S, h1, h2, h3⟩ := H
  exact h1.below
theorem PV.mono {c' : Nat} (H : PV w0 pp n c V R w) (hc : c ≤ c') : PV w0 pp n c' V R w := by
  obtain ⟨S, h1, h2, h3⟩ := H
  exact ⟨S, h1.mono hc, h2, h3⟩
theorem PV.mem (H : PV w0 pp n c V R w) {x : Nat × Obj} (hx : x ∈ R) : w.heap[x.1]? = some x.2 := by
  obtain ⟨S, h1, h2, h3⟩ := H
  exact h1.mem hx
theorem PV.pages (H : PV w0 pp n c V R w) : n ≤ 1024 := by
  obtain ⟨S, h1, h2, h3⟩ := H
  have := h1.ok.wf.pages
  omega
theorem PV.size (H : PV w0 pp n c V R w) {k : Int} (h0 : 0 ≤ k) (h1 : k < n) : (V k).size = 256 := by
  obtain ⟨S, h, rfl, rfl⟩ := H
  exact h.size h0 h1
theorem PV.alloc (H : PV w0 pp n c V R w) (hp : 0 < n) (hc : c < 900000) (v : Int) (hv : Least (V 0) 2 n v) :
    Calls Tryz.prog 120 #[.pointer (some ⟨pp, 0, none⟩)] w fun e w' => e = .returned (.tuple #[.int .i64 v, .int .i64 0]) ∧ PV w0 pp n (c + 2) (givenV V v) R w' := by
  obtain ⟨S, h, rfl, rfl⟩ := H
  exact (palloc_yes h hp hc v hv).mono fun e w' ⟨he, h'⟩ => ⟨he, _, h', rfl, S.given_at v⟩
theorem PV.alloc_no (H : PV w0 pp n c V R w) (hp : 0 < n) (hv : ∀ l, ¬ LowP (V 0) 2 n l) :
    Calls Tryz.prog 120 #[.pointer (some ⟨pp, 0, none⟩)] w fun e w' => e = .returned (.tuple #[.int .i64 0, .int .i64 13]) ∧ PV w0 pp n c V R w' := by
  obtain ⟨S, h, rfl, rfl⟩ := H
  exact (palloc_no h hp hv).mono fun e w' ⟨he, h'⟩ => ⟨he, _, h', rfl, rfl⟩
theorem PV.free_no (H : PV w0 pp n c V R w) (k : Int) (b0 : -9223372036854775808 ≤ k) (b1 : k ≤ 9223372036854775807) (hp : 0 < n) (hk : outB n (V 0) k = false) :
    Calls Tryz.prog 170 #[.pointer (some ⟨pp, 0, none⟩), .int .i64 k] w fun e w' => e = .returned (.int .i64 6) ∧ PV w0 pp n c V R w' := by
  obtain ⟨S, h, rfl, rfl⟩ := H
  exact (pfree_no h k b0 b1 hp hk).mono fun e w' ⟨he, h'⟩ => ⟨he, _, h', rfl, rfl⟩
theorem PV.get (H : PV w0 pp n c V R w) (k : Int) (b0 : -9223372036854775808 ≤ k) (b1 : k ≤ 9223372036854775807) (hp : 0 < n) (hk : outB n (V 0) k = true) :
    Calls Tryz.prog 209 #[.pointer (some ⟨pp, 0, none⟩), .int .i64 k] w fun e w' => e = .returned (.tuple #[.string (V k), .int .i64 0]) ∧ PV w0 pp n c V R w' := by
  obtain ⟨S, h, rfl, rfl⟩ := H
  exact (pget_yes h k b0 b1 hp hk).mono fun e w' ⟨he, h'⟩ => ⟨he, _, h', rfl, rfl⟩
theorem PV.get_no (H : PV w0 pp n c V R w) (k : Int) (b0 : -9223372036854775808 ≤ k) (b1 : k ≤ 9223372036854775807) (hp : 0 < n) (hk : outB n (V 0) k = false) :
    Calls Tryz.prog 209 #[.pointer (some ⟨pp, 0, none⟩), .int .i64 k] w fun e w' => e = .returned (.tuple #[.string ⟨#[]⟩, .int .i64 6]) ∧ PV w0 pp n c V R w' := by
  obtain ⟨S, h, rfl, rfl⟩ := H
  exact (pget_no h k b0 b1 hp hk).mono fun e w' ⟨he, h'⟩ => ⟨he, _, h', rfl, rfl⟩
theorem PV.set (H : PV w0 pp n c V R w) (k : Int) (s : ByteArray) (b0 : -9223372036854775808 ≤ k) (b1 : k ≤ 9223372036854775807) (hp : 0 < n) (hs : s.size ≤ 256) (hc : c < 1000000) (hk : outB n (V 0) k = true) :
    Calls Tryz.prog 173 #[.pointer (some ⟨pp, 0, none⟩), .int .i64 k, .string s] w fun e w' => e = .returned (.int .i64 0) ∧ PV w0 pp n (c + 1) (updV V k (filled s)) R w' := by
  obtain ⟨S, h, rfl, rfl⟩ := H
  exact (pset_yes h k s b0 b1 hp hs hc hk).mono fun e w' ⟨he, h'⟩ => ⟨he, _, h', rfl, S.put_at _ _⟩
theorem PV.root (H : PV w0 pp n c V R w) (i : Int) (hi : 0 ≤ i ∧ i < 16) (hp : 1 < n) :
    Calls Tryz.prog 61 #[.pointer (some ⟨pp, 0, none⟩), .int .i64 i] w fun e w' => e = .returned (.tuple #[.int .i64 (rootZ (V 1) i), .int .i64 0]) ∧ PV w0 pp n c V R w' := by
  obtain ⟨S, h, rfl, rfl⟩ := H
  exact (proot_yes h i hi hp).mono fun e w' ⟨he, h'⟩ => ⟨he, _, h', rfl, rfl⟩
theorem PV.setRoot (H : PV w0 pp n c V R w) (i k : Int) (hi : 0 ≤ i ∧ i < 16) (hp : 1 < n) (hc : c < 1000000) (hk : k ≠ 0 → outB n (V 0) k = true) (b0 : -9223372036854775808 ≤ k) (b1 : k ≤ 9223372036854775807) :
    Calls Tryz.prog 122 #[.pointer (some ⟨pp, 0, none⟩), .int .i64 i, .int .i64 k] w fun e w' => e = .returned (.int .i64 0) ∧ PV w0 pp n (c + 1) (updV V 1 (setRoot (V 1) i k)) R w' := by
  obtain ⟨S, h, rfl, rfl⟩ := H
  exact (psetroot_yes h i k hi hp hc hk b0 b1).mono fun e w' ⟨he, h'⟩ => ⟨he, _, h', rfl, S.put_at _ _⟩
theorem PV.setRoot_none (H : PV w0 pp n c V R w) (i k : Int) (hi : 0 ≤ i ∧ i < 16) (hp : 0 < n) (z : k ≠ 0) (hk : outB n (V 0) k = false) (b0 : -9223372036854775808 ≤ k) (b1 : k ≤ 9223372036854775807) :
    Calls Tryz.prog 122 #[.pointer (some ⟨pp, 0, none⟩), .int .i64 i, .int .i64 k] w fun e w' => e = .returned (.int .i64 6) ∧ PV w0 pp n c V R w' := by
  obtain ⟨S, h, rfl, rfl⟩ := H
  exact (psetroot_none h i k hi hp z hk b0 b1).mono fun e w' ⟨he, h'⟩ => ⟨he, _, h', rfl, rfl⟩
theorem PV.room (H : PV w0 pp n c V R w) (hp : 0 < n) (z : Int) (hz : (n : Int) - (usedN (V 0) n : Int) = z) :
    Calls Tryz.prog 21 #[.pointer (some ⟨pp, 0, none⟩)] w fun e w' => e = .returned (.int .i64 z) ∧ PV w0 pp n c V R w' := by
  have hs := H.size (k := 0) (by omega) (by omega)
  have hn := H.pages
  obtain ⟨S, h, rfl, rfl⟩ := H
  have := proom_any h hp
  rw [roomZ_used (by rw [hs]; omega), hz] at this
  exact this.mono fun e w' ⟨he, h'⟩ => ⟨he, _, h', rfl, rfl⟩
theorem PV.format (H : PV w0 pp n c V R w) (hp : 2 < n) (hc : c < 900000) :
    Calls Tryz.prog 38 #[.pointer (some ⟨pp, 0, none⟩)] w fun e w' => e = .returned (.int .i64 0) ∧ PV w0 pp n (c + 2) (fmtV V) R w' := by
  obtain ⟨S, h, rfl, rfl⟩ := H
  exact (pformat_any h hp hc).mono fun e w' ⟨he, h'⟩ => ⟨he, _, h', rfl, by rw [Sto.put_at, Sto.put_at, filled_empty]; rfl⟩
end
theorem fmt_has {V : Int → ByteArray} {k : Int} (h0 : 0 ≤ k) (h1 : k < 2048) : hasB (fmtV V 0) k = decide (k < 2) := by
  unfold fmtV
  rw [updV_other _ _ (by decide), updV_same]
  exact has_three h0 h1
end Go.Proofs.YtcjfnfdinhbdlaaGreatDoor
namespace Go.Proofs.YtcjfnfdinhbdlaaGreatDoor
set_option maxRecDepth 100000
open Go.ChangeShapes Go.WideShapes Go.ChangeAt Go.RowKit Go.PlainAid
theorem pks_mem {L : List Pr} {q : Pr} (h : q ∈ L) : 2 + q.key.size + q.val.size ≤ pkS L := by
  obtain ⟨A, B, rfl⟩ := List.append_of_mem h
  unfold pkS
  rw [List.map_append, List.sum_append, List.map_cons, List.sum_cons]
  omega
theorem pks_len (L : List Pr) : 2 * L.length ≤ pkS L := by
  induction L with
  | nil => exact Nat.le_refl _
  | cons q t ih =>
    unfold pkS at *
    rw [List.map_cons, List.sum_cons, List.length_cons]
    omega
theorem filled_list {s : ByteArray} (h : s.size ≤ 256) : ∃ rest, (filled s).data.toList = s.data.toList ++ rest := by
  refine ⟨(filled s).data.toList.drop s.size, ?_⟩
  have e : (filled s).data.toList.take s.size = s.data.toList := by
    have hl : s.data.toList.length = s.size := Array.length_toList
    have hf : (filled s).data.toList.length = 256 := by rw [Array.length_toList]; exact filled_size s
    refine List.ext_getElem (by rw [List.length_take, hf, hl]; omega) fun k h1 h2 => ?_
    rw [List.getElem_take]
    have hk : k < s.size := by rw [← hl]; exact h2
    have b := filled_bt s (show k < 256 by omega)
    rw [bt_list, bt_list, List.getD_eq_getElem?_getD, List.getD_eq_getElem?_getD, List.getElem?_eq_getElem (by omega), List.getElem?_eq_getElem h2] at b
    refine UInt8.toNat_inj.1 (Int.ofNat.inj ?_)
    simpa using b
  conv => lhs; rw [← List.take_append_drop s.size (filled s).data.toList, e]
theorem unp_filled {level : Int} {L : List Pr} (hs : pkS L ≤ 254) (h0 : 0 ≤ level) (h1 : level < 256) : unpP (filled (packP level L)) = some L ∧ bt (filled (packP level L)) 0 = level := by
  obtain ⟨rest, hr⟩ := filled_list (s := packP level L) (by rw [packP_size]; omega)
  have := pks_len L
  exact unpP_pack hr (by omega) h0 h1 fun p hp => by have := pks_mem hp; omega
def seeV (V : Int → ByteArray) (n : Nat) : Pgs := seeG V (outB n (V 0))
theorem out_in {n : Nat} {s : ByteArray} {c : Int} (h : outB n s c = true) : 2 ≤ c ∧ c < n := by
  unfold outB at h
  simp only [Bool.and_eq_true, decide_eq_true_eq] at h
  exact h.1
theorem see_out {V : Int → ByteArray} {n : Nat} {c : Int} (h : seeV V n c ≠ none) : outB n (V 0) c = true := by
  cases e : outB n (V 0) c with
  | true => rfl
  | false =>
    unfold seeV seeG at h
    rw [if_pos e] at h
    exact absurd rfl h
theorem see_none {V : Int → ByteArray} {n : Nat} {c : Int} (h : outB n (V 0) c = false) : seeV V n c = none := by
  unfold seeV seeG
  rw [if_pos h]
theorem see_bounds {V : Int → ByteArray} {n : Nat} (hn : n ≤ 1024) (c : Int) (h : seeV V n c ≠ none) : 0 ≤ c ∧ c ≤ 65535 := by
  have := out_in (see_out h)
  omega
theorem see_lev {V : Int → ByteArray} {n : Nat} {c l : Int} {L : List Pr} (h : seeV V n c = some (l, L)) : 0 ≤ l ∧ l ≤ 255 := by
  unfold seeV seeG at h
  split at h
  · cases h
  · cases e : unpP (V c) with
    | none => rw [e] at h; cases h
    | some M =>
      rw [e] at h
      have h : some (bt (V c) 0, M) = some (l, L) := h
      cases h
      exact ⟨bt_nonneg _ _, bt_le _ _⟩
section
variable {V : Int → ByteArray} {n : Nat}
theorem see_upd {k l : Int} {L : List Pr} (ho : outB n (V 0) k = true) (hs : pkS L ≤ 254) (h0 : 0 ≤ l) (h1 : l < 256) : seeV (updV V k (filled (packP l L))) n = wrG (seeV V n) k l L := by
  have hk := out_in ho
  obtain ⟨e1, e2⟩ := unp_filled hs h0 h1
  funext c
  unfold seeV seeG
  rw [updV_other V (k := k) (j := 0) _ (by omega)]
  by_cases hc : c = k
  · subst hc
    rw [wrG_self, if_neg (by rw [ho]; simp), updV_same, e1, e2]
    rfl
  · rw [wrG_other hc, updV_other V _ hc]
theorem out_with {s : ByteArray} (hs : s.size = 256) {v : Int} (hv : 0 ≤ v ∧ v < 2048) (x : Bool) (c : Int) : outB n (withS s v x) c = if c = v then (decide (2 ≤ c) && decide (c < (n : Int)) && x) else outB n s c := by
  unfold outB
  rw [has_with s v c x (room_page hs hv.1 hv.2)]
  split <;> rfl
theorem see_given {v : Int} (hs : (V 0).size = 256) (hn : n ≤ 1024) (hv : Least (V 0) 2 n v) : (∀ c, c ≠ v → seeV (givenV V v) n c = seeV V n c) ∧ (∀ c, outB n (givenV V v 0) c = if c = v then true else outB n (V 0) c) ∧ seeV V n v = none ∧ 2 ≤ v ∧ v < n := by
  obtain ⟨⟨a, b, c, d, e⟩, _⟩ := hv
  have h0 : givenV V v 0 = withS (V 0) v true := updV_same _ _ _
  have ho : ∀ c, outB n (givenV V v 0) c = if c = v then true else outB n (V 0) c := fun k => by
    rw [h0, out_with hs ⟨by omega, by omega⟩]
    by_cases hk : k = v
    · rw [if_pos hk, if_pos hk, decide_eq_true (by omega), decide_eq_true (by omega)]
      rfl
    · rw [if_neg hk, if_neg hk]
  refine ⟨fun k hk => ?_, ho, see_none (by unfold outB; rw [e]; simp), a, c⟩
  unfold seeV seeG
  rw [ho, if_neg hk]
  by_cases h2 : outB n (V 0) k = false
  · rw [if_pos h2, if_pos h2]
  · have h3 : outB n (V 0) k = true := by simpa using h2
    have := out_in h3
    unfold givenV
    rw [updV_other _ _ (by omega), updV_other _ _ hk]
theorem see_free {k : Int} (hs : (V 0).size = 256) (hn : n ≤ 1024) (hk : 2 ≤ k ∧ k < n) : (∀ c, seeV (updV V 0 (withS (V 0) k false)) n c = if c = k then none else seeV V n c) ∧ ∀ c, outB n (updV V 0 (withS (V 0) k false) 0) c = if c = k then false else outB n (V 0) c := by
  have ho : ∀ c, outB n (updV V 0 (withS (V 0) k false) 0) c = if c = k then false else outB n (V 0) c := fun c => by
    rw [updV_same, out_with hs ⟨by omega, by omega⟩]
    by_cases hc : c = k
    · rw [if_pos hc, if_pos hc]
      simp
    · rw [if_neg hc, if_neg hc]
  refine ⟨fun c => ?_, ho⟩
  by_cases hc : c = k
  · rw [if_pos hc, see_none (by rw [ho, if_pos hc])]
  · rw [if_neg hc]
    unfold seeV seeG
    rw [ho, if_neg hc]
    by_cases h2 : outB n (V 0) c = false
    · rw [if_pos h2, if_pos h2]
    · have h3 : outB n (V 0) c = true := by simpa using h2
      have := out_in h3
      rw [updV_other _ _ (by omega)]
theorem see_page1 (s : ByteArray) : seeV (updV V 1 s) n = seeV V n ∧ outB n (updV V 1 s 0) = outB n (V 0) := by
  have h0 : updV V 1 s 0 = V 0 := updV_other _ _ (by omega)
  refine ⟨?_, by rw [h0]⟩
  funext c
  unfold seeV seeG
  rw [h0]
  by_cases h2 : outB n (V 0) c = false
  · rw [if_pos h2, if_pos h2]
  · have h3 : outB n (V 0) c = true := by simpa using h2
    have := out_in h3
    rw [if_neg h2, if_neg h2, updV_other _ _ (by omega)]
end
theorem least_same {s : ByteArray} {f t v v' : Int} (h : Least s f t v) (h' : Least s f t v') : v = v' := by
  obtain ⟨a1, a2⟩ := h
  obtain ⟨b1, b2⟩ := h'
  have h1 : ¬ v < v' := fun h => b2 _ h a1
  have h2 : ¬ v' < v := fun h => a2 _ h b1
  omega
structure BitsOk (V : Int → ByteArray) (n : Nat) : Prop where
  size : (V 0).size = 256
  size1 : (V 1).size = 256
  pages : n ≤ 1024
  two : 2 ≤ n
  zero : hasB (V 0) 0 = true
  one : hasB (V 0) 1 = true
theorem least_of_room {V : Int → ByteArray} {n : Nat} (h : BitsOk V n) (hu : usedN (V 0) n < n) : ∃ v, Least (V 0) 2 n v := by
  by_cases hl : ∃ l, LowP (V 0) 2 n l
  · obtain ⟨l, hl⟩ := hl
    have key : ∀ (k : Nat) (l : Int), l.toNat < k → LowP (V 0) 2 n l → ∃ v, Least (V 0) 2 n v := by
      intro k
      induction k with
      | zero => intro l hl; omega
      | succ k ih =>
        intro l hk hl
        by_cases h2 : ∃ m, m < l ∧ LowP (V 0) 2 n m
        · obtain ⟨m, hm, hp⟩ := h2
          have h0 := hp.2.1
          have h1 := hl.2.1
          exact ih m (by omega) hp
        · exact ⟨l, hl, fun m hm hp => h2 ⟨m, hm, hp⟩⟩
    exact key _ l (Nat.lt_succ_self _) hl
  · exfalso
    have hall : ∀ k : Int, 0 ≤ k → k < n → hasB (V 0) k = decide (k < (n : Int)) := fun k h0 h1 => by
      rw [decide_eq_true h1]
      by_cases e0 : k = 0
      · rw [e0]
        exact h.zero
      · by_cases e1 : k = 1
        · rw [e1]
          exact h.one
        · cases e : hasB (V 0) k with
          | true => rfl
          | false => exact absurd ⟨k, by omega, h0, h1, by rw [h.size]; have := h.pages; omega, e⟩ hl
    have := used_first hall n (Nat.le_refl _)
    omega
theorem bits_given {V : Int → ByteArray} {n : Nat} {v : Int} (h : BitsOk V n) (hv : Least (V 0) 2 n v) : BitsOk (givenV V v) n ∧ usedN (givenV V v 0) n = usedN (V 0) n + 1 := by
  obtain ⟨⟨a, b, c, d, e⟩, _⟩ := hv
  have hp := h.pages
  have hr := room_page h.size (k := v) (by omega) (by omega)
  have h0 : givenV V v 0 = withS (V 0) v true := updV_same _ _ _
  have h1 : givenV V v 1 = V 1 := by
    unfold givenV
    rw [updV_other _ _ (by omega), updV_other _ _ (by omega)]
  refine ⟨⟨by rw [h0, with_size]; exact h.size, by rw [h1]; exact h.size1, hp, h.two, ?_, ?_⟩, ?_⟩
  · rw [h0, has_with _ _ _ _ hr, if_neg (by omega)]
    exact h.zero
  · rw [h0, has_with _ _ _ _ hr, if_neg (by omega)]
    exact h.one
  · rw [h0]
    have := used_with hr true n
    rw [if_pos ⟨by omega, c⟩, if_pos ⟨by omega, c⟩, e] at this
    simpa using this
theorem bits_free {V : Int → ByteArray} {n : Nat} {k : Int} (h : BitsOk V n) (hk : outB n (V 0) k = true) : BitsOk (updV V 0 (withS (V 0) k false)) n ∧ usedN (updV V 0 (withS (V 0) k false) 0) n + 1 = usedN (V 0) n := by
  have hb := out_in hk
  have hp := h.pages
  have hr := room_page h.size (k := k) (by omega) (by omega)
  have hh : hasB (V 0) k = true := by
    unfold outB at hk
    simp only [Bool.and_eq_true] at hk
    exact hk.2
  rw [updV_same]
  refine ⟨⟨by rw [updV_same, with_size]; exact h.size, by rw [updV_other _ _ (by omega)]; exact h.size1, hp, h.two, ?_, ?_⟩, ?_⟩
  · rw [updV_same, has_with _ _ _ _ hr, if_neg (by omega)]
    exact h.zero
  · rw [updV_same, has_with _ _ _ _ hr, if_neg (by omega)]
    exact h.one
  · have := used_with hr false n
    rw [if_pos ⟨by omega, hb.2⟩, if_pos ⟨by omega, hb.2⟩, hh] at this
    simpa using this
theorem bits_upd {V : Int → ByteArray} {n : Nat} {k : Int} {s : ByteArray} (h : BitsOk V n) (hk : 1 ≤ k) (hs : s.size = 256) : BitsOk (updV V k s) n ∧ updV V k s 0 = V 0 := by
  have h0 : updV V k s 0 = V 0 := updV_other _ _ (by omega)
  refine ⟨⟨by rw [h0]; exact h.size, ?_, h.pages, h.two, by rw [h0]; exact h.zero, by rw [h0]; exact h.one⟩, h0⟩
  unfold updV
  split
  · exact hs
  · exact h.size1
end Go.Proofs.YtcjfnfdinhbdlaaGreatDoor
