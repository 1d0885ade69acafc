/- Pages as plain data; contracts of the small functions of Pack; a head of numbers, as bytes. -/
import Derived.Test.YtfcicpcpdklceaaSJFill
import Derived.Test.YtfcicpcpdklceaaSJBld
namespace Go.Proofs.Ytfcicpcpdklceaa
set_option maxRecDepth 100000
open Go.ChangeShapes Go.WideShapes Go.ChangeAt Go.RowKit Go.PlainAid

/-- A page. -/
structure PageV where
  at_ : Int
  data : ByteArray
def PageV.cells (x : PageV) : List Value := [.int .i64 x.at_, .string x.data]
structure PageV.Wf (x : PageV) : Prop where
  at_ : -9223372036854775808 ≤ x.at_ ∧ x.at_ ≤ 9223372036854775807
  data : x.data.size ≤ maxLen
/-- What is wrong with a page. -/
def PageV.err (x : PageV) : Int := if x.at_ < 0 ∨ 2048 ≤ x.at_ then 10 else if 256 < x.data.size then 21 else 0
/-- The pages that a slice reads as, in world w. -/
def PagesIn (w : World) (v : Value) (l : List PageV) : Prop :=
  (l = [] ∧ ∃ ao cap, v = .slice ao 0 cap) ∨ ∃ b o cap, v = .slice (some ⟨b, o, none⟩) l.length cap ∧ b < w.heap.size ∧ 0 < l.length ∧ (l.length : Int) ≤ 9223372036854775807 ∧ ∀ i x, l[i]? = some x → x.Wf ∧ w.rangeAt b (o + i * 2) x.cells
theorem PagesIn.on {w w' : World} {v : Value} {l : List PageV} (h : PagesIn w v l) (hb : Below w.heap.size w w') : PagesIn w' v l := by
  rcases h with h | ⟨b, o, cap, hv, hlt, h0, hm, hr⟩
  · exact .inl h
  · exact .inr ⟨b, o, cap, hv, Nat.lt_of_lt_of_le hlt hb.size, h0, hm, fun i x hx => ⟨(hr i x hx).1, rangeAt_keep (hr i x hx).2 (hb.block b hlt)⟩⟩
/-- The numbers at the head of packed pages, as bytes. -/
def headT (n : Int) (l : List PageV) : ByteArray := l.foldl (fun s p => s ++ fixS (uZ p.at_) 4) (fixS (uZ n) 4)
theorem headT_nil (n : Int) : headT n [] = fixS (uZ n) 4 := rfl
theorem headT_snoc (n : Int) (l : List PageV) (p : PageV) : headT n (l ++ [p]) = headT n l ++ fixS (uZ p.at_) 4 := by
  unfold headT
  rw [List.foldl_append]
  rfl
theorem headT_size (n : Int) : ∀ (k : Nat) (l : List PageV), k ≤ l.length → (headT n (l.take k)).size = 4 + 4 * k
  | 0, l, _ => by rw [List.take_zero, headT_nil, fixS4_size]
  | k + 1, l, h => by
    rw [List.take_succ_eq_append_getElem (by omega), headT_snoc, ByteArray.size_append, headT_size n k l (by omega), fixS4_size]
    omega
theorem byteCells_cat (a b : ByteArray) : Lib.byteCells (a ++ b).data.toList = Lib.byteCells a.data.toList ++ Lib.strCells b := by
  rw [ByteArray.data_append, Array.toList_append]
  unfold Lib.strCells Lib.byteCells
  rw [List.map_append]
set_option maxHeartbeats 1000000 in
theorem check_any (x : PageV) (w : World) (hx : x.Wf) :
    Calls Try.prog 54 #[.agg #[.int .i64 x.at_, .string x.data]] w fun e w' => e = .returned (.int .i64 x.err) ∧ Below w.heap.size w w' := by
  obtain ⟨p, s⟩ := x
  have q := heap_alloc_new w (.cells #[.int .i64 p, .string s] 49)
  have hb0 : Below w.heap.size w (w.alloc (.cells #[.int .i64 p, .string s] 49)) := by go_grown
  have HX : Hid (PageV.err ⟨p, s⟩ = if p < 0 ∨ 2048 ≤ p then 10 else if 256 < s.size then 21 else 0) := rfl
  by_cases h1 : p < 0
  · have hd : decide (p < 0) = true := decide_eq_true h1
    have HE : Hid (PageV.err ⟨p, s⟩ = 10) := by rw [HX.out, if_pos (.inl h1)]; rfl
    clear h1 HX hx
    go_enter Try.func54, Try.ntmps54
    go_wp2
    go_returns
    exact ⟨ret_i HE.out.symm, hb0⟩
  · have hd : decide (p < 0) = false := decide_eq_false h1
    by_cases h2 : 2048 ≤ p
    · have hd2 : decide (2048 ≤ p) = true := decide_eq_true h2
      have HE : Hid (PageV.err ⟨p, s⟩ = 10) := by rw [HX.out, if_pos (.inr h2)]; rfl
      clear h1 h2 HX hx
      go_enter Try.func54, Try.ntmps54
      go_wp2
      go_returns
      exact ⟨ret_i HE.out.symm, hb0⟩
    · have hd2 : decide (2048 ≤ p) = false := decide_eq_false h2
      by_cases h3 : 256 < s.size
      · have hd3 : decide ((256 : Int) < (s.size : Int)) = true := decide_eq_true (by omega)
        have HE : Hid (PageV.err ⟨p, s⟩ = 21) := by rw [HX.out, if_neg (by omega), if_pos h3]; rfl
        clear h1 h2 h3 HX hx
        go_enter Try.func54, Try.ntmps54
        go_wp2
        go_returns
        exact ⟨ret_i HE.out.symm, hb0⟩
      · have hd3 : decide ((256 : Int) < (s.size : Int)) = false := decide_eq_false (by omega)
        have HE : Hid (PageV.err ⟨p, s⟩ = 0) := by rw [HX.out, if_neg (by omega), if_neg h3]; rfl
        clear h1 h2 h3 HX hx
        go_enter Try.func54, Try.ntmps54
        go_wp2
        go_returns
        exact ⟨ret_i HE.out.symm, hb0⟩
/-- How many blocks so many pages take. -/
def blocksN (n : Nat) : Nat := n / 64 + 1 + n
set_option maxHeartbeats 400000 in
theorem blocks_any (n : Nat) (w : World) (hn : n ≤ 1152921504606846976) :
    Calls Try.prog 28 #[.int .i64 (n : Int)] w fun e w' => e = .returned (.int .i64 (blocksN n)) ∧ w = w' := by
  have hd : decide ((n : Int) < 0) = false := decide_eq_false (by omega)
  have HB : Hid (blocksN n = n / 64 + 1 + n) := rfl
  go_enter Try.func28, Try.ntmps28
  go_wp2
  go_returns
  exact ⟨ret_i (by rw [HB.out]; simp), rfl⟩
end Go.Proofs.Ytfcicpcpdklceaa
