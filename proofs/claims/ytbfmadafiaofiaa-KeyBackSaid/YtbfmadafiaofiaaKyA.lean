/- Keys of numbers: plain facts, and contracts of Of, both the code's and the reference's. -/
import Derived.Test.YtbfmadafiaofiaaInts
import Derived.Test.YtbfmadafiaofiaaBitsF
import Derived.BigQuiet
import Derived.Deep.QuietTactic
namespace Go.Proofs.Ytbfmadafiaofiaa
set_option maxRecDepth 100000
open Go.ChangeShapes Go.WideShapes Go.ChangeAt Go.RowKit Go.PlainAid

/-- The numbers of a key's bytes. -/
def keyL (l : List Int) : List Int := l.flatMap fun n => h8 (n + 9223372036854775808)
/-- The key of numbers. -/
def keyS (l : List Int) : ByteArray := strOfNums (keyL l)
theorem keyS_nil : keyS [] = ⟨#[]⟩ := rfl
theorem keyS_snoc (l : List Int) (x : Int) : keyS (l ++ [x]) = keyS l ++ ordS x := by
  unfold keyS ordS
  rw [str_app]
  congr 1
  simp [keyL]
theorem keyS_cons (l : List Int) (x : Int) : keyS (x :: l) = ordS x ++ keyS l := by
  unfold keyS ordS
  rw [str_app]
  rfl
theorem ordS_size (n : Int) : (ordS n).size = 8 := by unfold ordS; rw [strOfNums_size]; rfl
theorem keyS_size : ∀ l : List Int, (keyS l).size = 8 * l.length
  | [] => rfl
  | x :: l => by rw [keyS_cons, ByteArray.size_append, ordS_size, keyS_size l, List.length_cons]; omega
/-- What Of answers. -/
def ofV (l : List Int) : Value := if 4 < l.length then .tuple #[.string ⟨#[]⟩, .int .i64 22] else .tuple #[.string (keyS l), .int .i64 0]
/-- A slice's value, and its numbers one by one. -/
theorem IntsOf.parts {w : World} {v : Value} {l : List Int} (h : IntsOf w v l) : ∃ ao cap, v = .slice ao l.length cap ∧ (l.length : Int) ≤ 9223372036854775807 ∧
    ∀ (i : Nat) (x : Int), l[i]? = some x → ∃ b o, ao = some ⟨b, o, none⟩ ∧ b < w.heap.size ∧ (-9223372036854775808 ≤ x ∧ x ≤ 9223372036854775807) ∧ w.cell? ⟨b, o + i, none⟩ = some (.int .i64 x) := by
  rcases h with ⟨rfl, ao, cap, rfl⟩ | ⟨b, o, cap, rfl, hlt, h0, hm, hr⟩
  · exact ⟨ao, cap, rfl, by simp, fun i x hx => by simp at hx⟩
  · exact ⟨_, cap, rfl, hm, fun i x hx => ⟨b, o, rfl, hlt, (hr i x hx).1, (hr i x hx).2⟩⟩

set_option maxHeartbeats 400000 in
theorem keyOf_any (v : Value) (l : List Int) (w : World) (hl : IntsOf w v l) :
    Calls Try.prog 8 #[v] w fun e w' => e = .returned (ofV l) ∧ Below w.heap.size w w' := by
  obtain ⟨ao, cap, rfl, hm, hx⟩ := hl.parts
  have HX := Lib.hid hx
  clear hl hx
  by_cases h4 : 4 < l.length
  · have hv := Lib.hid (show ofV l = .tuple #[.string ⟨#[]⟩, .int .i64 22] from if_pos h4)
    have h4' : (4 : Int) < l.length := by omega
    go_enter Try.func8, Try.ntmps8
    go_wp2
    go_returns
    exact ⟨by rw [hv.out]; rfl, Below.refl _ _⟩
  · have hv := Lib.hid (show ofV l = .tuple #[.string (keyS l), .int .i64 0] from if_neg h4)
    have h4' : ¬ (4 : Int) < l.length := by omega
    go_enter Try.func8, Try.ntmps8
    go_wp2_with fail
    go_loopw [4, 12] (fun s i wr => ∃ k : Nat, k ≤ l.length ∧ i = .int .i64 k ∧ s = .string (keyS (l.take k)) ∧ Below w.heap.size w wr) (fun _ i _ => l.length - (intOf i).toNat)
    case atStart => exact ⟨0, Nat.zero_le _, rfl, rfl, Below.refl _ _⟩
    case round =>
      obtain ⟨k, hk, rfl, rfl, hb⟩ := hrel
      have HB := Lib.hid hb
      clear hb
      by_cases hlt : k < l.length
      · obtain ⟨x, hxk⟩ : ∃ x, l[k]? = some x := ⟨l[k], List.getElem?_eq_getElem hlt⟩
        obtain ⟨b, o, rfl, hbl, ⟨x0, x1⟩, hc⟩ := HX.out k x hxk
        have hc2 := (HB.out.cell (p := ⟨b, o + k, none⟩) hbl).trans hc
        have hs := keyS_size (l.take k)
        have hs1 : (keyS (l.take k)).size ≤ 32 := by rw [hs, List.length_take]; omega
        have hs2 : (ordS x).size ≤ 8 := by rw [ordS_size]; exact Nat.le_refl _
        have hn : Hid (keyS (l.take (k + 1)) = keyS (l.take k) ++ ordS x) := by
          unfold Hid
          rw [List.take_add_one, hxk]
          exact keyS_snoc _ _
        clear hs hc hxk
        go_wp2_with fail
        refine (ordered_any x _ x0 x1).mono ?_
        rintro e w1 ⟨rfl, hb1⟩
        have HB1 := Lib.hid (HB.out.on hb1)
        clear hb1 hc2
        go_wp2
        go_roundw
        case rel => exact ⟨k + 1, by omega, by go_num, by rw [hn.out], HB1.out⟩
        case measure => simp [intOf]; omega
      · obtain rfl : k = l.length := by omega
        have ht := Lib.hid (List.take_length (l := l))
        go_wp2
        go_returns
        exact ⟨by rw [hv.out, ht.out]; rfl, HB.out⟩

set_option maxHeartbeats 400000 in
theorem rkeyOf_any (v : Value) (l : List Int) (w : World) (hl : IntsOf w v l) :
    Calls Try.prog 9 #[v] w fun e w' => e = .returned (ofV l) ∧ Below w.heap.size w w' := by
  obtain ⟨ao, cap, rfl, hm, hx⟩ := hl.parts
  have HX := Lib.hid hx
  clear hl hx
  by_cases h4 : 4 < l.length
  · have hv := Lib.hid (show ofV l = .tuple #[.string ⟨#[]⟩, .int .i64 22] from if_pos h4)
    have h4' : (4 : Int) < l.length := by omega
    go_enter Try.func9, Try.ntmps9
    go_wp2
    go_returns
    exact ⟨by rw [hv.out]; rfl, Below.refl _ _⟩
  · have hv := Lib.hid (show ofV l = .tuple #[.string (keyS l), .int .i64 0] from if_neg h4)
    have h4' : ¬ (4 : Int) < l.length := by omega
    go_enter Try.func9, Try.ntmps9
    go_wp2_with fail
    go_loopw [4, 5] (fun s i wr => ∃ k : Nat, k ≤ l.length ∧ i = .int .i64 k ∧ s = .string (keyS (l.take k)) ∧ Below w.heap.size w wr) (fun _ i _ => l.length - (intOf i).toNat)
    case atStart => exact ⟨0, Nat.zero_le _, rfl, rfl, Below.refl _ _⟩
    case round =>
      obtain ⟨k, hk, rfl, rfl, hb⟩ := hrel
      have HB := Lib.hid hb
      clear hb
      by_cases hlt : k < l.length
      · obtain ⟨x, hxk⟩ : ∃ x, l[k]? = some x := ⟨l[k], List.getElem?_eq_getElem hlt⟩
        obtain ⟨b, o, rfl, hbl, ⟨x0, x1⟩, hc⟩ := HX.out k x hxk
        have hc2 := (HB.out.cell (p := ⟨b, o + k, none⟩) hbl).trans hc
        have hs := keyS_size (l.take k)
        have hs1 : (keyS (l.take k)).size ≤ 32 := by rw [hs, List.length_take]; omega
        have hs2 : (ordS x).size ≤ 8 := by rw [ordS_size]; exact Nat.le_refl _
        have hn : Hid (keyS (l.take (k + 1)) = keyS (l.take k) ++ ordS x) := by
          unfold Hid
          rw [List.take_add_one, hxk]
          exact keyS_snoc _ _
        clear hs hc hxk
        go_wp2_with fail
        refine (rordered_any x _ x0 x1).mono ?_
        rintro e w1 ⟨rfl, hb1⟩
        have HB1 := Lib.hid (HB.out.on hb1)
        clear hb1 hc2
        go_wp2
        go_roundw
        case rel => exact ⟨k + 1, by omega, by go_num, by rw [hn.out], HB1.out⟩
        case measure => simp [intOf]; omega
      · obtain rfl : k = l.length := by omega
        have ht := Lib.hid (List.take_length (l := l))
        go_wp2
        go_returns
        exact ⟨by rw [hv.out, ht.out]; rfl, HB.out⟩
end Go.Proofs.Ytbfmadafiaofiaa
