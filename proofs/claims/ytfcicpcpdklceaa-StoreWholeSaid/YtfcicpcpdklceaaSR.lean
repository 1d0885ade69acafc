/- The law's writes. -/
import Derived.Test.YtfcicpcpdklceaaSBeg
namespace Go.Proofs.Ytfcicpcpdklceaa
set_option maxRecDepth 100000
open Go.ChangeShapes Go.WideShapes Go.ChangeAt Go.RowKit Go.PlainAid Go.ChangeMaps Go.MapKept
open Go.Sort (grow)

/-- A transaction behind writes. -/
def writesT (h : Hd) (T : Int → Option ByteArray) (l : List PageV) : Int → Option ByteArray := l.foldl (fun T x => swriteT h T x.at_ x.data) T
theorem writesT_snoc (h : Hd) (T : Int → Option ByteArray) (l : List PageV) (x : PageV) : writesT h T (l ++ [x]) = swriteT h (writesT h T l) x.at_ x.data := by simp [writesT, List.foldl_append]
/-- Pages of a transaction are those of the store. -/
def TxOk (h : Hd) (T : Int → Option ByteArray) : Prop := ∀ k s, T k = some s → 0 ≤ k ∧ k < h.pages ∧ s.size = 256
theorem noPages_ok (h : Hd) : TxOk h noPages := fun k s e => by cases e
theorem swriteT_ok {h : Hd} {T : Int → Option ByteArray} (hT : TxOk h T) (k : Int) (s : ByteArray) : TxOk h (swriteT h T k s) := by
  unfold swriteT
  split
  · exact hT
  · intro j t hj
    unfold put at hj
    by_cases e : j = k
    · rw [if_pos e] at hj
      obtain rfl : filled s = t := by simpa using hj
      exact ⟨by omega, by omega, filled_size s⟩
    · rw [if_neg e] at hj
      exact hT j t hj
theorem writesT_ok {h : Hd} : ∀ (l : List PageV) {T : Int → Option ByteArray}, TxOk h T → TxOk h (writesT h T l)
  | [], _, hT => hT
  | x :: l, _, hT => writesT_ok l (swriteT_ok hT x.at_ x.data)
set_option maxHeartbeats 1000000 in
theorem writes_any {w0 w : World} {p q bm c : Nat} {d : D} {h : Hd} {T : Int → Option ByteArray} {R : List (Nat × Obj)} (H : StT w0 p q bm c d h T false R w) (v : Value) (l : List PageV) (hl : PagesIn w0 v l) (hlen : (l.length : Int) ≤ 9223372036854775807) (hc : c < 900000) :
    Calls Try.prog 9 #[.pointer (some ⟨q, 0, none⟩), v] w fun e w' => e = .returned (.tuple #[]) ∧ StT w0 p q bm (c + 30) d h (writesT h T (l.take 30)) false R w' := by
  have hv : ∃ a cap, v = .slice a l.length cap := by
    rcases hl with ⟨rfl, ao, cap, rfl⟩ | ⟨b, o, cap, rfl, _⟩
    · exact ⟨_, _, rfl⟩
    · exact ⟨_, _, rfl⟩
  obtain ⟨va, vc, rfl⟩ := hv
  have HL := Lib.hid hl
  have HH : Hid (StT w0 p q bm (c + 0) d h (writesT h T (l.take 0)) false R w) := Lib.hid H
  clear H hl
  go_enter Try.func9, Try.ntmps9
  go_wp2_with fail
  go_loopw [4] (fun i wr => ∃ k : Nat, k ≤ l.length ∧ k ≤ 30 ∧ i = .int .i64 k ∧ StT w0 p q bm (c + k) d h (writesT h T (l.take k)) false R wr) (fun i _ => 30 - (intOf i).toNat)
  case atStart => exact ⟨0, Nat.zero_le _, by omega, rfl, HH.out⟩
  case round =>
    clear HH
    obtain ⟨k, hk, hk2, rfl, hH⟩ := hrel
    have HH := Lib.hid hH
    clear hH
    by_cases hlt : k < l.length
    · by_cases h30 : k < 30
      · obtain ⟨x, hx⟩ : ∃ x, l[k]? = some x := ⟨_, List.getElem?_eq_getElem hlt⟩
        rcases HL.out.on HH.out.below with ⟨rfl, _⟩ | ⟨b, o, cap', hvv, hbl, _, _, hr⟩
        · simp at hlt
        · cases hvv
          obtain ⟨hxw, hxr⟩ := hr k x hx
          have e0 := hxr 0 _ rfl
          have e1 := hxr 1 _ rfl
          rw [Nat.add_zero] at e0
          have hx2 : l.take (k + 1) = l.take k ++ [x] := by rw [List.take_add_one, hx]; rfl
          have HT := Lib.hid hx2
          have HW := Lib.hid (fun w1 (b : Below wr.heap.size wr w1) => swrite_any (HH.out.on b) x.at_ x.data hxw.at_.1 hxw.at_.2 hxw.data (by omega))
          clear hr hxr hx hxw hx2
          have d1 : (0 : Int) ≤ (k : Int) := by omega
          have d2 : (k : Int) < (l.length : Int) := by omega
          go_wp2_with fail
          go_still_tail 11, (by kernel_rfl)
          change wpList _ _ _ _ _ wr.drew
          have hbd : Below wr.heap.size wr wr.drew := by go_grown
          have HW2 := Lib.hid (HW.out _ hbd)
          clear HW hbd e0 e1
          generalize wr.drew = w2 at *
          go_wp2_with fail
          ((with_reducible refine HW2.out.mono ?_); rintro e w3 ⟨rfl, H3, _⟩)
          have HH3 := Lib.hid H3
          clear H3
          go_wp2
          go_roundw
          case rel => exact ⟨k + 1, by omega, by omega, by go_num, by rw [HT.out, writesT_snoc]; exact HH3.out⟩
          case measure => simp [intOf]; omega
      · obtain rfl : k = 30 := by omega
        go_wp2
        go_returns
        exact ⟨rfl, HH.out⟩
    · obtain rfl : k = l.length := by omega
      go_wp2
      go_returns
      refine ⟨rfl, ?_⟩
      rw [List.take_of_length_le (by omega)]
      have := HH.out.mono (show c + l.length ≤ c + 30 by omega)
      rwa [List.take_of_length_le (Nat.le_refl _)] at this
end Go.Proofs.Ytfcicpcpdklceaa
