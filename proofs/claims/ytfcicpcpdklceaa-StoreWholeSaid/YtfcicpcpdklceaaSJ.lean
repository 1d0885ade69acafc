/- Package store: transaction. -/
import Derived.Test.YtfcicpcpdklceaaSI
namespace Go.Proofs.Ytfcicpcpdklceaa
set_option maxRecDepth 100000
open Go.ChangeShapes Go.WideShapes Go.ChangeAt Go.RowKit Go.PlainAid Go.ChangeMaps Go.MapKept
attribute [local go_sem ↓ high] loadS_page storeS_page

/-- The pages of a transaction, as it is packed. -/
def txPages (T : Int → Option ByteArray) (ks : List Int) : List PageV := ks.map fun k => ⟨k, (T k).getD ByteArray.empty⟩
theorem txPages_length (T : Int → Option ByteArray) (ks : List Int) : (txPages T ks).length = ks.length := by simp [txPages]
theorem info_page : (Try.prog.info? 49).map (fun i => (i.zero, i.size, i.bytes)) = some (some (.agg #[.int .i64 0, .string ⟨#[]⟩]), 2, 24) := by kernel_rfl
def appP (vs : Array Value) : Sem Value := Builtin.append_ #[22, 22] 22 vs
theorem app_page (vs : Array Value) : Builtin.append_ #[22, 22] 22 vs = appP vs := rfl
/-- One page more in a row of the call's own. -/
theorem page_push {n₀ : Nat} {W : World} {l : List PageV} {v : Value} (hrow : W.ownsRow n₀ 49 2 v l.length (pageCells l)) (hn : n₀ ≤ W.heap.size) (hlen : l.length ≤ 1048576) (x : PageV) :
    ∃ g cap w2, (appP #[v, .slice (some ⟨W.heap.size, 0, none⟩) 1 1]).run Try.prog (W.alloc (.cells #[.int .i64 x.at_, .string x.data] 49)) = .ok (.slice (some ⟨g, 0, none⟩) (l.length + 1) cap) w2 ∧
      w2.ownsRow n₀ 49 2 (.slice (some ⟨g, 0, none⟩) (l.length + 1) cap) (l ++ [x]).length (pageCells (l ++ [x])) ∧ Below n₀ W w2 := by
  obtain ⟨i0, hi, hz0, hz1, hz2⟩ := info_parts info_page
  have hq := heap_alloc_new W (.cells #[.int .i64 x.at_, .string x.data] 49)
  have hba : Below W.heap.size W (W.alloc (.cells #[.int .i64 x.at_, .string x.data] 49)) := by go_grown
  have hpl := pageCells_length l
  obtain ⟨g, cap, w2, hr, h2, h3, _, _⟩ := run_append_lies (P := Try.prog) (w := W.alloc (.cells #[.int .i64 x.at_, .string x.data] 49)) 22 22 n₀ 49 i0 (.agg #[.int .i64 0, .string ⟨#[]⟩]) 2 24 Try.underlying22 hi hz0 hz1 hz2 rfl (by decide) v l.length (pageCells l) (ownsRow_on hrow hba) ⟨W.heap.size, 0, none⟩ 1 1 [.int .i64 x.at_, .string x.data] rfl
    (fun j u hu => by
      rcases j with _ | _ | j
      · have : Value.int .i64 x.at_ = u := by simpa using hu
        rw [← this]
        show (W.alloc (.cells #[.int .i64 x.at_, .string x.data] 49)).cell? ⟨W.heap.size, 0, none⟩ = _
        rw [cell_of_row _ _ _ _ _ _ hq]
        rfl
      · have : Value.string x.data = u := by simpa using hu
        rw [← this]
        show (W.alloc (.cells #[.int .i64 x.at_, .string x.data] 49)).cell? ⟨W.heap.size, 1, none⟩ = _
        rw [cell_of_row _ _ _ _ _ _ hq]
        rfl
      · simp at hu) (fun u hu => by
        have : u = .int .i64 x.at_ ∨ u = .string x.data := by simpa using hu
        rcases this with rfl | rfl <;> rfl) (by decide) (by unfold maxLen; omega) (by omega) (by rw [World.size_alloc]; omega) _ rfl
  refine ⟨g, cap, w2, hr, by rw [List.length_append, pageCells_snoc]; exact h2, (hba.mono hn).grown h3 (by rw [World.size_alloc]; omega) (fun k e => (hrow.lt k e).1)⟩
theorem row_int {w : World} {base n : Nat} {v : Value} {ss : List Int} (h : w.ownsRow base 3 1 v n (ss.map (Value.int .i64))) (hn : n = ss.length) {k : Nat} {x : Int} (hx : ss[k]? = some x) :
    ∃ g cap, v = .slice (some ⟨g, 0, none⟩) n cap ∧ g < w.heap.size ∧ w.cell? ⟨g, k, none⟩ = some (.int .i64 x) := by
  have hk := (List.getElem?_eq_some_iff.1 hx).1
  obtain ⟨g, cap, cur, hv, hb, hg, ht⟩ := row_open h (by omega)
  refine ⟨g, cap, hv, heap_lt' hg, ?_⟩
  have e : cur[k]? = some (.int .i64 x) := by
    rw [← Array.getElem?_toList, ← List.getElem?_take_of_lt (show k < n by omega), ht, List.getElem?_map, hx]; rfl
  rw [cell_of_row _ _ _ _ _ _ hg, e]
theorem row_lower {w : World} {b b' : Nat} {e : TypeId} {z : Nat} {v : Value} {n : Nat} {xs : List Value} (h : w.ownsRow b e z v n xs) (hb : b' ≤ b) : w.ownsRow b' e z v n xs := by
  refine ⟨h.1, ?_⟩
  rcases h.2 with hn | ⟨g, cap, cur, hv, hg, rest⟩
  · exact .inl hn
  · exact .inr ⟨g, cap, cur, hv, Nat.le_trans hb hg, rest⟩
attribute [local go_sem ↓ high] app_page
set_option maxHeartbeats 1000000 in
theorem transaction_any {w0 w : World} {p q bm c : Nat} {d : D} {h : Hd} {T : Int → Option ByteArray} {dead : Bool} {R : List (Nat × Obj)} (H : StT w0 p q bm c d h T dead R w) (hc : c ≤ 1000000) (hT : ∀ k, (T k).isSome = true → -9223372036854775808 ≤ k ∧ k ≤ 9223372036854775807) :
    Calls Try.prog 27 #[.pointer (some ⟨q, 0, none⟩)] w fun e w' => ∃ ks v, e = .returned v ∧ Keys T ks ∧ ks.length ≤ c ∧ w'.ownsRow w.heap.size 49 2 v ks.length (pageCells (txPages T ks)) ∧ Below w.heap.size w w' := by
  have HH := Lib.hid H
  have HD := Lib.hid (sdirty_any H hc)
  have HT := Lib.hid hT
  clear H hT
  go_enter Try.func27, Try.ntmps27
  go_wp2_with fail
  refine HD.out.mono ?_
  rintro e w1 ⟨ks, v, rfl, hK, hkl, hrow, hb1⟩
  have HK := Lib.hid hK
  have HR := Lib.hid hrow
  have HB := Lib.hid hb1
  have hln : ∃ a cp, v = .slice a ks.length cp := by
    rcases hrow.2 with ⟨rfl, hn⟩ | ⟨g, cap, cur, hv, _⟩
    · exact ⟨none, 0, by rw [hn]⟩
    · exact ⟨_, _, hv⟩
  obtain ⟨a, cp, rfl⟩ := hln
  have HH1 := Lib.hid (HH.out.on hb1)
  clear hK hrow hb1 HD HH
  go_wp2_with fail
  have HP0 : Hid (w1.ownsRow w1.heap.size 49 2 (.slice none 0 0) ((txPages T ks).take 0).length (pageCells ((txPages T ks).take 0))) := Lib.hid (World.ownsRow_nil _ _ _ _)
  go_loopw [3, 10] (fun v i wr => ∃ k : Nat, k ≤ ks.length ∧ i = .int .i64 k ∧ wr.ownsRow w1.heap.size 49 2 v ((txPages T ks).take k).length (pageCells ((txPages T ks).take k)) ∧ Below w1.heap.size w1 wr) (fun _ i _ => ks.length - (intOf i).toNat)
  case atStart => exact ⟨0, Nat.zero_le _, rfl, HP0.out, Below.refl _ _⟩
  case round =>
    clear HP0
    obtain ⟨k, hk, rfl, hrow, hbw⟩ := hrel
    have HRW := Lib.hid hrow
    have HBW := Lib.hid hbw
    clear hrow hbw
    by_cases hlt : k < ks.length
    · obtain ⟨x, hx⟩ : ∃ x, ks[k]? = some x := ⟨_, List.getElem?_eq_getElem hlt⟩
      obtain ⟨g, cap, hvv, hgl, e0⟩ := row_int HR.out rfl hx
      cases hvv
      have e1 := (HBW.out.cell (p := ⟨g, k, none⟩) hgl).trans e0
      have hsome : (T x).isSome = true := (HK.out.2 x).1 (List.mem_of_getElem? hx)
      obtain ⟨x0, x1⟩ := HT.out x hsome
      have HS := HH1.out.on HBW.out
      obtain ⟨c0, c1, c2, c3, c4, c5, c6⟩ := store_cells HS.at
      obtain ⟨⟨es, clock, hX, hS⟩, _, _⟩ := HS
      have hbm : wr.heap[bm]? = some (.map es clock) := hS.mem (x := (bm, .map es clock)) List.mem_cons_self
      rcases hX.look hbm x x0 x1 with ⟨hn, _⟩ | ⟨t, ht, hts, hl⟩
      · rw [hn] at hsome; cases hsome
      · have hl1 := hl false
        rw [if_neg (by decide)] at hl1
        have hst := storeS_new_page wr t
        have hcv := conv_page hts (heap_alloc_new wr (.cells (textCells 256 t).toArray 83))
        have hbl : Below wr.heap.size wr (wr.alloc (.cells (textCells 256 t).toArray 83)) := by go_grown
        have hx2 : (txPages T ks).take (k + 1) = (txPages T ks).take k ++ [⟨x, t⟩] := by
          have e : (txPages T ks)[k]? = some ⟨x, t⟩ := by unfold txPages; rw [List.getElem?_map, hx]; simp [ht]
          rw [List.take_add_one, e]; rfl
        have hlk : ((txPages T ks).take k).length = k := by rw [List.length_take, txPages_length]; omega
        obtain ⟨gg, cp2, w2, p1, p2, p3⟩ := page_push (ownsRow_on HRW.out hbl) (Nat.le_trans HBW.out.size hbl.size) (by omega) ⟨x, t⟩
        rw [← hx2] at p2
        rw [hlk] at p1 p2
        have HP2 := Lib.hid p2
        have HB3 := Lib.hid ((HBW.out.trans (hbl.mono HBW.out.size)).trans p3)
        have HLK := Lib.hid hlk
        have hwz : (wr.alloc (.cells (textCells 256 t).toArray 83)).heap.size = wr.heap.size + 1 := by simp
        rw [hwz] at p1
        unfold pgV at hl1
        generalize (textCells 256 t).toArray = cs at *
        generalize hz : zero256 = zs at *
        have zp := zero_page
        rw [hz] at zp
        clear hl ht hX hS hbm hbl hx hsome e0 hx2 p2 p3 hz hlk hts hwz
        go_wp2_with fail
        go_roundw
        case rel => exact ⟨k + 1, by omega, by go_num, HP2.out, HB3.out⟩
        case measure => simp [intOf]; omega
    · obtain rfl : k = ks.length := by omega
      have hrw := row_lower HRW.out HB.out.size
      rw [show (txPages T ks).take ks.length = txPages T ks by rw [← txPages_length T ks, List.take_length], txPages_length] at hrw
      have HRW2 := Lib.hid hrw
      have HB2 := Lib.hid (HB.out.on HBW.out)
      clear HRW hrw
      go_wp2
      go_returns
      exact ⟨ks, _, rfl, HK.out, hkl, HRW2.out, HB2.out⟩
end Go.Proofs.Ytfcicpcpdklceaa
