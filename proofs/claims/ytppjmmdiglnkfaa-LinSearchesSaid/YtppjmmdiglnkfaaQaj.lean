/- Lists of numbers: copied, searched, put into, taken from: the shelf's contracts here. -/
import Derived.Test.YtppjmmdiglnkfaaQag
import Derived.Shelf.Slices.Clone
import Derived.Shelf.Slices.Delete
import Derived.Shelf.Slices.SearchI
import Derived.Shelf.Spec.SlicesInsert
import Derived.Shelf.Spec.SlicesInsertGrow
import Derived.Lib.RowBridge
namespace Go.Proofs.Ytppjmmdiglnkfaa
set_option maxRecDepth 100000
open Go.ChangeShapes Go.WideShapes Go.ChangeAt Go.RowKit Go.PlainAid Go.Deep Go.Shelf
open Go.Sort (Holds putRow)
open Go.Lib (putRow_eq_setCells)

def sl15_ren : Go.Shelf.Ren := ⟨fun | 15 => 78 | n => n, fun | 3 => 3 | 4 => 4 | 22 => 27 | n => n, fun | n => n⟩
theorem sl15 : Go.Proofs.Lays2.n15 Try.prog sl15_ren := {
  mixed := by kernel_rfl
  f15 := Try.func78.trans (congrArg some (by kernel_rfl))
  t3 := Try.underlying3
  a3 := Try.isAgg3
  z3 := Try.sizeOf3
  v3 := Try.zeroValue3
  t4 := Try.underlying4
  a4 := Try.isAgg4
  z4 := Try.sizeOf4
  v4 := Try.zeroValue4
  t22 := Try.underlying27
  a22 := Try.isAgg27
  z22 := Try.sizeOf27
  v22 := Try.zeroValue27
  i3 := by kernel_rfl }
def sl23_ren : Go.Shelf.Ren := ⟨fun | 23 => 130 | n => n, fun | 0 => 0 | 3 => 3 | 4 => 4 | 22 => 27 | n => n, fun | n => n⟩
theorem sl23 : Go.Proofs.Lays2.n23 Try.prog sl23_ren := {
  mixed := by kernel_rfl
  f23 := Try.func130.trans (congrArg some (by kernel_rfl))
  t0 := Try.underlying0
  a0 := Try.isAgg0
  z0 := Try.sizeOf0
  v0 := Try.zeroValue0
  t3 := Try.underlying3
  a3 := Try.isAgg3
  z3 := Try.sizeOf3
  v3 := Try.zeroValue3
  t4 := Try.underlying4
  a4 := Try.isAgg4
  z4 := Try.sizeOf4
  v4 := Try.zeroValue4
  t22 := Try.underlying27
  a22 := Try.isAgg27
  z22 := Try.sizeOf27
  v22 := Try.zeroValue27
  i3 := by kernel_rfl }
def sl25_ren : Go.Shelf.Ren := ⟨fun | 25 => 127 | 31 => 133 | 32 => 134 | 37 => 85 | n => n, fun | 0 => 0 | 3 => 3 | 4 => 4 | 22 => 27 | 40 => 149 | n => n, fun | n => n⟩
theorem sl25 : Go.Proofs.Lays2.n25 Try.prog sl25_ren := {
  mixed := by kernel_rfl
  f25 := Try.func127.trans (congrArg some (by kernel_rfl))
  f31 := Try.func133.trans (congrArg some (by kernel_rfl))
  f32 := Try.func134.trans (congrArg some (by kernel_rfl))
  f37 := Try.func85.trans (congrArg some (by kernel_rfl))
  t0 := Try.underlying0
  a0 := Try.isAgg0
  z0 := Try.sizeOf0
  v0 := Try.zeroValue0
  t3 := Try.underlying3
  a3 := Try.isAgg3
  z3 := Try.sizeOf3
  v3 := Try.zeroValue3
  t4 := Try.underlying4
  a4 := Try.isAgg4
  z4 := Try.sizeOf4
  v4 := Try.zeroValue4
  t22 := Try.underlying27
  a22 := Try.isAgg27
  z22 := Try.sizeOf27
  v22 := Try.zeroValue27
  t40 := Try.underlying149
  a40 := Try.isAgg149
  z40 := Try.sizeOf149
  v40 := Try.zeroValue149 }
def sl21_ren : Go.Shelf.Ren := ⟨fun | 21 => 129 | 27 => 135 | 28 => 136 | 35 => 137 | 39 => 37 | n => n, fun | 0 => 0 | 3 => 3 | 4 => 4 | 22 => 27 | n => n, fun | n => n⟩
theorem sl21 : Go.Proofs.Lays2.n21 Try.prog sl21_ren := {
  mixed := by kernel_rfl
  f21 := Try.func129.trans (congrArg some (by kernel_rfl))
  f27 := Try.func135.trans (congrArg some (by kernel_rfl))
  f28 := Try.func136.trans (congrArg some (by kernel_rfl))
  f35 := Try.func137.trans (congrArg some (by kernel_rfl))
  f39 := Try.func37.trans (congrArg some (by kernel_rfl))
  t0 := Try.underlying0
  a0 := Try.isAgg0
  z0 := Try.sizeOf0
  v0 := Try.zeroValue0
  t3 := Try.underlying3
  a3 := Try.isAgg3
  z3 := Try.sizeOf3
  v3 := Try.zeroValue3
  t4 := Try.underlying4
  a4 := Try.isAgg4
  z4 := Try.sizeOf4
  v4 := Try.zeroValue4
  t22 := Try.underlying27
  a22 := Try.isAgg27
  z22 := Try.sizeOf27
  v22 := Try.zeroValue27
  i3 := by kernel_rfl }

theorem IntsOf.inI {w : World} {v : Value} {l : List Int} (h : IntsOf w v l) : ∀ x ∈ l, -9223372036854775808 ≤ x ∧ x ≤ 9223372036854775807 := by
  rcases h with ⟨rfl, _⟩ | ⟨b, o, cap, hv, hlt, h0, hm, hr⟩
  · simp
  · intro x hx
    obtain ⟨i, hi, rfl⟩ := List.mem_iff_getElem.1 hx
    exact (hr i _ (List.getElem?_eq_getElem hi)).1
theorem IntsOf.cellAt {w : World} {b o : Nat} {l : List Int} (hr : ∀ (i : Nat) (x : Int), l[i]? = some x → (-9223372036854775808 ≤ x ∧ x ≤ 9223372036854775807) ∧ w.cell? ⟨b, o + i, none⟩ = some (.int .i64 x)) : ∀ j, j < l.length → w.cell? ⟨b, o + j, none⟩ = some (.int .i64 (l.getD j 0)) := fun j hj => by
  rw [(hr j _ (List.getElem?_eq_getElem hj)).2, List.getD_eq_getElem?_getD, List.getElem?_eq_getElem hj]
  rfl
/-- slices.Clone. -/
theorem clonei_any (v : Value) (L : List Int) (w : World) (h : IntsOf w v L) (hl : L.length ≤ 17592186044416) :
    Calls Try.prog 78 #[v] w fun e w' => ∃ v', e = .returned v' ∧ OwnI w.heap.size w' v' L ∧ Below w.heap.size w w' := by
  have hin := h.inI
  rcases h with ⟨rfl, ao, cap, rfl⟩ | ⟨b, o, cap, rfl, hlt, h0, hm, hr⟩
  · cases ao with
    | none =>
      refine (Any.slices_Clone_int_nil sl15 0 cap w).mono ?_
      rintro _ _ ⟨rfl, rfl⟩
      exact ⟨_, rfl, OwnI.nil _ _ _, Below.refl _ _⟩
    | some a =>
      refine (Any.slices_Clone_int_zero sl15 a cap w).mono ?_
      rintro _ w' ⟨v', rfl, hrow, _, hb⟩
      exact ⟨_, rfl, OwnI.ofRow hrow hin, hb⟩
  · refine (Any.slices_Clone_int sl15 b o L.length cap L w (Nat.le_refl _) (by omega) (IntsOf.cellAt hr)).mono ?_
    rintro _ w' ⟨v', rfl, hrow, _, hb⟩
    rw [List.take_length] at hrow
    exact ⟨_, rfl, OwnI.ofRow hrow hin, hb⟩
set_option maxHeartbeats 1000000 in
theorem bsearch_empty (ao : Option Addr) (c : Nat) (x : Int) (w : World) :
    Calls Try.prog 127 #[.slice ao 0 c, .int .i64 x] w fun e w' => e = .returned (.tuple #[.int .i64 0, .bool false]) ∧ Below w.heap.size w w' := by
  go_enter Try.func127, Try.ntmps127
  go_wp2
  go_loopw [7, 8] (fun s7 s8 wr => s7 = .int .i64 0 ∧ s8 = .int .i64 0 ∧ wr = w) (fun _ _ _ => (0 : Nat))
  case atStart => exact ⟨rfl, rfl, rfl⟩
  case round =>
    obtain ⟨rfl, rfl, rfl⟩ := hrel
    go_wp2
    go_ret2
    exact ⟨rfl, Below.refl _ _⟩
/-- slices.BinarySearch. -/
theorem bsearch_any (v : Value) (L : List Int) (x : Int) (w : World) (h : IntsOf w v L) (hs : L.Pairwise (· < ·)) (hl : L.length ≤ 17592186044416) :
    Calls Try.prog 127 #[v, .int .i64 x] w fun e w' => e = .returned (.tuple #[.int .i64 (L.countP (· < x) : Nat), .bool (L.contains x)]) ∧ Below w.heap.size w w' := by
  rcases h with ⟨rfl, ao, cap, rfl⟩ | ⟨b, o, cap, rfl, hlt, h0, hm, hr⟩
  · exact bsearch_empty ao cap x w
  · refine (Any.slices_BinarySearch_int sl25 b o L.length cap L x w (Nat.le_refl _) (by omega) (IntsOf.cellAt hr) (by rw [List.take_length]; exact hs.imp (fun h => Int.le_of_lt h))).mono ?_
    rintro _ _ ⟨rfl, q, rfl⟩
    rw [List.take_length]
    exact ⟨rfl, below_drewN w q⟩
/-- slices.Delete of one number. -/
theorem delete_any {n₀ : Nat} {w : World} {v : Value} {L : List Int} (h : OwnI n₀ w v L) (j : Nat) (hj : j < L.length) :
    Calls Try.prog 130 #[v, .int .i64 j, .int .i64 (j + 1 : Nat)] w fun e w' => ∃ v', e = .returned v' ∧ OwnI n₀ w' v' (L.take j ++ L.drop (j + 1)) ∧ Mine v w w' := by
  have hin := h.2
  rcases h.1 with ⟨rfl, _⟩ | ⟨g, o, cap, cur, rfl, hn, hg, hc, hs, hm, hr⟩
  · simp at hj
  · have hH : Holds (Value.int .i64) w g o L.toArray := fun i hi => by
      have hi' : i < L.length := by simpa using hi
      refine ⟨?_, frozen_of_row _ _ _ _ _ hg⟩
      rw [cell_of_row _ _ _ _ _ _ hg, hr i L[i] (List.getElem?_eq_getElem hi')]
      rw [getElem!_pos _ i hi]
      rfl
    refine (Any.slices_Delete_int sl23 g o cap j (j + 1) L w hH hc hm (by omega) (by omega)).mono ?_
    rintro _ _ ⟨rfl, q, rfl⟩
    have hlen : (L.take j ++ L.drop (j + 1)).length = L.length - 1 := by rw [List.length_append, List.length_take, List.length_drop]; omega
    obtain ⟨ys, hys⟩ : ∃ ys, L.take j ++ L.drop (j + 1) ++ List.replicate (j + 1 - j) 0 = ys := ⟨_, rfl⟩
    have hyl : ys.length = L.length := by rw [← hys, List.length_append, hlen, List.length_replicate]; omega
    have hyg : ∀ i x, (L.take j ++ L.drop (j + 1))[i]? = some x → ys[i]? = some x := fun i x hx => by
      rw [← hys, List.getElem?_append_left (List.getElem?_eq_some_iff.1 hx).1]
      exact hx
    rw [hys, putRow_eq_setCells (Value.int .i64) w g o L.toArray ys q hH (by simpa using hyl)]
    have hg' : (w.drewN q).heap[g]? = some (.cells cur 3 (0, 0)) := hg
    obtain ⟨cs', b1, b2, b3, b4⟩ := heap_setCells_same g 3 (ys.map (Value.int .i64)) o (w.drewN q) cur hg' (by simp [hyl]; omega)
    refine ⟨_, rfl, ⟨.inr ⟨g, o, cap, cs', by rw [hlen, show j + 1 - j = 1 by omega], hn, b1, by omega, by omega, hm, fun i x hx => ?_⟩, fun x hx => ?_⟩, ?_⟩
    · have hx' := hyg i x hx
      rw [b3 i (by rw [List.length_map]; exact (List.getElem?_eq_some_iff.1 hx').1), List.getElem?_map, hx']
      rfl
    · rcases List.mem_append.1 hx with c | c
      · exact hin x (List.mem_of_mem_take c)
      · exact hin x (List.mem_of_mem_drop c)
    · unfold Mine
      exact (Keeps.of_below (below_drewN w q)).setCells (.inl ⟨o, L.length, cap - 1, by rw [show cap - 1 + 1 = cap by omega]⟩) _ _
theorem shape_row {w : World} {g : Nat} {cs : Array Value} {t : TypeId} (h : w.heap[g]? = some (.cells cs t (0, 0))) : w.shape? g = some (t, cs.size) := by
  simp [World.shape?, h]
theorem ins_get {L : List Int} {j : Nat} (hj : j ≤ L.length) (x : Int) (i : Nat) : (L.take j ++ x :: L.drop j)[i]? = if i < j then L[i]? else if i = j then some x else L[i - 1]? := by
  by_cases c : i < j
  · rw [if_pos c, List.getElem?_append_left (by rw [List.length_take]; omega), List.getElem?_take_of_lt c]
  · rw [if_neg c, List.getElem?_append_right (by rw [List.length_take]; omega), List.length_take, Nat.min_eq_left hj]
    by_cases d : i = j
    · rw [if_pos d, d, Nat.sub_self]; rfl
    · rw [if_neg d, show i - j = (i - 1 - j) + 1 by omega, List.getElem?_cons_succ, List.getElem?_drop, show j + (i - 1 - j) = i - 1 by omega]
theorem ins_len {L : List Int} {j : Nat} (hj : j ≤ L.length) (x : Int) : (L.take j ++ x :: L.drop j).length = L.length + 1 := by
  rw [List.length_append, List.length_cons, List.length_take, List.length_drop]; omega
/-- slices.Insert of one number, whose block was made last. -/
theorem insert_any {n₀ : Nat} {W : World} {v : Value} {L : List Int} (h : OwnI n₀ W v L) (hn₀ : n₀ ≤ W.heap.size) (hl : L.length ≤ 17592186044414) (x : Int) (hx : -9223372036854775808 ≤ x ∧ x ≤ 9223372036854775807) (j : Nat) (hj : j ≤ L.length) :
    Calls Try.prog 129 #[v, .int .i64 j, .slice (some ⟨W.heap.size, 0, none⟩) 1 1] (W.alloc (.cells #[.int .i64 x] 3)) fun e w' => ∃ v', e = .returned v' ∧ OwnI n₀ w' v' (L.take j ++ x :: L.drop j) ∧ Mine v W w' := by
  have hq := heap_alloc_new W (.cells #[.int .i64 x] 3)
  have hba : Below W.heap.size W (W.alloc (.cells #[.int .i64 x] 3)) := by go_grown
  have hsz : (W.alloc (.cells #[.int .i64 x] 3)).heap.size = W.heap.size + 1 := World.size_alloc _ _
  obtain ⟨w, hw⟩ : ∃ w, W.alloc (.cells #[.int .i64 x] 3) = w := ⟨_, rfl⟩
  rw [hw] at hq hba hsz ⊢
  have hin : ∀ y ∈ L.take j ++ x :: L.drop j, -9223372036854775808 ≤ y ∧ y ≤ 9223372036854775807 := fun y hy => by
    rcases List.mem_append.1 hy with c | c
    · exact h.2 y (List.mem_of_mem_take c)
    · rcases List.mem_cons.1 c with c | c
      · rw [c]; exact hx
      · exact h.2 y (List.mem_of_mem_drop c)
  have hlen := ins_len hj x
  have hget := ins_get hj x
  have hvs : ∀ i u, [Value.int .i64 x][i]? = some u → w.cell? ⟨W.heap.size, 0 + i, none⟩ = some u := fun i u hu => by
    rcases i with _ | i
    · rw [cell_of_row _ _ _ _ _ _ hq]; exact hu
    · simp at hu
  have h1v : ∀ u ∈ [Value.int .i64 x], u.oneCell' = true := fun u hu => by rw [List.mem_singleton.1 hu]; rfl
  have h1c : ∀ u ∈ L.map (Value.int .i64), u.oneCell' = true := fun u hu => by
    obtain ⟨y, _, rfl⟩ := List.mem_map.1 hu
    rfl
  have egrow : ∀ (base : Option Addr) (c : Nat), j = L.length → L.length ≤ c → c < L.length + 1 → (base = none → L.length = 0) → (∀ a, base = some a → ∀ i u, (L.map (Value.int .i64))[i]? = some u → w.cell? (a.add i) = some u) →
      Calls Try.prog 129 #[.slice base L.length c, .int .i64 j, .slice (some ⟨W.heap.size, 0, none⟩) 1 1] w fun e w' => ∃ v', e = .returned v' ∧ OwnI n₀ w' v' (L.take j ++ x :: L.drop j) ∧ Mine v W w' := fun base c hjl hlc hcl hnil hcs => by
    rw [hjl] at hlen hget hin ⊢
    refine (Any2.slices_Insert_int_end_grow sl21 base L.length c W.heap.size 0 1 1 (L.map (Value.int .i64)) [.int .i64 x] w (by omega) hlc hcl (by omega) (by simp) rfl hnil hcs hvs h1v).mono ?_
    rintro _ _ ⟨rfl, rfl⟩
    have hge := grownCap_ge w (L.length + 1) c 3
    have hle := grownCap_le_maxLen w (L.length + 1) c 3 (by unfold maxLen; omega)
    unfold maxLen at hle
    refine ⟨_, rfl, ⟨.inr ⟨w.heap.size, 0, _, _, by rw [hlen], by omega, heap_alloc_new w.drew _, by rw [hlen]; exact hge, ?_, by exact_mod_cast hle, fun i y hy => ?_⟩, hin⟩, Mine.of (hba.on ⟨rfl, rfl, rfl, by simp, fun k hk => heap_alloc_old w.drew _ hk⟩)⟩
    · rw [Array.size_append, size_zeroCells, List.size_toArray, List.length_append, List.length_map]
      show 0 + grownCap w (L.length + 1) c 3 ≤ L.length + 1 + (grownCap w (L.length + 1) c 3 - (L.length + 1)) * 1
      omega
    · have hil : i < L.length + 1 := by have := (List.getElem?_eq_some_iff.1 hy).1; omega
      rw [Nat.zero_add, Array.getElem?_append_left (by simp; exact hil), List.getElem?_toArray]
      rw [hget] at hy
      by_cases d : i < L.length
      · rw [if_pos d] at hy
        rw [List.getElem?_append_left (by simpa using d), List.getElem?_map, hy]
        rfl
      · rw [if_neg d, if_pos (by omega)] at hy
        rw [List.getElem?_append_right (by simp; omega), List.length_map, show i - L.length = 0 by omega, ← Option.some.inj hy]
        rfl
  rcases h.1 with ⟨h0, ao, rfl⟩ | ⟨g, o, cap, cur, hv, hng, hg, hlc, hs, hm, hr⟩
  · subst h0
    exact egrow ao 0 (by simpa using hj) (Nat.le_refl _) (by simp) (fun _ => rfl) (fun a _ i u hu => by simp at hu)
  · have hgW := heap_inO hg
    have hg' : w.heap[g]? = some (.cells cur 3 (0, 0)) := (hba.block g hgW).trans hg
    have hcs : ∀ i u, (L.map (Value.int .i64))[i]? = some u → w.cell? ⟨g, o + i, none⟩ = some u := fun i u hu => by
      rw [List.getElem?_map] at hu
      cases hj' : L[i]? with
      | none => rw [hj'] at hu; cases hu
      | some y =>
        rw [hj'] at hu
        have : Value.int .i64 y = u := by simpa using hu
        rw [cell_of_row _ _ _ _ _ _ hg', ← this]
        exact hr i y hj'
    have hsp : ∀ i, i < cap → (w.cell? ⟨g, o + i, none⟩).isSome = true := fun i hi => by
      rw [cell_of_row _ _ _ _ _ _ hg', Array.getElem?_eq_getElem (by omega)]
      rfl
    have hfz : ∀ i, w.frozen? ⟨g, i, none⟩ = false := fun i => frozen_of_row _ _ _ _ _ hg'
    have mine : ∀ (w' : World), Keeps (OwnB v) W w' → ∀ o' vs, L.length + 1 ≤ cap → Keeps (OwnB v) W (w'.setCells g o' vs) := fun w' hk o' vs hc =>
      hk.setCells (.inl ⟨o, L.length, cap - 1, by rw [hv, show cap - 1 + 1 = cap by omega]⟩) _ _
    by_cases hroom : L.length + 1 ≤ cap
    · by_cases hjl : j = L.length
      · rw [hjl] at hlen hget hin ⊢
        rw [hv]
        refine (Any2.slices_Insert_int_end_room sl21 g o L.length cap W.heap.size 0 1 1 [.int .i64 x] w (by omega) hroom hm rfl (fun i hi => by rw [Nat.add_assoc]; exact hsp _ (by omega)) (fun i hi => hfz _) hvs h1v).mono ?_
        rintro _ _ ⟨rfl, rfl⟩
        obtain ⟨cs', b1, b2, b3, b4⟩ := heap_setCells_same g 3 [.int .i64 x] (o + L.length) w cur hg' (by simp; omega)
        refine ⟨_, rfl, ⟨.inr ⟨g, o, cap, cs', by rw [hlen], hng, b1, by omega, by omega, hm, fun i y hy => ?_⟩, hin⟩, ?_⟩
        · have hil : i < L.length + 1 := by have := (List.getElem?_eq_some_iff.1 hy).1; omega
          rw [hget] at hy
          by_cases d : i < L.length
          · rw [if_pos d] at hy
            rw [b4 _ (.inl (by omega))]
            exact hr i y hy
          · rw [if_neg d, if_pos (by omega)] at hy
            have := b3 0 (by simp)
            rw [show o + i = o + L.length + 0 by omega, this, ← Option.some.inj hy]
            rfl
        · rw [← hv]; exact mine w (Keeps.of_below hba) _ _ hroom
      · have hjl' : j < L.length := by omega
        rw [hv]
        refine (Any2.slices_Insert_int_shift sl21 g o L.length cap j W.heap.size 0 1 1 (L.map (Value.int .i64)) [.int .i64 x] w hjl' (by omega) hroom hm (by omega) (by simp) rfl hcs (fun i hi => hsp i (by omega)) (fun i hi => hfz _) hvs h1c h1v 3 3 1 cur.size (shape_row hq) (shape_row hg') (by omega) (frozen_of_row _ _ _ _ _ hq) (frozen_of_row _ _ _ _ _ hq)).mono ?_
        rintro _ _ ⟨rfl, rfl⟩
        obtain ⟨cs1, b1, b2, b3, b4⟩ := heap_setCells_same g 3 ((L.map (Value.int .i64)).drop j) (o + (j + 1)) w.drew cur hg' (by rw [List.length_drop, List.length_map]; omega)
        obtain ⟨cs2, d1, d2, d3, d4⟩ := heap_setCells_same g 3 [.int .i64 x] (o + j) _ cs1 b1 (by simp; omega)
        refine ⟨_, rfl, ⟨.inr ⟨g, o, cap, cs2, by rw [hlen], hng, d1, by omega, by omega, hm, fun i y hy => ?_⟩, hin⟩, ?_⟩
        · have hil : i < L.length + 1 := by have := (List.getElem?_eq_some_iff.1 hy).1; omega
          rw [hget] at hy
          by_cases d : i < j
          · rw [if_pos d] at hy
            rw [d4 _ (.inl (by omega)), b4 _ (.inl (by omega))]
            exact hr i y hy
          · rw [if_neg d] at hy
            by_cases f : i = j
            · rw [if_pos f] at hy
              have := d3 0 (by simp)
              rw [f, show o + j = o + j + 0 by omega, this, ← Option.some.inj hy]
              rfl
            · rw [if_neg f] at hy
              have := b3 (i - 1 - j) (by rw [List.length_drop, List.length_map]; omega)
              rw [d4 _ (.inr (by simp; omega)), show o + i = o + (j + 1) + (i - 1 - j) by omega, this, List.getElem?_drop, List.getElem?_map, show j + (i - 1 - j) = i - 1 by omega, hy]
              rfl
        · rw [← hv]
          exact mine _ (mine _ (Keeps.of_below hba).drew _ _ hroom) _ _ hroom
    · have hcap : cap = L.length := by omega
      by_cases hjl : j = L.length
      · rw [hv]
        rw [hv] at egrow
        exact egrow _ cap hjl (by omega) (by omega) (fun e => by cases e) (fun a ha i u hu => by cases ha; rw [Addr.add_lit]; exact hcs i u hu)
      · have hjl' : j < L.length := by omega
        rw [hv]
        refine (Any2.slices_Insert_int_grow sl21 g o L.length cap j W.heap.size 0 1 1 (L.map (Value.int .i64)) [.int .i64 x] w hjl' (by omega) (by omega) (by omega) (by omega) (by simp) rfl hcs hvs h1c h1v).mono ?_
        rintro _ _ ⟨rfl, rfl⟩
        have hge := grownCap_ge w (L.length + 1) cap 3
        have hle := grownCap_le_maxLen w (L.length + 1) cap 3 (by unfold maxLen; omega)
        unfold maxLen at hle
        obtain ⟨G, hG⟩ : ∃ G, grownCap w (L.length + 1) cap 3 = G := ⟨_, rfl⟩
        rw [show sl21_ren.t 3 = 3 from rfl, hG]
        rw [hG] at hge hle
        obtain ⟨c0, hc0⟩ : ∃ c0 : Array Value, ((L.map (Value.int .i64)).take j).toArray ++ Builtin.zeroCells (Value.int .i64 0).cells (L.length + 1 - j) ++ Builtin.zeroCells (Value.int .i64 0).cells (G - (L.length + 1)) = c0 := ⟨_, rfl⟩
        have hc0s : c0.size = G := by
          rw [← hc0, Array.size_append, Array.size_append, size_zeroCells, size_zeroCells, List.size_toArray, List.length_take, List.length_map]
          show min j L.length + (L.length + 1 - j) * 1 + (G - (L.length + 1)) * 1 = G
          omega
        have hc0g : ∀ i, i < j → c0[i]? = (L.map (Value.int .i64))[i]? := fun i hi => by
          rw [← hc0, Array.getElem?_append_left (by rw [Array.size_append, List.size_toArray, List.length_take, List.length_map]; omega), Array.getElem?_append_left (by rw [List.size_toArray, List.length_take, List.length_map]; omega), List.getElem?_toArray, List.getElem?_take_of_lt hi]
        rw [hc0]
        have e0 : (w.alloc (.cells c0 3)).drew.heap[w.heap.size]? = some (.cells c0 3 (0, 0)) := heap_alloc_new w _
        obtain ⟨cs1, b1, b2, b3, b4⟩ := heap_setCells_same w.heap.size 3 [.int .i64 x] j (w.alloc (.cells c0 3)).drew c0 e0 (by simp; omega)
        have b1' : ((w.alloc (.cells c0 3)).drew.setCells w.heap.size j [.int .i64 x]).drew.heap[w.heap.size]? = some (.cells cs1 3 (0, 0)) := b1
        obtain ⟨cs2, d1, d2, d3, d4⟩ := heap_setCells_same w.heap.size 3 ((L.map (Value.int .i64)).drop j) (j + 1) _ cs1 b1' (by rw [List.length_drop, List.length_map]; omega)
        refine ⟨_, rfl, ⟨.inr ⟨w.heap.size, 0, G, cs2, by rw [hlen], by omega, d1, by omega, by omega, by exact_mod_cast hle, fun i y hy => ?_⟩, hin⟩, ?_⟩
        · have hil : i < L.length + 1 := by have := (List.getElem?_eq_some_iff.1 hy).1; omega
          rw [hget] at hy
          rw [Nat.zero_add]
          by_cases d : i < j
          · rw [if_pos d] at hy
            rw [d4 _ (.inl (by omega)), b4 _ (.inl (by omega)), hc0g i d, List.getElem?_map, hy]
            rfl
          · rw [if_neg d] at hy
            by_cases f : i = j
            · rw [if_pos f] at hy
              have := b3 0 (by simp)
              rw [d4 _ (.inl (by omega)), f, show j = j + 0 by omega, this, ← Option.some.inj hy]
              rfl
            · rw [if_neg f] at hy
              have := d3 (i - 1 - j) (by rw [List.length_drop, List.length_map]; omega)
              rw [show i = (j + 1) + (i - 1 - j) by omega, this, List.getElem?_drop, List.getElem?_map, show j + (i - 1 - j) = i - 1 by omega, hy]
              rfl
        · unfold Mine
          exact (((((Keeps.of_below hba).alloc _).drew).setCells (.inr (by omega)) _ _).drew).setCells (.inr (by omega)) _ _
end Go.Proofs.Ytppjmmdiglnkfaa
