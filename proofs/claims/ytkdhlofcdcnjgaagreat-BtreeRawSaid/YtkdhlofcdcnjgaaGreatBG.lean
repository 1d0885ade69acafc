/- A set of numbers, as a map of struct{} in memory. Package btree: a row of numbers beside a pager. Package btree: Pages. -/
import Derived.Test.YtkdhlofcdcnjgaaGreatGL
import Derived.Maps.OwnSet
import Derived.Test.YtkdhlofcdcnjgaaGreatGT
import Derived.Test.YtkdhlofcdcnjgaaGreatBB
namespace Go.Proofs.YtkdhlofcdcnjgaaGreat
set_option maxRecDepth 100000
open Go.ChangeShapes Go.WideShapes Go.ChangeAt Go.RowKit Go.PlainAid Go.ChangeMaps Go.MapKept
open Go.WideElems (rd rg pl)
open Go.Maps (Keyed)
namespace MZ
/-- How a value in the map reads. -/
def rdV (v : Value) : Option (DataW Unit × List MemPlace) := match v with | .agg ⟨[]⟩ => some (.lit (.bool true), []) | _ => none
theorem rdV_inv {v : Value} {y : DataW Unit × List MemPlace} (h : rdV v = some y) : v = .agg #[] := by
  unfold rdV at h
  split at h
  · rfl
  · cases h
/-- What the entries read as. -/
noncomputable def Dm (es : Array MapEntry) : DataW Unit := .map ((es.toList.map (rg Tryz.prog 3 rdV)).foldr DataW.insert [])
theorem keyed : Keyed Tryz.prog 3 := Maps.int_keyed Tryz.underlying3
theorem size_Dm (es : Array MapEntry) : Maps.size (Dm es) = es.size := by simp [Maps.size, Dm, length_sorted]
/-- A map holds just these, n of them. -/
structure Is (es : Array MapEntry) (clock n : Nat) (G : Int → Bool) : Prop where
  fit : Go.WideElems.Fit Tryz.prog 3 rdV es clock
  tidy : Maps.Tidy (Dm es)
  size : es.size = n
  has : ∀ k : Int, Maps.has (Dm es) (.int .i64 k) = G k
theorem empty (clock : Nat) : Is #[] clock 0 fun _ => false := ⟨⟨by simp, stamped_empty clock, by simp⟩, Maps.tidy_empty, rfl, fun k => rfl⟩
/-- G, and k. -/
def put (G : Int → Bool) (k : Int) : Int → Bool := fun i => if i = k then true else G i
theorem zero (w : World) : (zeroValue 85).run Tryz.prog w = .ok (.agg #[]) w := by kernel_rfl
/-- _, ok := m[k]. -/
theorem Is.look {es : Array MapEntry} {clock n : Nat} {G : Int → Bool} (h : Is es clock n G) {w : World} {b : Nat} (hb : w.heap[b]? = some (.map es clock)) (k : Int) (hk0 : -9223372036854775808 ≤ k ∧ k ≤ 9223372036854775807) (x : Bool) (hx : G k = x) :
    (Instr.lookup 84 (.map (some b)) (.int .i64 k) true).run Tryz.prog w = .ok (.tuple #[.agg #[], .bool x]) w := by
  subst hx
  have hk : keyOf Tryz.prog 3 (.int .i64 k) = some (.int .i64 k) := Maps.keyOf_int_mk Tryz.underlying3 (WalkArith.wf_i64 hk0)
  rcases Maps.fit_look true keyed Tryz.underlying84 (zero w) hb h.fit hk with ⟨hrun, _, hat⟩ | ⟨e0, y, _, _, hrun, hR, hat, _⟩
  · have h1 : Maps.has (Dm es) (.int .i64 k) = false := Maps.has_false_of_atKey hat
    rw [h.has k] at h1
    rw [h1]
    exact hrun
  · have h1 : Maps.has (Dm es) (.int .i64 k) = true := Maps.has_true_of_atKey hat
    rw [h.has k] at h1
    rw [rdV_inv hR] at hrun
    rw [h1]
    exact hrun
/-- m[k] = struct{}{}. -/
theorem Is.put {es : Array MapEntry} {clock n : Nat} {G : Int → Bool} (h : Is es clock n G) {w : World} {b : Nat} (hb : w.heap[b]? = some (.map es clock)) (hc : n < 9000000000000000000) (k : Int) (hk0 : -9223372036854775808 ≤ k ∧ k ≤ 9223372036854775807) :
    ∃ es' clock', (Instr.mapUpdate 84 (.map (some b)) (.int .i64 k) (.agg #[])).run Tryz.prog w = .ok () (setBlock w b (.map es' clock')) ∧ Is es' clock' (n + (!G k).toNat) (MZ.put G k) := by
  have hk : keyOf Tryz.prog 3 (.int .i64 k) = some (.int .i64 k) := Maps.keyOf_int_mk Tryz.underlying3 (WalkArith.wf_i64 hk0)
  have hsz := h.size
  obtain ⟨es', clock', hrun, F', hput, _⟩ := Maps.fit_store (R' := rdV) (val := .agg #[]) (yv := (.lit (.bool true), [])) keyed Tryz.underlying84 hb h.fit (by unfold maxLen; omega) (fun _ _ _ _ hz => hz) hk rfl
  have hD : Dm es' = (Dm es).put (.int .i64 k) (.lit (.bool true)) := by unfold Dm; rw [hput]; rfl
  have hM : Maps.IsMap (Dm es) := ⟨_, rfl⟩
  have hKL : WideAt.IsKeyLit (.int .i64 k) := by unfold WideAt.IsKeyLit; trivial
  refine ⟨es', clock', hrun, F', ?_, ?_, fun j => ?_⟩
  · rw [hD]
    exact h.tidy.put hKL _
  · rw [← size_Dm es', hD, Maps.size_put h.tidy, h.has k, size_Dm, hsz]
    cases G k <;> rfl
  · rw [hD]
    by_cases e : j = k
    · subst e
      rw [Maps.has_put_same hM hKL]; simp [MZ.put]
    · rw [Maps.has_put_other (by intro c; exact e (by simpa using c)), h.has j]; simp [MZ.put, e]
end MZ
end Go.Proofs.YtkdhlofcdcnjgaaGreat
namespace Go.Proofs.YtkdhlofcdcnjgaaGreat
set_option maxRecDepth 100000
open Go.ChangeShapes Go.WideShapes Go.ChangeAt Go.RowKit Go.PlainAid Go.Shelf
open Go.Sort (grow)

/-- How many numbers there are below. -/
def cG (G : Int → Bool) : Nat → Nat
  | 0 => 0
  | m + 1 => cG G m + (G m).toNat
theorem cG_le (G : Int → Bool) : ∀ m, cG G m ≤ m
  | 0 => Nat.le_refl _
  | m + 1 => by
    have := cG_le G m
    show cG G m + (G m).toNat ≤ _
    cases G m <;> simp <;> omega
theorem cG_put (G : Int → Bool) (k : Int) (h0 : 0 ≤ k) (hk : G k = false) : ∀ m : Nat, cG (MZ.put G k) m = cG G m + (decide (k < m)).toNat
  | 0 => by
    rw [decide_eq_false (by omega)]
    rfl
  | m + 1 => by
    show cG (MZ.put G k) m + (MZ.put G k m).toNat = cG G m + (G m).toNat + _
    rw [cG_put G k h0 hk m]
    unfold MZ.put
    by_cases e : (m : Int) = k
    · rw [if_pos e, decide_eq_false (by omega), decide_eq_true (by omega), e, hk]
    · rw [if_neg e]
      by_cases c : k < (m : Int)
      · rw [decide_eq_true c, decide_eq_true (by omega)]
        omega
      · rw [decide_eq_false c, decide_eq_false (by omega)]
        omega
def rowZ (cur : Array Value) : Obj := .cells cur 3 (0, 0)
/-- A row of numbers of the call's own. -/
def RowZ (lo m : Nat) (v : Value) (Y : List (Nat × Obj)) : Prop :=
  (m = 0 ∧ v = .slice none 0 0 ∧ Y = []) ∨ ∃ g cap cur, v = .slice (some ⟨g, 0, none⟩) m cap ∧ Y = [(g, rowZ cur)] ∧ lo ≤ g ∧ m ≤ cap ∧ cap ≤ maxLen ∧ cur.size = cap * 1
def appZ (vs : Array Value) : Sem Value := Builtin.append_ #[41, 41] 41 vs
theorem app_z (vs : Array Value) : Builtin.append_ #[41, 41] 41 vs = appZ vs := rfl
def intO (x : Int) : Obj := .cells #[.int .i64 x] 3 (0, 0)
section
variable {w0 w w' : World} {pp n c tb : Nat} {V : Int → ByteArray} {R : List (Nat × Obj)} {i : Int}
set_option maxHeartbeats 1000000 in
/-- A number more. -/
theorem z_push {m : Nat} {v : Value} {Rw Y : List (Nat × Obj)} (H : PV w0 pp n c V (Rw ++ Y) w) (hr : RowZ w0.heap.size m v Rw) (hap : ∀ y ∈ Rw, ∀ z ∈ Y, z.1 ≠ y.1) (x : Int) (hlen : m ≤ 4294967296) :
    ∃ g cap cur w2, (appZ #[v, .slice (some ⟨w.heap.size, 0, none⟩) 1 1]).run Tryz.prog (w.alloc (intO x)) = .ok (.slice (some ⟨g, 0, none⟩) (m + 1) cap) w2 ∧
      PV w0 pp n c V ((g, rowZ cur) :: Y) w2 ∧ RowZ w0.heap.size (m + 1) (.slice (some ⟨g, 0, none⟩) (m + 1) cap) [(g, rowZ cur)] ∧ ∀ z ∈ Y, z.1 ≠ g := by
  obtain ⟨xs, hown⟩ : ∃ xs, w.ownsRow w0.heap.size 3 1 v m xs := by
    rcases hr with ⟨rfl, rfl, rfl⟩ | ⟨g, cap, cur, rfl, rfl, h1, h2, h3, h4⟩
    · exact ⟨[], rfl, .inl ⟨rfl, rfl⟩⟩
    · exact ⟨cur.toList.take (m * 1), by rw [List.length_take, Array.length_toList]; omega, .inr ⟨g, cap, cur, rfl, h1, H.mem (x := (g, rowZ cur)) (by simp), h2, h3, h4, rfl⟩⟩
  have hn := H.below.size
  have hlt := fun (z : Nat × Obj) (hz : z ∈ Y) => (Array.getElem?_eq_some_iff.1 (H.mem (x := z) (List.mem_append_right _ hz))).1
  obtain ⟨i0, hi, hz0, hz1, hz2⟩ := info_parts info_intM
  have hq := heap_alloc_new w (intO x)
  have hba : Below w.heap.size w (w.alloc (intO x)) := by go_grown
  obtain ⟨g, cap, w2, hrn, h2, h3, h4, _⟩ := run_append_lies (P := Tryz.prog) (w := w.alloc (intO x)) 41 41 w0.heap.size 3 i0 _ 1 8 Tryz.underlying41 hi hz0 hz1 hz2 (by simp [Value.cells]) (by decide) v m xs (World.ownsRow.alloc hown _) ⟨w.heap.size, 0, none⟩ 1 1 [.int .i64 x] rfl
    (World.news_of_block hq) (fun u hu => by rw [List.mem_singleton] at hu; rw [hu]; rfl) (by decide) (by unfold maxLen; omega) (by omega) (by rw [World.size_alloc]; omega) _ rfl
  have hbel : Below w0.heap.size w0 w2 := H.below.trans ((hba.mono hn).grown h3 (by rw [World.size_alloc]; omega) (fun k e => (hown.lt k e).1))
  obtain ⟨_, hh⟩ := h2
  rcases hh with ⟨hz, h00⟩ | ⟨g2, cap2, cur2, hv, hlo, hgb, k1, k2, k3, k4⟩
  · omega
  · cases hv
    have hsz : w.heap.size ≤ w2.heap.size := Nat.le_trans hba.size h3.size
    have hoth : ∀ k, k < w.heap.size → v.ownBlock ≠ some k → w2.heap[k]? = w.heap[k]? := fun k hk hne => (h3.block k (Nat.lt_of_lt_of_le hk hba.size) (fun e => hne e.symm)).trans (hba.block k hk)
    refine ⟨g, cap, cur2, w2, hrn, ?_, .inr ⟨g, cap, cur2, rfl, rfl, hlo, k1, k2, k3⟩, ?_⟩
    · rcases hr with ⟨rfl, rfl, rfl⟩ | ⟨g1, cap1, cur1, rfl, rfl, _⟩
      · have hg2 : w.heap.size ≤ g := by
          rcases h4 with h | h
          · cases h
          · rw [h, World.size_alloc]; omega
        exact PV.add (R := Y) H ⟨h3.os.trans hba.os, h3.tape.trans hba.tape, h3.output.trans hba.output, hsz, fun k hk => hoth k hk (by simp [Value.ownBlock])⟩ hg2 hgb
      · have hne : pp ≠ g1 := PV.ne (x := (g1, rowZ cur1)) H (by simp) rfl (by decide)
        have hg2 : g = g1 ∨ w.heap.size ≤ g := by
          rcases h4 with h | h
          · exact .inl (Option.some.inj (by simpa [Value.ownBlock] using h)).symm
          · exact .inr (by rw [h, World.size_alloc]; omega)
        exact PV.swap (R := Y) H (fun z hz => hap (g1, rowZ cur1) (by simp) z hz) hne hsz (fun k hk hkb => hoth k hk (by simp [Value.ownBlock]; omega)) hg2 hgb hbel
    · intro z hz e
      rcases h4 with h | h
      · rcases hr with ⟨rfl, rfl, rfl⟩ | ⟨g1, cap1, cur1, rfl, rfl, _⟩
        · cases h
        · have h : some g1 = some g := by simpa [Value.ownBlock] using h
          cases h
          exact hap (_, rowZ cur1) List.mem_cons_self z hz e
      · have := hlt z hz
        rw [World.size_alloc] at h
        omega
end
end Go.Proofs.YtkdhlofcdcnjgaaGreat
namespace Go.Proofs.YtkdhlofcdcnjgaaGreat
set_option maxRecDepth 100000
open Go.ChangeShapes Go.WideShapes Go.ChangeAt Go.RowKit Go.PlainAid Go.Shelf
open Go.Sort (grow)

attribute [local go_sem ↓ high] store_n app_z
attribute [local go_sem] Oper.semAt_some
section
variable {w0 w w' : World} {pp n c tb : Nat} {V : Int → ByteArray} {R : List (Nat × Obj)} {i : Int}
theorem PV.setMap {b : Nat} {es es' : Array MapEntry} {clock clock' : Nat} (H : PV w0 pp n c V ((b, .map es clock) :: R) w) (hR : ∀ x ∈ R, x.1 ≠ b) (h0 : w0.heap.size ≤ b) : PV w0 pp n c V ((b, .map es' clock') :: R) (ChangeMaps.setBlock w b (.map es' clock')) := by
  have hbb : w.heap[b]? = some (.map es clock) := H.mem List.mem_cons_self
  have hpp := H.neMap List.mem_cons_self
  have hsz : (ChangeMaps.setBlock w b (.map es' clock')).heap.size = w.heap.size := by simp [ChangeMaps.setBlock]
  have hoth : ∀ k, k < w.heap.size → k ≠ b → (ChangeMaps.setBlock w b (.map es' clock')).heap[k]? = w.heap[k]? := fun k _ hk => ChangeMaps.heap_setBlock_other hbb _ hk
  have ho : (ChangeMaps.setBlock w b (.map es' clock')).heap[b]? = some (.map es' clock') := ChangeMaps.heap_setBlock_same hbb _
  have hbel : Below w0.heap.size w0 (ChangeMaps.setBlock w b (.map es' clock')) := by
    have h := H.below
    have hlt := heap_lt hbb
    exact ⟨h.os, h.tape, h.output, by rw [hsz]; exact h.size, fun k hk => (hoth k (Nat.lt_of_lt_of_le hk h.size) (by omega)).trans (h.block k hk)⟩
  exact H.swap hR hpp (Nat.le_of_eq hsz.symm) hoth (.inl rfl) ho hbel
def boxZ (v : Value) : Obj := .cells #[v] 41 (0, 0)
def boxM (mb : Nat) : Obj := .cells #[.map (some mb)] 84 (0, 0)
theorem boxZ_cell {w : World} {b : Nat} {v : Value} (h : w.heap[b]? = some (boxZ v)) : w.cell? ⟨b, 0, none⟩ = some v ∧ w.frozen? ⟨b, 0, none⟩ = false := by
  unfold boxZ at h
  refine ⟨?_, frozen_of_row _ _ _ _ _ h⟩
  rw [cell_of_row _ _ _ _ _ _ h]
  rfl
theorem boxM_cell {w : World} {b mb : Nat} (h : w.heap[b]? = some (boxM mb)) : w.cell? ⟨b, 0, none⟩ = some (.map (some mb)) := by
  unfold boxM at h
  rw [cell_of_row _ _ _ _ _ _ h]
  rfl
theorem cG_zero : ∀ m, cG (fun _ => false) m = 0
  | 0 => rfl
  | m + 1 => by
    show cG (fun _ => false) m + (false).toNat = 0
    rw [cG_zero m]
    rfl
/-- What a round of Pages keeps. -/
def PgK (lo N lb : Nat) (_ : List (NdD × Bool)) (Rc : List (Nat × Obj)) : Prop := ∃ es clock m G v Y, Rc = (lb, boxZ v) :: (lb + 1, .map es clock) :: (lb + 1 + 1, boxM (lb + 1)) :: Y ∧
  MZ.Is es clock m G ∧ m = cG G N ∧ RowZ lo m v Y ∧ ∀ y ∈ Y, y.1 ≠ lb ∧ y.1 ≠ lb + 1 ∧ y.1 ≠ lb + 1 + 1
set_option maxHeartbeats 4000000 in
theorem pages_any (H : PV w0 pp n c V R w) (hT : (tb, treeO pp i) ∈ R) (hn : 1 < n) (hi : 0 ≤ i ∧ i < 16) :
    Calls Tryz.prog 12 #[.pointer (some ⟨tb, 0, none⟩)] w fun e w' => (∃ v, e = .returned v) ∧ PV w0 pp n c V R w' := by
  have hmm := @run_makeMap Tryz.prog
  have H1 := (((H.push (boxZ (.slice none 0 0))).push (.map #[] 0)).push (boxM (w.heap.size + 1)))
  have H2 := (H1.push (boxT tb)).push (boxS ⟨#[]⟩)
  simp only [World.size_alloc] at H2
  have hlo := H.below.size
  have HRB : Hid (∀ y ∈ R, y.1 < w.heap.size) := Lib.hid fun y hy => H.lt hy
  have hH2 := Lib.hid H2
  have hT' := Lib.hid hT
  clear H H1 H2 hT
  refine (callsIn_wide (n := 10)).1 ?_
  refine callsIn_of_wp_marks Tryz.func12 rfl trivial ?_ rfl
  simp only [Tryz.ntmps12, List.size_toArray, List.length_cons, List.length_nil, Nat.reduceAdd, Nat.reduceSub, Array.replicate_succ, Array.replicate_zero, List.push_toArray, List.append_toArray, List.nil_append, List.cons_append]
  refine wpIn_wide.2 ?_
  go_wp2_with fail
  refine (nodes_mk _ _).mono ?_
  rintro e _ ⟨rfl, rfl⟩
  go_wp2_with fail
  obtain ⟨N, hN⟩ : ∃ N : Nat, (N : Int) = 4294967296 := ⟨4294967296, rfl⟩
  obtain ⟨lb, hlb⟩ : ∃ lb, w.heap.size = lb := ⟨_, rfl⟩
  rw [hlb] at hlo HRB hH2
  rw [hlb]
  rw [show (((((w.alloc (.cells #[.slice none 0 0] 41)).alloc (.map #[] 0)).alloc (.cells #[.map (some (lb + 1))] 84)).alloc (boxT tb)).alloc (boxS ⟨#[]⟩)) = (((((w.alloc (boxZ (.slice none 0 0))).alloc (.map #[] 0)).alloc (boxM (lb + 1))).alloc (boxT tb)).alloc (boxS ⟨#[]⟩)) from rfl]
  have H7 : PV w0 pp n c V (((lb + 1 + 1 + 1 + 1, boxS ⟨#[]⟩) :: (lb + 1 + 1 + 1, boxT tb) :: R) ++ [(lb, boxZ (.slice none 0 0)), (lb + 1, .map #[] 0), (lb + 1 + 1, boxM (lb + 1))]) (((((w.alloc (boxZ (.slice none 0 0))).alloc (.map #[] 0)).alloc (boxM (lb + 1))).alloc (boxT tb)).alloc (boxS ⟨#[]⟩)) := hH2.out.sub _ fun y hy => by
    simp only [List.cons_append, List.mem_append, List.mem_cons, List.not_mem_nil, or_false] at hy ⊢
    rcases hy with h | h | h | h | h | h <;> simp [h]
  obtain ⟨W7, hW7⟩ : ∃ W7, (((((w.alloc (boxZ (.slice none 0 0))).alloc (.map #[] 0)).alloc (boxM (lb + 1))).alloc (boxT tb)).alloc (boxS ⟨#[]⟩)) = W7 := ⟨_, rfl⟩
  rw [hW7] at H7
  rw [hW7]
  clear hH2 hW7 hlb
  have hGB := H7.gb
  have hAp : Ap ((lb + 1 + 1 + 1 + 1, boxS ⟨#[]⟩) :: (lb + 1 + 1 + 1, boxT tb) :: R) [(lb, boxZ (.slice none 0 0)), (lb + 1, .map #[] 0), (lb + 1 + 1, boxM (lb + 1))] := fun z hz y hy => by
    have hy1 : lb ≤ y.1 ∧ y.1 ≤ lb + 2 := by
      simp only [List.mem_cons, List.not_mem_nil, or_false] at hy
      rcases hy with rfl | rfl | rfl <;> simp only <;> omega
    rcases List.mem_cons.1 hz with rfl | hz
    · simp only; omega
    · rcases List.mem_cons.1 hz with rfl | hz
      · simp only; omega
      · have := HRB.out z hz
        omega
  refine (wpIn_wide (n := 9)).1 ?_
  refine wpIn_rounds (key := keyN) (encs := encN) (Fit := FitX) ((lb + 1 + 1 + 1 + 1, boxS ⟨#[]⟩) :: (lb + 1 + 1 + 1, boxT tb) :: R) [(lb, boxZ (.slice none 0 0)), (lb + 1, .map #[] 0), (lb + 1 + 1, boxM (lb + 1))] (gf := 74) (lb := #[.pointer (some ⟨lb + 1 + 1 + 1, 0, none⟩), .pointer (some ⟨lb + 1 + 1 + 1 + 1, 0, none⟩)]) rfl (enters_of Tryz.func74 (by kernel_rfl) rfl) (fun _ => rfl) H7 (hGB.sub fun y hy => List.mem_append_left _ hy) (hGB.sub fun y hy => List.mem_append_right _ hy)
    (PgK w0.heap.size N lb) (fun _ _ _ => False) ⟨⟨#[], 0, 0, fun _ => false, .slice none 0 0, [], rfl, MZ.empty 0, (cG_zero N).symm, .inl ⟨rfl, rfl, rfl⟩, fun y hy => by cases hy⟩, hAp⟩
    (fun xs => xs = visA V n i ⟨#[]⟩) (fun xs => xs <+: visA V n i ⟨#[]⟩)
    (fun K' Kx' R' W hY hK H => nodes_seq (tb := tb) (bt := lb + 1 + 1 + 1) (bf := lb + 1 + 1 + 1 + 1) hn hi ⟨#[]⟩ (by simp [hT'.out]) (by simp) (by simp) (hGB.sub fun y hy => List.mem_append_left _ hy) K' Kx' R' W hY hK H _)
    (fun X1 y a' => ∃ nb : Nat, X1 = [(nb, ndO y.1)] ∧ a' = { tmps := #[.pointer (some ⟨tb, 0, none⟩), undef, .slice none 0 0, .pointer (some ⟨lb, 0, none⟩), .pointer (some ⟨lb + 1 + 1, 0, none⟩), .pointer (some ⟨nb, 0, none⟩), undef, undef, .map (some (lb + 1)), .pointer (some ⟨tb, 0, none⟩), .func (.func 74) #[] #[.pointer (some ⟨lb + 1 + 1 + 1, 0, none⟩), .pointer (some ⟨lb + 1 + 1 + 1 + 1, 0, none⟩)], .agg y.1.cells, errV y.2, undef, undef, undef, undef, undef, undef, undef, undef, undef, undef, undef, undef, undef, undef, undef, undef, undef, undef, undef], defers := [] }) ?assign ?body ?done ?stop
  case assign =>
    intro l x W X' Kc hF hk hK
    obtain ⟨ev, hev⟩ : ∃ ev : Int, (if x.2 = true then (6 : Int) else 0) = ev := ⟨_, rfl⟩
    have he : encN x = #[.agg x.1.cells, .int .i64 ev] := by
      unfold encN errV
      rw [hev]
    rw [he]
    have hst := store_nd_fresh W x.1
    obtain ⟨W5, hW5⟩ : ∃ W5, W.alloc (ndO x.1) = W5 := ⟨_, rfl⟩
    rw [hW5] at hst
    gi_wp2
    refine hK _ _ _ (.inr ⟨ndO x.1, rfl, hW5.symm, rfl⟩) ⟨W.heap.size, rfl, ?_⟩
    unfold errV
    rw [hev]
  case body =>
    rintro l r pre y X' X1 R' a' W ⟨⟨es, clock, m, G, v, Y, rfl, hIs, hm, hr, hY⟩, hA⟩ hF ⟨nb, rfl, rfl⟩ hGX hGR h
    have c1 := boxM_cell (h.mem (x := (lb + 1 + 1, boxM (lb + 1))) (by simp))
    have hnum := hF.num
    obtain ⟨d0, _⟩ := nd_cells (h.mem (x := (nb, ndO y.1)) (by simp))
    simp only at d0
    have hmp := h.mem (x := (lb + 1, .map es clock)) (by simp)
    obtain ⟨b, hb⟩ : ∃ b, G y.1.at_ = b := ⟨_, rfl⟩
    have hlk := hIs.look hmp y.1.at_ ⟨by omega, by omega⟩ b hb
    have hcl : lb + 1 + 1 < W7.heap.size := H7.lt (x := (lb + 1 + 1, boxM (lb + 1))) (by simp)
    have H1 := h.push (.cells #[] 85)
    have hmN := cG_le G N
    cases b with
    | true =>
      have HZ : Hid (∃ R', (PgK w0.heap.size N lb (pre ++ [keyN y]) R' ∧ Ap X' R') ∧ GB W7.heap.size R' ∧ PV w0 pp n c V ((W7.heap.size + 1, .loop r) :: (W7.heap.size, .deferred (some [])) :: (X' ++ R')) (W.alloc (.cells #[] 85))) :=
        Lib.hid ⟨_, ⟨⟨es, clock, m, G, v, Y, rfl, hIs, hm, hr, hY⟩, fun z hz => hA z (by simp [hz])⟩, hGR, H1.sub _ fun y hy => by
          simp only [List.mem_cons, List.mem_append, List.cons_append, List.nil_append] at hy ⊢
          rcases hy with h | h | h | h | h | h | h <;> simp [h]⟩
      clear h H1 hb hIs hA hGR hr hY hm hmN
      gi_wp2
      exact HZ.out
    | false =>
      obtain ⟨es', clock', hup, hIs'⟩ := hIs.put (H1.mem (x := (lb + 1, .map es clock)) (by simp)) (by omega) y.1.at_ ⟨by omega, by omega⟩
      have H2 := (H1.sub ((lb + 1, .map es clock) :: (nb, ndO y.1) :: (W7.heap.size + 1, .loop r) :: (W7.heap.size, .deferred (some [])) :: (X' ++ ((lb, boxZ v) :: (lb + 1 + 1, boxM (lb + 1)) :: Y))) fun y hy => by
        simp only [List.mem_cons, List.mem_append, List.cons_append, List.nil_append] at hy ⊢
        rcases hy with h | h | h | h | h | h | h <;> simp [h]).setMap (es' := es') (clock' := clock') (fun q hq => by
          simp only [List.mem_cons, List.mem_append] at hq
          rcases hq with rfl | rfl | rfl | hq | rfl | rfl | hq
          · exact hA (nb, ndO y.1) (by simp) (lb + 1, .map es clock) (by simp)
          · simp only; omega
          · simp only; omega
          · exact hA q (by simp [hq]) (lb + 1, .map es clock) (by simp)
          · simp only; omega
          · simp only; omega
          · exact (hY q hq).2.1) (by omega)
      obtain ⟨W2, hW2⟩ : ∃ W2, ChangeMaps.setBlock (W.alloc (.cells #[] 85)) (lb + 1) (.map es' clock') = W2 := ⟨_, rfl⟩
      rw [hW2] at H2 hup
      obtain ⟨l1, _⟩ := boxZ_cell (H2.mem (x := (lb, boxZ v)) (by simp))
      obtain ⟨g, cap, cur, w3, hrun, H3, hr3, hg3⟩ := z_push (Rw := Y) (Y := (lb + 1, .map es' clock') :: (W7.heap.size + 1, .loop r) :: (W7.heap.size, .deferred (some [])) :: (X' ++ [(lb, boxZ v), (lb + 1 + 1, boxM (lb + 1))])) (H2.sub _ fun y hy => by
        simp only [List.mem_cons, List.mem_append, List.not_mem_nil, or_false] at hy ⊢
        rcases hy with h | h | h | h | h | h | h <;> simp [h]) hr (fun y hy z hz => by
          simp only [List.mem_cons, List.mem_append, List.not_mem_nil, or_false] at hz
          rcases hz with rfl | rfl | rfl | hz | rfl | rfl
          · exact (hY y hy).2.1.symm
          · rcases hGR y (by simp [hy]) with hc | hc
            · exact fun e => by
                have q1 := h.mem (x := (W7.heap.size + 1, .loop r)) (by simp)
                have q2 := h.mem (x := y) (by simp [hy])
                rw [← e, q1] at q2
                rw [← Option.some.inj q2] at hc
                cases hc
            · exact hc.2.symm
          · rcases hGR y (by simp [hy]) with hc | hc
            · exact fun e => by
                have q1 := h.mem (x := (W7.heap.size, .deferred (some []))) (by simp)
                have q2 := h.mem (x := y) (by simp [hy])
                rw [← e, q1] at q2
                rw [← Option.some.inj q2] at hc
                cases hc
            · exact hc.1.symm
          · exact hA z (by simp [hz]) y (by simp [hy])
          · exact (hY y hy).1.symm
          · exact (hY y hy).2.2.symm) y.1.at_ (by omega)
      unfold intO at hrun
      obtain ⟨k1, k2⟩ := boxZ_cell (H3.mem (x := (lb, boxZ v)) (by simp))
      have H4 := (H3.sub ((lb, boxZ v) :: (g, rowZ cur) :: (lb + 1, .map es' clock') :: (W7.heap.size + 1, .loop r) :: (W7.heap.size, .deferred (some [])) :: (X' ++ [(lb + 1 + 1, boxM (lb + 1))])) fun y hy => by
        simp only [List.mem_cons, List.mem_append, List.not_mem_nil, or_false] at hy ⊢
        rcases hy with h | h | h | h | h | h | h <;> simp [h]).into (o := 0) (v := .slice (some ⟨g, 0, none⟩) (m + 1) cap) (fun y hy => by
          simp only [List.mem_cons, List.mem_append, List.not_mem_nil, or_false] at hy
          rcases hy with rfl | rfl | rfl | rfl | hy | rfl
          · exact fun e => hg3 (lb, boxZ v) (by simp) e.symm
          · simp only; omega
          · simp only; omega
          · simp only; omega
          · exact hA y (by simp [hy]) (lb, boxZ v) (by simp)
          · simp only; omega) (by decide) hlo
      have HZ : Hid (∃ R', (PgK w0.heap.size N lb (pre ++ [keyN y]) R' ∧ Ap X' R') ∧ GB W7.heap.size R' ∧ PV w0 pp n c V ((W7.heap.size + 1, .loop r) :: (W7.heap.size, .deferred (some [])) :: (X' ++ R')) (w3.setCell ⟨lb, 0, none⟩ (.slice (some ⟨g, 0, none⟩) (m + 1) cap))) :=
        Lib.hid ⟨(lb, boxZ (.slice (some ⟨g, 0, none⟩) (m + 1) cap)) :: (lb + 1, .map es' clock') :: (lb + 1 + 1, boxM (lb + 1)) :: [(g, rowZ cur)], ⟨⟨es', clock', m + 1, MZ.put G y.1.at_, _, _, rfl, by rw [hb] at hIs'; exact hIs', by
            rw [cG_put G _ (by omega) hb N, decide_eq_true (by omega), hm]
            rfl, hr3, fun y hy => by
              rw [List.mem_singleton] at hy
              subst hy
              exact ⟨fun e => hg3 (lb, boxZ v) (by simp) e.symm, fun e => hg3 (lb + 1, .map es' clock') (by simp) e.symm, fun e => hg3 (lb + 1 + 1, boxM (lb + 1)) (by simp) e.symm⟩⟩, fun z hz y hy => by
              simp only [List.mem_cons, List.not_mem_nil, or_false] at hy
              rcases hy with rfl | rfl | rfl | rfl
              · exact hA z (by simp [hz]) (lb, boxZ v) (by simp)
              · exact hA z (by simp [hz]) (lb + 1, .map es clock) (by simp)
              · exact hA z (by simp [hz]) (lb + 1 + 1, boxM (lb + 1)) (by simp)
              · exact hg3 z (by simp [hz])⟩, fun y hy => by
              simp only [List.mem_cons, List.not_mem_nil, or_false] at hy
              rcases hy with rfl | rfl | rfl | rfl
              · exact .inl rfl
              · exact .inr ⟨by simp only; omega, by simp only; omega⟩
              · exact .inl rfl
              · exact .inl rfl, H4.sub _ fun y hy => by
              simp only [List.mem_cons, List.mem_append, List.not_mem_nil, or_false] at hy ⊢
              rcases hy with h | h | h | h | h | h | h <;> simp [h, boxZ]⟩
      have HW2 := Lib.hid hW2
      have c2 := boxM_cell (H1.mem (x := (lb + 1 + 1, boxM (lb + 1))) (by simp))
      obtain ⟨d1, _⟩ := nd_cells (H1.mem (x := (nb, ndO y.1)) (by simp))
      simp only at d1
      obtain ⟨d2, _⟩ := nd_cells (H2.mem (x := (nb, ndO y.1)) (by simp))
      simp only at d2
      clear h H1 H2 H3 H4 hb hIs hIs' hA hGR hr hY hm hmN hr3 hg3 hW2
      gi_wp2
      exact HZ.out
  case done =>
    intro xs R' W hS hK h hne
    obtain ⟨es, clock, m, G, v, Y, rfl, _⟩ := hK
    have h3 := h.obj (o' := .deferred none) hne rfl rfl H7.below.size
    have hd := h.mem (x := (W7.heap.size, .deferred (some []))) (by simp)
    have k1 := (boxZ_cell (h.mem (x := (lb, boxZ v)) (by simp))).1
    have HP := Lib.hid (And.intro (h3.sub R fun y hy => by simp [hy]) hd)
    clear h h3 hd hS hne
    go_wp2_with fail
    refine ⟨by simp, .inl ⟨_, _, rfl, run_takeDeferred HP.out.2, ?_⟩⟩
    exact ⟨v, by simp [results, Tryz.results12, go_sem], ⟨_, rfl⟩, HP.out.1⟩
  case stop =>
    intro cd xs R' W hSp hK h hne
    exact hK.elim
end
end Go.Proofs.YtkdhlofcdcnjgaaGreat
