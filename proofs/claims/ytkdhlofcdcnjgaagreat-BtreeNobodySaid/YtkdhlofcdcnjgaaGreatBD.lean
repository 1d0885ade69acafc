/- Package btree: the way to a key. Package btree: a record put into the last page of a way. Package btree: pages that are too full, cut into two, from the last one up. Package btree: Put, Get. Package btree: Get. -/
import Derived.Test.YtkdhlofcdcnjgaaGreatBC
import Derived.Test.YtkdhlofcdcnjgaaGreatBA
namespace Go.Proofs.YtkdhlofcdcnjgaaGreat
set_option maxRecDepth 100000
open Go.ChangeShapes Go.WideShapes Go.ChangeAt Go.RowKit Go.PlainAid Go.Shelf
open Go.Sort (grow)

attribute [local go_sem ↓ high] store_n
/-- The cells of a row of pages. -/
def flatN (ns : List NdM) : List Value := ns.flatMap fun x => x.cells.toList
theorem flatN_len (ns : List NdM) : (flatN ns).length = ns.length * 6 := by
  induction ns with
  | nil => rfl
  | cons x t ih =>
    have e : flatN (x :: t) = x.cells.toList ++ flatN t := rfl
    rw [e, List.length_append, ih, List.length_cons]
    show 6 + _ = _
    omega
theorem flatN_app (A B : List NdM) : flatN (A ++ B) = flatN A ++ flatN B := List.flatMap_append
theorem flatN_at : ∀ (ns : List NdM) (i : Nat) (x : NdM), ns[i]? = some x → ∀ t, t < 6 → (flatN ns)[i * 6 + t]? = x.cells[t]?
  | [], i, x, h => by cases h
  | y :: l, 0, x, h => by
    cases h
    intro t ht
    have e : flatN (y :: l) = y.cells.toList ++ flatN l := rfl
    rw [e, Nat.zero_mul, Nat.zero_add, List.getElem?_append_left (by show t < 6; exact ht), Array.getElem?_toList]
  | y :: l, i + 1, x, h => by
    intro t ht
    have := flatN_at l i x (by simpa using h) t ht
    have e : flatN (y :: l) = y.cells.toList ++ flatN l := rfl
    rw [e, List.getElem?_append_right (by show 6 ≤ _; omega), show (i + 1) * 6 + t - y.cells.toList.length = i * 6 + t by show (i + 1) * 6 + t - 6 = _; omega]
    exact this
theorem flatN_one (ns : List NdM) : ∀ u ∈ flatN ns, u.oneCell' = true := by
  intro u hu
  obtain ⟨x, _, hx⟩ := List.mem_flatMap.1 hu
  exact nd_one x u hx
def wayO (cur : Array Value) : Obj := .cells cur 70 (0, 0)
def RowN (cur : Array Value) (ns : List NdM) : Prop := cur.toList.take (ns.length * 6) = flatN ns
theorem RowN.at {cur : Array Value} {ns : List NdM} (h : RowN cur ns) {i : Nat} {x : NdM} (hx : ns[i]? = some x) (t : Nat) (ht : t < 6) : cur[i * 6 + t]? = x.cells[t]? := by
  have hi := (List.getElem?_eq_some_iff.1 hx).1
  rw [← flatN_at ns i x hx t ht, ← h, List.getElem?_take_of_lt (by omega), Array.getElem?_toList]
theorem nodeIs_of {w : World} {b : Nat} {cur : Array Value} {ns : List NdM} (h : w.heap[b]? = some (wayO cur)) (hr : RowN cur ns) {i : Nat} {x : NdM} (hx : ns[i]? = some x) (hk : RdP w x.sl x.L) (hl : x.L.length ≤ 4096) : NdIs w b (i * 6) x := by
  have hc := fun t ht => hr.at hx t ht
  unfold wayO at h
  refine ⟨(Array.getElem?_eq_some_iff.1 h).1, ?_, ?_, ?_, ?_, ?_, ?_, hk, hl⟩ <;> rw [cell_of_row _ _ _ _ _ _ h]
  · exact hc 0 (by omega)
  · exact hc 1 (by omega)
  · exact hc 2 (by omega)
  · exact hc 3 (by omega)
  · exact hc 4 (by omega)
  · exact hc 5 (by omega)
/-- A page of a way, as it was read. -/
structure UpOk (RL : List (Nat × Obj)) (x : NdM) : Prop where
  lst : ∃ g, x.sl = some ⟨g, 0, none⟩ ∧ (g, rowO x.L) ∈ RL
  c : x.c = x.L.length
  law : Lawful x.level x.low x.high x.L
  top : x.level ≤ 255
  at_ : 2 ≤ x.at_ ∧ x.at_ ≤ 1023
  next : ∃ t : Nat, x.next = (t : Int) ∧ t < x.L.length
  mod : Mod x.L
  small : x.L.length ≤ 255
theorem UpOk.mono {RL RL' : List (Nat × Obj)} {x : NdM} (h : UpOk RL x) (hs : ∀ y ∈ RL, y ∈ RL') : UpOk RL' x := by
  obtain ⟨⟨g, a, b⟩, h2, h3, h4, h5, h6, h7, h8⟩ := h
  exact ⟨⟨g, a, hs _ b⟩, h2, h3, h4, h5, h6, h7, h8⟩
theorem UpOk.kn {RL : List (Nat × Obj)} {x : NdM} (h : UpOk RL x) : Kn RL x.sl x.L := by
  obtain ⟨g, a, b⟩ := h.lst
  rw [a]
  exact Kn.of b
theorem UpOk.pos {RL : List (Nat × Obj)} {x : NdM} (h : UpOk RL x) : 0 < x.L.length := by
  obtain ⟨t, _, h⟩ := h.next
  omega
/-- A way's row. -/
def WayR (lo : Nat) (ns : List NdM) (va : Value) (Rw : List (Nat × Obj)) : Prop :=
  (ns = [] ∧ va = .slice none 0 0 ∧ Rw = []) ∨ ∃ g cap cur, va = .slice (some ⟨g, 0, none⟩) ns.length cap ∧ Rw = [(g, wayO cur)] ∧ lo ≤ g ∧ ns.length ≤ cap ∧ cap ≤ maxLen ∧ cur.size = cap * 6 ∧ RowN cur ns
structure WayK (w0 : World) (ns : List NdM) (va : Value) (Rw RL R : List (Nat × Obj)) : Prop where
  row : WayR w0.heap.size ns va Rw
  up : ∀ x ∈ ns, UpOk RL x
  apart : ∀ y ∈ Rw, ∀ z ∈ RL ++ R, z.1 ≠ y.1
/-- The page with records that a key's way leads to. -/
def wayA (V : Int → ByteArray) (n : Nat) (i : Int) (key : ByteArray) : Option NdD :=
  if rootZ (V 1) i = 0 then none else match rdN V (outB n (V 0)) (rootM (rootZ (V 1) i)).D with
    | (_, true) => none
    | (y, false) => leafP V (outB n (V 0)) key 255 y
def lenV : Value → Nat
  | .slice _ n _ => n
  | _ => 0
theorem up_of {w0 W : World} {pp n c g : Nat} {V : Int → ByteArray} {R RL : List (Nat × Obj)} {x y : NdM} (H : PV w0 pp n c V R W) (hr : rdP V (outB n (V 0)) x.D = some (y.level, y.L)) (hG : Got x y g) (hg : (g, rowO y.L) ∈ RL) (hz : x.next = 0) : UpOk RL y := by
  obtain ⟨ho, hu, hl, hlv, hlaw⟩ := rdP_some hr
  have hin : 2 ≤ x.at_ ∧ x.at_ < n := by
    have ho : outB n (V 0) x.at_ = true := ho
    unfold outB at ho
    simp only [Bool.and_eq_true, decide_eq_true_eq] at ho
    omega
  have hpg := H.pages
  have hsz := H.size (k := x.at_) (by omega) hin.2
  have hlen := unpP_len hu
  have hpos : 0 < y.L.length := by
    by_cases h1 : y.level = 1
    · exact (recB_iff.1 (hlaw.recs h1)).2
    · have := (lnkB_iff.1 (hlaw.links h1)).2.1
      omega
  have hlaw2 : Lawful y.level y.low y.high y.L := by rw [hG.low, hG.high]; exact hlaw
  refine ⟨⟨g, hG.sl, hg⟩, hG.c, hlaw2, by rw [hl]; exact bt_le _ _, by rw [hG.at_]; omega, ⟨0, by rw [hG.next, hz]; rfl, hpos⟩, unpP_mod (by show (V x.at_).size ≤ _; omega) hu, by omega⟩
section
variable {w0 w w' : World} {pp n c tb : Nat} {V : Int → ByteArray} {R : List (Nat × Obj)} {i : Int}
theorem info_nodeR : (Tryz.prog.info? 70).map (fun i => (i.zero, i.size, i.bytes)) = some (some (.agg #[.int .i64 0, .int .i64 0, .string ⟨#[]⟩, .string ⟨#[]⟩, .slice none 0 0, .int .i64 0]), 6, 80) := by kernel_rfl
def appN (vs : Array Value) : Sem Value := Builtin.append_ #[65, 65] 65 vs
theorem app_n (vs : Array Value) : Builtin.append_ #[65, 65] 65 vs = appN vs := rfl
set_option maxHeartbeats 1000000 in
/-- A page more on a way. -/
theorem way_push {ns : List NdM} {va : Value} {Rw Y : List (Nat × Obj)} (H : PV w0 pp n c V (Rw ++ Y) w) (hr : WayR w0.heap.size ns va Rw) (hap : ∀ y ∈ Rw, ∀ z ∈ Y, z.1 ≠ y.1) (x : NdM) (hlen : ns.length ≤ 255) :
    ∃ wb cap cur w2, (appN #[va, .slice (some ⟨w.heap.size, 0, none⟩) 1 1]).run Tryz.prog (w.alloc (ndO x)) = .ok (.slice (some ⟨wb, 0, none⟩) (ns.length + 1) cap) w2 ∧
      PV w0 pp n c V ((wb, wayO cur) :: Y) w2 ∧ w0.heap.size ≤ wb ∧ ns.length + 1 ≤ cap ∧ cap ≤ maxLen ∧ cur.size = cap * 6 ∧ RowN cur (ns ++ [x]) ∧ ∀ z ∈ Y, z.1 ≠ wb := by
  have hown : w.ownsRow w0.heap.size 70 6 va ns.length (flatN ns) := by
    refine ⟨flatN_len ns, ?_⟩
    rcases hr with ⟨rfl, rfl, rfl⟩ | ⟨g, cap, cur, rfl, rfl, h1, h2, h3, h4, h5⟩
    · exact .inl ⟨rfl, rfl⟩
    · exact .inr ⟨g, cap, cur, rfl, h1, H.mem (x := (g, wayO cur)) (by simp), h2, h3, h4, h5⟩
  have hn := H.below.size
  have hlt := fun (z : Nat × Obj) (hz : z ∈ Y) => H.lt (x := z) (List.mem_append_right _ hz)
  obtain ⟨i0, hi, hz0, hz1, hz2⟩ := info_parts info_nodeR
  have hq := heap_alloc_new w (ndO x)
  have hba : Below w.heap.size w (w.alloc (ndO x)) := by go_grown
  obtain ⟨g, cap, w2, hrn, h2, h3, h4, _⟩ := run_append_lies (P := Tryz.prog) (w := w.alloc (ndO x)) 65 65 w0.heap.size 70 i0 _ 6 80 Tryz.underlying65 hi hz0 hz1 hz2 (by simp [Value.cells]) (by decide) va ns.length (flatN ns) (World.ownsRow.alloc hown _) ⟨w.heap.size, 0, none⟩ 1 1 x.cells.toList rfl
    (World.news_of_block hq) (nd_one x) (by decide) (by unfold maxLen; omega) (by omega) (by rw [World.size_alloc]; omega) _ rfl
  have hbel : Below w0.heap.size w0 w2 := H.below.trans ((hba.mono hn).grown h3 (by rw [World.size_alloc]; omega) (fun k e => (hown.lt k e).1))
  obtain ⟨_, hh⟩ := h2
  rcases hh with ⟨hz, h00⟩ | ⟨g2, cap2, cur2, hv, hlo, hgb, k1, k2, k3, k4⟩
  · omega
  · cases hv
    have hsz : w.heap.size ≤ w2.heap.size := Nat.le_trans hba.size h3.size
    have hoth : ∀ k, k < w.heap.size → va.ownBlock ≠ some k → w2.heap[k]? = w.heap[k]? := fun k hk hne => (h3.block k (Nat.lt_of_lt_of_le hk hba.size) (fun e => hne e.symm)).trans (hba.block k hk)
    have hrow : RowN cur2 (ns ++ [x]) := by
      unfold RowN
      rw [flatN_app, List.length_append]
      have e : flatN [x] = x.cells.toList := by simp [flatN]
      rw [e]
      exact k4
    refine ⟨g, cap, cur2, w2, hrn, ?_, hlo, k1, k2, k3, hrow, ?_⟩
    · rcases hr with ⟨rfl, rfl, rfl⟩ | ⟨g1, cap1, cur1, rfl, rfl, _⟩
      · have hg2 : w.heap.size ≤ g := by
          rcases h4 with h | h
          · cases h
          · rw [h, World.size_alloc]; omega
        exact PV.add (R := Y) H ⟨h3.os.trans hba.os, h3.tape.trans hba.tape, h3.output.trans hba.output, hsz, fun k hk => hoth k hk (by simp [Value.ownBlock])⟩ hg2 hgb
      · have hne : pp ≠ g1 := PV.ne (x := (g1, wayO cur1)) H (by simp) rfl (by decide)
        have hg2 : g = g1 ∨ w.heap.size ≤ g := by
          rcases h4 with h | h
          · exact .inl (Option.some.inj (by simpa [Value.ownBlock] using h)).symm
          · exact .inr (by rw [h, World.size_alloc]; omega)
        exact PV.swap (R := Y) H (fun z hz => hap (g1, wayO cur1) (by simp) z hz) hne hsz (fun k hk hkb => hoth k hk (by simp [Value.ownBlock]; omega)) hg2 hgb hbel
    · intro z hz e
      rcases h4 with h | h
      · rcases hr with ⟨rfl, rfl, rfl⟩ | ⟨g1, cap1, cur1, rfl, rfl, _⟩
        · cases h
        · have h : some g1 = some g := by simpa [Value.ownBlock] using h
          cases h
          exact hap (_, wayO cur1) List.mem_cons_self z hz e
      · have := hlt z hz
        rw [World.size_alloc] at h
        omega
/-- What a way leaves. -/
def WayPost (w0 : World) (pp n c : Nat) (V : Int → ByteArray) (R : List (Nat × Obj)) (i : Int) (key : ByteArray) (e : Ending) (w' : World) : Prop :=
  (wayA V n i key = none ∧ (∃ z, e = .returned (.tuple #[.slice none 0 0, .int .i64 z]) ∧ (z = 0 ∨ z = 6) ∧ (z = 0 ↔ rootZ (V 1) i = 0)) ∧ PV w0 pp n c V R w') ∨
  ∃ ns x g wb cap cur RL, rootZ (V 1) i ≠ 0 ∧ wayA V n i key = some x.D ∧ e = .returned (.tuple #[.slice (some ⟨wb, 0, none⟩) (ns.length + 1) cap, .int .i64 0]) ∧
    PV w0 pp n c V ((wb, wayO cur) :: (g, rowO x.L) :: (RL ++ R)) w' ∧ RowN cur (ns ++ [x]) ∧ w0.heap.size ≤ wb ∧ cur.size = cap * 6 ∧ ns.length + 1 ≤ cap ∧ (∀ y ∈ (g, rowO x.L) :: (RL ++ R), y.1 ≠ wb) ∧ (∀ y ∈ RL ++ R, y.1 ≠ g) ∧
    x.sl = some ⟨g, 0, none⟩ ∧ x.level = 1 ∧ UpOk [(g, rowO x.L)] x ∧ (∀ y ∈ ns, UpOk RL y) ∧ (∀ y ∈ ns, 1 < y.level) ∧ ns.length ≤ 255 ∧ (ns = [] → x.at_ = rootZ (V 1) i) ∧ w0.heap.size ≤ g
/-- What is at hand when the root's page was read: n, its error, and what is known of it. -/
def WayN (w0 : World) (n : Nat) (V : Int → ByteArray) (i : Int) (key : ByteArray) (ns : List NdM) (x : NdM) (z : Int) (RX : List (Nat × Obj)) (Y : List (Nat × Obj)) : Prop :=
  (z = 0 ∧ rootZ (V 1) i ≠ 0 ∧ UpOk RX x ∧ (∃ g, RX = [(g, rowO x.L)] ∧ x.sl = some ⟨g, 0, none⟩ ∧ w0.heap.size ≤ g ∧ ∀ y ∈ Y, y.1 ≠ g) ∧ (ns = [] → x.at_ = rootZ (V 1) i) ∧ ∃ k : Nat, x.level ≤ (k : Int) ∧ ns.length + k ≤ 255 ∧ wayA V n i key = leafP V (outB n (V 0)) key k x.D) ∨
  (z = 6 ∧ rootZ (V 1) i ≠ 0 ∧ RX = [] ∧ x.L = [] ∧ wayA V n i key = none) ∨
  (z = 0 ∧ rootZ (V 1) i = 0 ∧ x.at_ = 0 ∧ RX = [] ∧ x.L = [] ∧ wayA V n i key = none)
theorem start_n {key : ByteArray} {R : List (Nat × Obj)} {e : Ending} (h : StartPost w0 pp n c V R i e w') : ∃ x z RX, e = .returned (.tuple #[.agg x.cells, .int .i64 z]) ∧ WayN w0 n V i key [] x z RX R ∧ PV w0 pp n c V (RX ++ R) w' := by
  rcases h with ⟨hz, rfl, H⟩ | ⟨hz, ⟨hP, rfl, H⟩ | ⟨y, g, hP, hG, hf, rfl, H⟩⟩
  · exact ⟨zeroN, 0, [], rfl, .inr (.inr ⟨rfl, hz, rfl, rfl, rfl, by unfold wayA; rw [if_pos hz]⟩), H⟩
  · exact ⟨_, 6, [], rfl, .inr (.inl ⟨rfl, hz, rfl, rfl, by unfold wayA; rw [if_neg hz, rdN_none hP]⟩), H⟩
  · have hu := up_of (RL := [(g, rowO y.L)]) H hP hG List.mem_cons_self rfl
    refine ⟨y, 0, [(g, rowO y.L)], rfl, .inl ⟨rfl, hz, hu, ⟨g, rfl, hG.sl, hf⟩, fun _ => hG.at_, 255, hu.top, Nat.le_refl _, ?_⟩, H⟩
    unfold wayA
    rw [if_neg hz, rdN_some hP hG]
theorem WayN.more {key : ByteArray} {ns : List NdM} {x : NdM} {z : Int} {RX Y Y' : List (Nat × Obj)} (h : WayN w0 n V i key ns x z RX Y) (hy : ∀ g, RX = [(g, rowO x.L)] → (∀ y ∈ Y, y.1 ≠ g) → ∀ y ∈ Y', y.1 ≠ g) : WayN w0 n V i key ns x z RX Y' := by
  rcases h with ⟨a, b, c, ⟨g, d, e, f, h⟩, k, l⟩ | h | h
  · exact .inl ⟨a, b, c, ⟨g, d, e, f, hy g d h⟩, k, l⟩
  · exact .inr (.inl h)
  · exact .inr (.inr h)
theorem towP_lt {key : ByteArray} {L : List Pr} (h : 0 < L.length) : towP key L < L.length := by
  have h1 := posP_le key L
  unfold towP
  split
  · omega
  · next hq =>
    by_cases hh : hitP key L = true
    · obtain ⟨p, hp, _⟩ := hitP_some hh
      exact (List.getElem?_eq_some_iff.1 hp).1
    · have : ¬ 0 < posP key L := fun hp => hq ⟨by simpa using hh, hp⟩
      omega
attribute [local go_sem ↓ high] app_n
set_option maxHeartbeats 8000000 in
theorem way_any (H : PV w0 pp n c V R w) (hT : (tb, treeO pp i) ∈ R) (hn : 1 < n) (hi : 0 ≤ i ∧ i < 16) (key : ByteArray) :
    Calls Tryz.prog 26 #[.pointer (some ⟨tb, 0, none⟩), .string key] w (WayPost w0 pp n c V R i key) := by
  have HS := Lib.hid (start_any H hT hn hi)
  have hlt0 := H.below.size
  have HT := Lib.hid hT
  clear H hT
  go_enter Tryz.func26, Tryz.ntmps26
  go_wp2_with fail
  refine HS.out.mono ?_
  clear HS
  intro e w4 h4
  obtain ⟨x, z, RX, rfl, hN, H4⟩ := start_n (key := key) h4
  have H5 := H4.push (ndO x)
  have hst := store_nd_fresh w4 x
  unfold NdM.cells at hst
  have hnl := H4.below.size
  have hYl : ∀ y ∈ RX ++ R, y.1 ≠ w4.heap.size := fun y hy e => by have := H4.lt hy; omega
  have HN := Lib.hid (And.intro hN (And.intro H5 hYl))
  clear h4 hN H4 H5 hYl
  unfold NdM.cells
  obtain ⟨nb, hnb⟩ : ∃ nb, w4.heap.size = nb := ⟨_, rfl⟩
  rw [hnb] at HN hst hnl
  go_wp2_with fail
  obtain ⟨W5, hW5⟩ : ∃ W5, w4.alloc (ndO x) = W5 := ⟨_, rfl⟩
  rw [hW5] at HN
  rw [hW5]
  clear hst hnb hW5
  go_loopw [6, 8] (fun l e wr => ∃ (ns : List NdM) (x : NdM) (z : Int) (RX Rw RL : List (Nat × Obj)), e = .int .i64 z ∧ Hid (WayK w0 ns l Rw RL ((nb, ndO x) :: (RX ++ R)) ∧ WayN w0 n V i key ns x z RX (Rw ++ ((nb, ndO x) :: (RL ++ R))) ∧ (∀ y ∈ ns, 1 < y.level) ∧ (rootZ (V 1) i = 0 → ns = [])) ∧ ns.length ≤ 255 ∧
    Hid (PV w0 pp n c V ((nb, ndO x) :: (RX ++ (Rw ++ (RL ++ R)))) wr ∧ ∀ y ∈ RX ++ (Rw ++ (RL ++ R)), y.1 ≠ nb)) (fun l _ _ => 256 - lenV l)
  case atStart => exact ⟨[], x, z, RX, [], [], rfl, Lib.hid ⟨⟨.inl ⟨rfl, rfl, rfl⟩, fun _ h => (by cases h), fun _ h => (by cases h)⟩, HN.out.1.more fun g hg h y hy => by
      rcases List.mem_cons.1 hy with rfl | hy
      · have := HN.out.2.2 (g, rowO x.L) (by rw [hg]; simp)
        exact fun e => this e.symm
      · exact h y hy, fun _ h => (by cases h), fun _ => rfl⟩, Nat.zero_le _, Lib.hid ⟨HN.out.2.1, HN.out.2.2⟩⟩
  case round =>
    obtain ⟨ns, x, z, RX, Rw, RL, rfl, HK, hlen, HP⟩ := hrel
    clear HN
    obtain ⟨d0, d1, d2, d3, d4, d5⟩ := nd_cells (HP.out.1.mem List.mem_cons_self)
    simp only at d0 d1 d2 d3 d4 d5
    obtain ⟨hK, hN, hlev, hz0⟩ := HK.out
    rcases hN with ⟨rfl, hr0, hup, ⟨g, rfl, hsl, hgl, hgf⟩, hrt, k, hk, hnk, hwA⟩ | ⟨rfl, hr0, rfl, _, hwA⟩ | ⟨rfl, hr0, ha0, rfl, _, hwA⟩
    · have f0 : (x.at_ != 0) = true := by have := hup.at_; simp; omega
      have hst := store_nd_fresh wr x
      unfold NdM.cells at hst
      by_cases h1 : x.level = 1
      · have f1 : (x.level == 1) = true := by simpa using h1
        have HY : PV w0 pp n c V (Rw ++ ((nb, ndO x) :: (g, rowO x.L) :: (RL ++ R))) wr := HP.out.1.sub _ fun y hy => by
          simp only [List.mem_cons, List.mem_append, List.not_mem_nil, or_false] at hy ⊢
          rcases hy with h | h | h | h | h
          · exact .inr (.inr (.inl h))
          · exact .inl h
          · exact .inr (.inl h)
          · exact .inr (.inr (.inr (.inl h)))
          · exact .inr (.inr (.inr (.inr h)))
        have hap : ∀ y ∈ Rw, ∀ z ∈ (nb, ndO x) :: (g, rowO x.L) :: (RL ++ R), z.1 ≠ y.1 := fun y hy z hz => hK.apart y hy z (by
          simp only [List.mem_cons, List.mem_append, List.not_mem_nil, or_false] at hz ⊢
          rcases hz with h | h | h | h
          · exact .inr (.inl h)
          · exact .inr (.inr (.inl h))
          · exact .inl h
          · exact .inr (.inr (.inr h)))
        obtain ⟨wb, cap, cur, w7, heq, H7, q1, q2, q3, q4, q5, q6⟩ := way_push HY hK.row hap x hlen
        have hlf : wayA V n i key = some x.D := by
          rw [hwA]
          cases k with
          | zero => have := hup.law.pos; omega
          | succ k =>
            unfold leafP
            rw [if_pos (by exact h1)]
        have HX : Hid (WayPost w0 pp n c V R i key (.returned (.tuple #[.slice (some ⟨wb, 0, none⟩) (ns.length + 1) cap, .int .i64 0])) w7) := Lib.hid (.inr ⟨ns, x, g, wb, cap, cur, RL, hr0, hlf, rfl, H7.sub _ (fun y hy => by
            simp only [List.mem_cons] at hy ⊢
            rcases hy with h | h
            · exact .inl h
            · exact .inr (.inr h)), q5, q1, q4, q2, fun y hy => q6 y (List.mem_cons_of_mem _ hy), fun y hy => hgf y (by
              simp only [List.mem_cons, List.mem_append] at hy ⊢
              exact .inr (.inr hy)), hsl, h1, hup, hK.up, hlev, hlen, hrt, hgl⟩)
        unfold ndO NdM.cells at heq
        clear hup hsl hgl hgf hrt hk hwA hK hlev hz0 HK hr0 h1 HY hap H7 q1 q2 q3 q4 q5 q6 hlf hnk
        go_wp2_with fail
        go_returns
        exact HX.out
      · have f1 : (x.level == 1) = false := by simpa using h1
        have hlk := lnkB_iff.1 (hup.law.links h1)
        have hpos := hup.law.pos
        have htop := hup.top
        have hsml := hup.small
        have hNd := ndIs_of (HP.out.1.mem List.mem_cons_self) (HP.out.1.kn (hup.kn.mono fun y hy => by simp at hy; simp [hy])) (by omega)
        have HTW := Lib.hid (toward_any key hNd (risB_srt hup.law.rise))
        have hlt := towP_lt (key := key) hup.pos
        obtain ⟨t, ht⟩ : ∃ t, towP key x.L = t := ⟨_, rfl⟩
        rw [ht] at HTW hlt
        obtain ⟨p, hp⟩ : ∃ p, x.L[t]? = some p := ⟨_, List.getElem?_eq_getElem hlt⟩
        have hpv := hlk.1 p (List.mem_of_getElem? hp)
        have hlv : lenV u6 = ns.length := by
          rcases hK.row with ⟨rfl, rfl, rfl⟩ | ⟨_, _, _, rfl, _⟩ <;> rfl
        have HX := Lib.hid (And.intro hup (And.intro hsl (And.intro hgl (And.intro hgf (And.intro hrt (And.intro hwA (And.intro hr0 (And.intro hlev (And.intro hK (And.intro hlv (And.intro hp (And.intro ht (And.intro h1 hk)))))))))))))
        clear hup hsl hgl hgf hrt hwA hK hlev hz0 HK hr0 h1 hNd hlk hlv hp ht hst hk
        go_wp2_with fail
        refine HTW.out.mono ?_
        rintro e w5 ⟨rfl, hb5⟩
        have H5 := HP.out.1.on hb5
        have H6 := H5.into HP.out.2 (by decide) hnl 5 (.int .i64 (t : Int))
        clear HTW hb5 d0 d1 d2 d3 d4 d5
        obtain ⟨d0, d1, d2, d3, d4, d5⟩ := nd_cells (H5.mem List.mem_cons_self)
        have f5 := nd_thaw (H5.mem List.mem_cons_self) 5
        simp only at d0 d1 d2 d3 d4 d5 f5
        obtain ⟨x', hx'⟩ : ∃ x' : NdM, ({ x with next := (t : Int) } : NdM) = x' := ⟨_, rfl⟩
        have hxc : x'.cells = #[.int .i64 x.at_, .int .i64 x.level, .string x.low, .string x.high, .slice x.sl x.L.length x.c, .int .i64 (t : Int)] := by rw [← hx']; rfl
        have hxe : x'.L = x.L ∧ x'.sl = x.sl ∧ x'.c = x.c ∧ x'.at_ = x.at_ ∧ x'.level = x.level ∧ x'.low = x.low ∧ x'.high = x.high ∧ x'.next = (t : Int) := by rw [← hx']; exact ⟨rfl, rfl, rfl, rfl, rfl, rfl, rfl, rfl⟩
        have H6 : PV w0 pp n c V ((nb, ndO x') :: ([(g, rowO x.L)] ++ (Rw ++ (RL ++ R)))) (w5.setCell ⟨nb, 5, none⟩ (.int .i64 (t : Int))) := by
          unfold ndO
          rw [hxc]
          exact H6
        obtain ⟨W6, hW6⟩ : ∃ W6, w5.setCell ⟨nb, 5, none⟩ (.int .i64 (t : Int)) = W6 := ⟨_, rfl⟩
        rw [hW6] at H6
        have HY : PV w0 pp n c V (Rw ++ ((nb, ndO x') :: (g, rowO x.L) :: (RL ++ R))) W6 := H6.sub _ fun y hy => by
          simp only [List.mem_cons, List.mem_append, List.not_mem_nil, or_false] at hy ⊢
          rcases hy with h | h | h | h | h
          · exact .inr (.inr (.inl h))
          · exact .inl h
          · exact .inr (.inl h)
          · exact .inr (.inr (.inr (.inl h)))
          · exact .inr (.inr (.inr (.inr h)))
        have hK := HX.out.2.2.2.2.2.2.2.2.1
        have hap : ∀ y ∈ Rw, ∀ z ∈ (nb, ndO x') :: (g, rowO x.L) :: (RL ++ R), z.1 ≠ y.1 := fun y hy z hz => by
          simp only [List.mem_cons, List.mem_append] at hz
          rcases hz with rfl | h | h | h
          · exact hK.apart y hy (nb, ndO x) (by simp)
          · exact hK.apart y hy z (by simp [h])
          · exact hK.apart y hy z (by simp [h])
          · exact hK.apart y hy z (by simp [h])
        obtain ⟨wb, cap, cur, w7, heq, H7, q1, q2, q3, q4, q5, q6⟩ := way_push HY hK.row hap x' hlen
        have k6 := nd_cells (HY.mem (x := (nb, ndO x')) (by simp))
        obtain ⟨k0, k1, k2, k3, k4, k5⟩ := k6
        obtain ⟨e1, e2, e3, e4, e5, e6, e7, e8⟩ := hxe
        simp only at k0 k1 k2 k3 k4 k5
        rw [e4] at k0
        rw [e5] at k1
        rw [e6] at k2
        rw [e7] at k3
        rw [e1, e2, e3] at k4
        rw [e8] at k5
        have hst := store_nd_fresh W6 x'
        rw [hxc] at hst
        unfold ndO at heq hst
        rw [hxc] at heq hst
        have hup' : UpOk [(g, rowO x.L)] x' := by
          obtain ⟨a1, a2, a3, a4, a5, a6, a7, a8⟩ := HX.out.1
          refine ⟨by rw [e1, e2]; exact a1, by rw [e1, e3]; exact a2, by rw [e1, e5, e6, e7]; exact a3, by rw [e5]; exact a4, by rw [e4]; exact a5, ⟨t, e8, by rw [e1]; exact hlt⟩, by rw [e1]; exact a7, by rw [e1]; exact a8⟩
        have HB := Lib.hid (below_any H7 (tb := tb) (i := i) (by simp [HT.out]) (by omega) x' (hup'.kn.mono fun y hy => by simp at hy; simp [hy]) (by rw [e5]; have := HX.out.2.2.2.2.2.2.2.2.2.2.2.2.1; omega) (by rw [e1]; omega) t p (by rw [e1]; exact HX.out.2.2.2.2.2.2.2.2.2.2.1) hpv)
        rw [hxc] at HB
        obtain ⟨g0, g1, g2, g3, g4, g5⟩ := nd_cells (H7.mem (x := (nb, ndO x')) (by simp))
        simp only at g0 g1 g2 g3 g4 g5
        rw [e4] at g0
        rw [e5] at g1
        rw [e6] at g2
        rw [e7] at g3
        rw [e1, e2, e3] at g4
        rw [e8] at g5
        have HZ := Lib.hid (And.intro hup' (And.intro hx' (And.intro H7 (And.intro q1 (And.intro q2 (And.intro q3 (And.intro q4 (And.intro q5 q6))))))))
        clear H5 H6 HY hap H7 q1 q2 q3 q4 q5 q6 hup' hx' hxc e1 e2 e3 e4 e5 e6 e7 e8 hK
        go_wp2_with fail
        refine HB.out.mono ?_
        clear HB d0 d1 d2 d3 d4 d5 k0 k1 k2 k3 k4 k5 g0 g1 g2 g3 g4 g5 f5 heq hst
        obtain ⟨xr, hxr⟩ : ∃ xr, kidM x' p (hiM x' t) = xr := ⟨_, rfl⟩
        rw [hxr]
        have hD : x'.D = x.D ∧ x'.level = x.level := by rw [← HZ.out.2.1]; exact ⟨rfl, rfl⟩
        have hxl : xr.level = x.level - 1 ∧ xr.L = [] ∧ xr.next = 0 := by rw [← hxr, ← hD.2]; exact ⟨rfl, rfl, rfl⟩
        have hkd : xr.D = kidN x.D t := by
          have := kid_D (x := x') (j := t) (p := p) (by rw [← HZ.out.2.1]; exact HX.out.2.2.2.2.2.2.2.2.2.2.1)
          rw [hxr, hD.1] at this
          exact this
        have hstep : ∀ k' : Nat, k = k' + 1 → wayA V n i key = match rdN V (outB n (V 0)) xr.D with
            | (_, true) => none
            | (y, false) => leafP V (outB n (V 0)) key k' y := fun k' e => by
          rw [HX.out.2.2.2.2.2.1, e]
          conv => lhs; unfold leafP
          rw [if_neg (show ¬ x.D.level = 1 from HX.out.2.2.2.2.2.2.2.2.2.2.2.2.1), show towP key x.D.L = t from HX.out.2.2.2.2.2.2.2.2.2.2.2.1, ← hkd]
          generalize rdN V (outB n (V 0)) xr.D = r
          obtain ⟨y, b⟩ := r
          cases b <;> rfl
        have hk1 : ∃ k' : Nat, k = k' + 1 := by
          have := HX.out.2.2.2.2.2.2.2.2.2.2.2.2.2
          exact ⟨k - 1, by omega⟩
        obtain ⟨k', rfl⟩ := hk1
        have hstep := hstep k' rfl
        have hwn : ∀ z ∈ (wb, wayO cur) :: (g, rowO x.L) :: (RL ++ R), z.1 ≠ nb := fun z hz e => by
          rcases List.mem_cons.1 hz with rfl | hz
          · exact HZ.out.2.2.2.2.2.2.2.2 (nb, ndO x') List.mem_cons_self e.symm
          · rcases List.mem_cons.1 hz with rfl | hz
            · exact HP.out.2 (g, rowO x.L) (by simp) e
            · exact HP.out.2 z (by simp only [List.mem_append] at hz ⊢; exact .inr (.inr hz)) e
        have hup2 : ∀ z ∈ ns ++ [x'], UpOk ((g, rowO x.L) :: RL) z := fun z hz => by
          rcases List.mem_append.1 hz with hz | hz
          · exact (HX.out.2.2.2.2.2.2.2.2.1.up z hz).mono fun _ h => List.mem_cons_of_mem _ h
          · rw [List.mem_singleton] at hz
            subst hz
            exact HZ.out.1.mono fun y hy => by simp at hy; simp [hy]
        have hlv2 : ∀ z ∈ ns ++ [x'], 1 < z.level := fun z hz => by
          rcases List.mem_append.1 hz with hz | hz
          · exact HX.out.2.2.2.2.2.2.2.1 z hz
          · rw [List.mem_singleton] at hz
            subst hz
            rw [hD.2]
            have := HX.out.2.2.2.2.2.2.2.2.2.2.2.2.1
            omega
        have hln : (ns ++ [x']).length = ns.length + 1 := by simp
        have HU := Lib.hid (And.intro hup2 (And.intro hlv2 (And.intro hwn (And.intro hstep (And.intro hln hxl)))))
        clear hup2 hlv2 hwn hstep hln hkd hD hxr hxl
        rintro e w8 (⟨hP, rfl, H8⟩ | ⟨y, g9, hP, hG, hfr, rfl, H8⟩)
        · have H9 : PV w0 pp n c V ((nb, ndO x') :: ((wb, wayO cur) :: (g, rowO x.L) :: (RL ++ R))) w8 := H8.turn
          obtain ⟨W9, hst2, H10⟩ := H9.storeN HU.out.2.2.1 hnl xr
          have hnone : wayA V n i key = none := by rw [HU.out.2.2.2.1, rdN_none hP]
          have HW := Lib.hid (And.intro H10 hnone)
          unfold NdM.cells at hst2 ⊢
          clear H8 H9 H10 hP hnone
          go_wp2
          go_roundw
          case rel => exact ⟨ns ++ [x'], xr, 6, [], [(wb, wayO cur)], (g, rowO x.L) :: RL, rfl, Lib.hid ⟨⟨.inr ⟨wb, cap, cur, by rw [HU.out.2.2.2.2.1], rfl, HZ.out.2.2.2.1, by rw [HU.out.2.2.2.2.1]; exact HZ.out.2.2.2.2.1, HZ.out.2.2.2.2.2.1, HZ.out.2.2.2.2.2.2.1, HZ.out.2.2.2.2.2.2.2.1⟩, HU.out.1, fun y hy z hz => by
              rw [List.mem_singleton] at hy
              subst hy
              simp only [List.mem_cons, List.mem_append, List.nil_append] at hz
              rcases hz with (h | h) | (h | h)
              · exact HZ.out.2.2.2.2.2.2.2.2 z (by simp [h])
              · exact HZ.out.2.2.2.2.2.2.2.2 z (by simp [h])
              · rw [h]; exact HZ.out.2.2.2.2.2.2.2.2 (nb, ndO x') (by simp)
              · exact HZ.out.2.2.2.2.2.2.2.2 z (by simp [h])⟩, .inr (.inl ⟨rfl, HX.out.2.2.2.2.2.2.1, rfl, HU.out.2.2.2.2.2.2.1, HW.out.2⟩), HU.out.2.1, fun h => absurd h HX.out.2.2.2.2.2.2.1⟩, by rw [HU.out.2.2.2.2.1]; omega, Lib.hid ⟨HW.out.1, HU.out.2.2.1⟩⟩
          case measure =>
            show 256 - (ns.length + 1) < 256 - lenV u6
            rw [HX.out.2.2.2.2.2.2.2.2.2.1]
            omega
        · have hu9 := up_of (RL := [(g9, rowO y.L)]) H8 hP hG List.mem_cons_self HU.out.2.2.2.2.2.2.2
          have hlv9 : y.level ≤ (k' : Int) := by
            have h1 := (rdP_some hP).2.2.2.1
            have h2 : xr.D.level = x.level - 1 := HU.out.2.2.2.2.2.1
            have h3 := HX.out.2.2.2.2.2.2.2.2.2.2.2.2.2
            have h4 := HX.out.2.2.2.2.2.2.2.2.2.2.2.2.1
            omega
          have H9 : PV w0 pp n c V ((nb, ndO x') :: ((g9, rowO y.L) :: (wb, wayO cur) :: (g, rowO x.L) :: (RL ++ R))) w8 := H8.sub _ fun z hz => by
            simp only [List.mem_cons] at hz ⊢
            rcases hz with h | h | h | h
            · exact .inr (.inr (.inl h))
            · exact .inl h
            · exact .inr (.inl h)
            · exact .inr (.inr (.inr h))
          have hn9 : ∀ z ∈ (g9, rowO y.L) :: (wb, wayO cur) :: (g, rowO x.L) :: (RL ++ R), z.1 ≠ nb := fun z hz e => by
            rcases List.mem_cons.1 hz with rfl | hz
            · exact hfr.2 (nb, ndO x') (by simp) e.symm
            · exact HU.out.2.2.1 z hz e
          obtain ⟨W9, hst2, H10⟩ := H9.storeN hn9 hnl y
          have hsome : wayA V n i key = leafP V (outB n (V 0)) key k' y.D := by rw [HU.out.2.2.2.1, rdN_some hP hG]
          have HW := Lib.hid (And.intro H10 (And.intro hsome (And.intro hfr (And.intro hu9 (And.intro hlv9 (And.intro hn9 hG))))))
          unfold NdM.cells at hst2 ⊢
          clear H8 H9 H10 hP hsome hfr hu9 hlv9 hn9 hG
          go_wp2
          go_roundw
          case rel => exact ⟨ns ++ [x'], y, 0, [(g9, rowO y.L)], [(wb, wayO cur)], (g, rowO x.L) :: RL, rfl, Lib.hid ⟨⟨.inr ⟨wb, cap, cur, by rw [HU.out.2.2.2.2.1], rfl, HZ.out.2.2.2.1, by rw [HU.out.2.2.2.2.1]; exact HZ.out.2.2.2.2.1, HZ.out.2.2.2.2.2.1, HZ.out.2.2.2.2.2.2.1, HZ.out.2.2.2.2.2.2.2.1⟩, HU.out.1, fun q hq z hz => by
              rw [List.mem_singleton] at hq
              subst hq
              simp only [List.mem_cons, List.mem_append, List.not_mem_nil, or_false] at hz
              rcases hz with (h | h) | (h | h | h)
              · exact HZ.out.2.2.2.2.2.2.2.2 z (by simp [h])
              · exact HZ.out.2.2.2.2.2.2.2.2 z (by simp [h])
              · rw [h]; exact HZ.out.2.2.2.2.2.2.2.2 (nb, ndO x') (by simp)
              · rw [h]; exact fun e => HW.out.2.2.1.2 (wb, wayO cur) (by simp) e.symm
              · exact HZ.out.2.2.2.2.2.2.2.2 z (by simp [h])⟩, .inl ⟨rfl, HX.out.2.2.2.2.2.2.1, HW.out.2.2.2.1, ⟨g9, rfl, HW.out.2.2.2.2.2.2.sl, HW.out.2.2.1.1, fun z hz => by
              simp only [List.mem_cons, List.mem_append, List.not_mem_nil, or_false] at hz
              rcases hz with h | h | (h | h) | h
              · exact HW.out.2.2.1.2 z (by simp [h])
              · rw [h]; exact HW.out.2.2.1.2 (nb, ndO x') (by simp)
              · exact HW.out.2.2.1.2 z (by simp [h])
              · exact HW.out.2.2.1.2 z (by simp [h])
              · exact HW.out.2.2.1.2 z (by simp [h])⟩, fun h => absurd h (by simp), k', HW.out.2.2.2.2.1, by rw [HU.out.2.2.2.2.1]; omega, HW.out.2.1⟩, HU.out.2.1, fun h => absurd h HX.out.2.2.2.2.2.2.1⟩, by rw [HU.out.2.2.2.2.1]; omega, Lib.hid ⟨HW.out.1, HW.out.2.2.2.2.2.1⟩⟩
          case measure =>
            show 256 - (ns.length + 1) < 256 - lenV u6
            rw [HX.out.2.2.2.2.2.2.2.2.2.1]
            omega
    · clear hK hlev hz0 HK
      have HX : Hid (WayPost w0 pp n c V R i key (.returned (.tuple #[.slice none 0 0, .int .i64 6])) wr) := Lib.hid (.inl ⟨hwA, ⟨6, rfl, .inr rfl, ⟨fun h => (by cases h), fun h => absurd h hr0⟩⟩, HP.out.1.sub _ fun y hy => by simp [hy]⟩)
      clear hr0 hwA
      go_wp2_with fail
      all_goals
        go_returns
        exact HX.out
    · clear hK hlev hz0 HK
      have f0 : (x.at_ != 0) = false := by rw [ha0]; rfl
      have HX : Hid (WayPost w0 pp n c V R i key (.returned (.tuple #[.slice none 0 0, .int .i64 0])) wr) := Lib.hid (.inl ⟨hwA, ⟨0, rfl, .inl rfl, ⟨fun _ => hr0, fun _ => rfl⟩⟩, HP.out.1.sub _ fun y hy => by simp [hy]⟩)
      clear hr0 hwA ha0
      go_wp2_with fail
      go_returns
      exact HX.out
end
end Go.Proofs.YtkdhlofcdcnjgaaGreat
namespace Go.Proofs.YtkdhlofcdcnjgaaGreat
set_option maxRecDepth 100000
open Go.ChangeShapes Go.WideShapes Go.ChangeAt Go.RowKit Go.PlainAid Go.Shelf
open Go.Sort (grow)

theorem getElem_set_ext {α : Type} (l : List α) (i : Nat) (v : α) (j : Nat) : (l.set i v)[j]? = if i = j ∧ j < l.length then some v else l[j]? := by
  rw [List.getElem?_set]
  by_cases h : i = j
  · subst h
    by_cases h2 : i < l.length
    · simp [h2]
    · simp [h2]
  · simp [h]
/-- A page of a way gets another list. -/
theorem RowN.setList {cur : Array Value} {ns : List NdM} (h : RowN cur ns) {i : Nat} {x x' : NdM} (hx : ns[i]? = some x) (v : Value) (hx' : x'.cells = x.cells.setIfInBounds 4 v) (hsz : ns.length * 6 ≤ cur.size) :
    RowN (cur.setIfInBounds (i * 6 + 4) v) (ns.set i x') := by
  have hi := (List.getElem?_eq_some_iff.1 hx).1
  unfold RowN
  rw [List.length_set]
  apply List.ext_getElem?
  intro j
  rw [List.getElem?_take]
  by_cases hj : j < ns.length * 6
  · rw [if_pos hj, Array.toList_setIfInBounds, getElem_set_ext, Array.length_toList]
    obtain ⟨a, t, ht, rfl⟩ : ∃ a t, t < 6 ∧ j = a * 6 + t := ⟨j / 6, j % 6, Nat.mod_lt _ (by decide), by omega⟩
    have ha : a < ns.length := by omega
    obtain ⟨y, hy⟩ : ∃ y, ns[a]? = some y := ⟨_, List.getElem?_eq_getElem ha⟩
    have hc := h.at hy t ht
    by_cases hai : a = i
    · subst hai
      rw [hx] at hy
      cases hy
      have hn : (ns.set a x')[a]? = some x' := by rw [getElem_set_ext, if_pos ⟨rfl, ha⟩]
      rw [flatN_at _ a x' hn t ht, hx', Array.getElem?_setIfInBounds]
      by_cases h4 : t = 4
      · subst h4
        rw [if_pos ⟨rfl, by omega⟩, if_pos rfl, if_pos (by rw [nd_six]; decide)]
      · rw [if_neg (by omega), if_neg (by omega), ← hc, Array.getElem?_toList]
    · have hn : (ns.set i x')[a]? = some y := by rw [getElem_set_ext, if_neg (by omega)]; exact hy
      rw [flatN_at _ a y hn t ht, if_neg (by omega), ← hc, Array.getElem?_toList]
  · rw [if_neg hj, List.getElem?_eq_none (by rw [flatN_len, List.length_set]; omega)]
theorem flatP_set : ∀ (L : List Pr) (i : Nat) (r : Pr), ((flatP L).set (i * 2) (.string r.key)).set (i * 2 + 1) (.string r.val) = flatP (L.set i r)
  | [], i, r => by simp [flatP]
  | p :: t, 0, r => rfl
  | p :: t, i + 1, r => by
    have e : flatP (p :: t) = .string p.key :: .string p.val :: flatP t := rfl
    have e2 : flatP (p :: t.set i r) = .string p.key :: .string p.val :: flatP (t.set i r) := rfl
    rw [e, List.set_cons_succ, e2, ← flatP_set t i r, show (i + 1) * 2 = i * 2 + 1 + 1 by omega]
    rfl
theorem pr_cells {w : World} {b : Nat} {r : Pr} (h : w.heap[b]? = some (prO r)) : w.cell? ⟨b, 0, none⟩ = some (.string r.key) ∧ w.cell? ⟨b, 1, none⟩ = some (.string r.val) := by
  unfold prO at h
  exact ⟨by rw [cell_of_row _ _ _ _ _ _ h]; rfl, by rw [cell_of_row _ _ _ _ _ _ h]; rfl⟩
/-- A page's pairs behind a put. -/
def putB (r : Pr) (L : List Pr) : List Pr := if hitP r.key L = true then L.set (posP r.key L) r else L.take (posP r.key L) ++ r :: L.drop (posP r.key L)
section
variable {w0 w w' : World} {pp n c tb : Nat} {V : Int → ByteArray} {Y : List (Nat × Obj)} {i : Int}
/-- What a put leaves. -/
def PutPost (w0 : World) (pp n c : Nat) (V : Int → ByteArray) (Y : List (Nat × Obj)) (wb cap : Nat) (ns : List NdM) (x : NdM) (r : Pr) (w' : World) : Prop :=
  ∃ x' g' curl cur', PV w0 pp n c V ((wb, wayO cur') :: (g', .cells curl 47 (0, 0)) :: Y) w' ∧ RowN cur' (ns ++ [x']) ∧ cur'.size = cap * 6 ∧ x'.sl = some ⟨g', 0, none⟩ ∧ RowP curl x'.L ∧ x'.L.length ≤ x'.c ∧ x'.L = putB r x.L ∧
    x'.at_ = x.at_ ∧ x'.level = x.level ∧ x'.low = x.low ∧ x'.high = x.high ∧ x'.next = x.next ∧ (∀ y ∈ Y, y.1 ≠ wb) ∧ g' ≠ wb ∧ w0.heap.size ≤ g'
set_option maxHeartbeats 4000000 in
theorem nput_any {wb g cap : Nat} {cur : Array Value} {ns : List NdM} {x : NdM} (H : PV w0 pp n c V ((wb, wayO cur) :: (g, rowO x.L) :: Y) w) (hr : RowN cur (ns ++ [x])) (hcs : cur.size = cap * 6) (hcap : ns.length + 1 ≤ cap)
    (hwb : ∀ y ∈ (g, rowO x.L) :: Y, y.1 ≠ wb) (hgb : ∀ y ∈ Y, y.1 ≠ g) (hsl : x.sl = some ⟨g, 0, none⟩) (hu : UpOk [(g, rowO x.L)] x) (hlb : w0.heap.size ≤ wb) (hlg : w0.heap.size ≤ g) (r : Pr) :
    Calls Tryz.prog 28 #[.pointer (some ⟨wb, ns.length * 6, none⟩), .agg #[.string r.key, .string r.val]] w fun e w' => e = .returned (.tuple #[]) ∧ PutPost w0 pp n c V Y wb cap ns x r w' := by
  have H1 := H.push (prO r)
  have hxi : (ns ++ [x])[ns.length]? = some x := by simp
  have hkn := hu.kn
  have hsm := hu.small
  have hpos := hu.pos
  have hN := nodeIs_of (H1.mem (x := (wb, wayO cur)) (by simp)) hr hxi (H1.kn (hkn.mono fun y hy => by simp at hy; simp [hy])) (by omega)
  obtain ⟨m0, m1⟩ := pr_cells (H1.mem List.mem_cons_self)
  simp only at m0 m1
  have hltg := H.lt (x := (g, rowO x.L)) (by simp)
  have HF := Lib.hid (find_any r.key hN (risB_srt hu.law.rise))
  have HX := Lib.hid (And.intro hr (And.intro hcs (And.intro hwb (And.intro hgb (And.intro hsl (And.intro hu (And.intro hkn (And.intro H1 hltg))))))))
  clear H H1 hN hr hcs hwb hgb hsl hu hkn
  go_enter Tryz.func28, Tryz.ntmps28
  go_wp2_with fail
  refine HF.out.mono ?_
  rintro e w2 ⟨rfl, hb2⟩
  have H2 := HX.out.2.2.2.2.2.2.2.1.on hb2
  clear m0 m1
  obtain ⟨m0, m1⟩ := pr_cells (H2.mem List.mem_cons_self)
  simp only at m0 m1
  have c4 := (nodeIs_of (H2.mem (x := (wb, wayO cur)) (by simp)) HX.out.1 hxi (H2.kn (HX.out.2.2.2.2.2.2.1.mono fun y hy => by simp at hy; simp [hy])) (by omega)).list
  rw [HX.out.2.2.2.2.1] at c4
  obtain ⟨j, hj⟩ : ∃ j, posP r.key x.L = j := ⟨_, rfl⟩
  have hjl := posP_le r.key x.L
  rw [hj] at hjl
  rw [hj]
  cases hh : hitP r.key x.L with
  | true =>
    obtain ⟨q, hq, _⟩ := hitP_some hh
    rw [hj] at hq
    have hjl2 := (List.getElem?_eq_some_iff.1 hq).1
    have hgm := H2.mem (x := (g, rowO x.L)) (by simp)
    unfold rowO at hgm
    simp only at hgm
    obtain ⟨v0, v1⟩ := flatP_at x.L j q hq
    have s0 : w2.cell? ⟨g, j * 2, none⟩ = some (.string q.key) := by rw [cell_of_row _ _ _ _ _ _ hgm]; simpa using v0
    have s1 : w2.cell? ⟨g, j * 2 + 1, none⟩ = some (.string q.val) := by rw [cell_of_row _ _ _ _ _ _ hgm]; simpa using v1
    have s2 : w2.frozen? ⟨g, j * 2, none⟩ = false := frozen_of_row _ _ _ _ _ hgm
    have s3 : w2.frozen? ⟨g, j * 2 + 1, none⟩ = false := frozen_of_row _ _ _ _ _ hgm
    have hRg : ∀ y ∈ (w.heap.size, prO r) :: (wb, wayO cur) :: Y, y.1 ≠ g := fun y hy => by
      rcases List.mem_cons.1 hy with rfl | hy
      · have := HX.out.2.2.2.2.2.2.2.2
        simp only at this ⊢
        omega
      · rcases List.mem_cons.1 hy with rfl | hy
        · exact fun e => HX.out.2.2.1 (g, rowO x.L) (by simp) e.symm
        · exact HX.out.2.2.2.1 y hy
    have H3 := (((H2.drew.sub ((g, rowO x.L) :: (w.heap.size, prO r) :: (wb, wayO cur) :: Y) (fun y hy => by
      simp only [List.mem_cons] at hy ⊢
      rcases hy with h | h | h | h
      · exact .inr (.inr (.inl h))
      · exact .inl h
      · exact .inr (.inl h)
      · exact .inr (.inr (.inr h)))).into hRg (by decide) hlg (j * 2) (.string r.key)).into hRg (by decide) hlg (j * 2 + 1) (.string r.val))
    rw [List.setIfInBounds_toArray, List.setIfInBounds_toArray, flatP_set] at H3
    have hl' : (x.L.set j r).length = x.L.length := List.length_set
    have HQ : Hid (PutPost w0 pp n c V Y wb cap ns x r ((w2.drew.setCell ⟨g, j * 2, none⟩ (.string r.key)).setCell ⟨g, j * 2 + 1, none⟩ (.string r.val))) := Lib.hid ⟨{ x with L := x.L.set j r }, g, (flatP (x.L.set j r)).toArray, cur, H3.sub _ (fun y hy => by
      simp only [List.mem_cons] at hy ⊢
      rcases hy with h | h | h
      · exact .inr (.inr (.inl h))
      · exact .inl h
      · exact .inr (.inr (.inr h))), by
        have h := HX.out.1
        unfold RowN at h ⊢
        rw [List.length_append, List.length_singleton, flatN_app] at h ⊢
        rw [h]
        congr 1
        unfold flatN NdM.cells
        simp only [List.flatMap_cons, List.flatMap_nil, hl'], HX.out.2.1, HX.out.2.2.2.2.1, rowP_self _, by show (x.L.set j r).length ≤ x.c; rw [hl', HX.out.2.2.2.2.2.1.c]; exact Nat.le_refl _, by show x.L.set j r = putB r x.L; unfold putB; rw [if_pos hh, hj], rfl, rfl, rfl, rfl, rfl, fun y hy => HX.out.2.2.1 y (List.mem_cons_of_mem _ hy), HX.out.2.2.1 (g, rowO x.L) (by simp), hlg⟩
    clear hb2 HF hq hRg H3 hgm v0 v1 H2 hh hj
    go_wp2_with fail
    go_region_law (fail)
    all_goals
      go_wp2
      go_returns
      exact ⟨rfl, HQ.out⟩
  | false =>
    have HC := HX.out.2.2.2.2.2.1.c
    rw [HC] at c4
    obtain ⟨va, hva⟩ : ∃ va : Obj, va = .cells #[.string r.key, .string r.val] 47 (0, 0) := ⟨_, rfl⟩
    have H3 := H2.push va
    have hbv : Below w2.heap.size w2 (w2.alloc va) := by go_grown
    have c5 : (w2.alloc va).cell? ⟨wb, ns.length * 6 + 4, none⟩ = some (.slice (some ⟨g, 0, none⟩) x.L.length x.L.length) := (hbv.cell (p := ⟨wb, _, none⟩) (H2.lt (x := (wb, wayO cur)) (by simp))).trans c4
    have m2 : (w2.alloc va).cell? ⟨w.heap.size, 0, none⟩ = some (.string r.key) := (hbv.cell (p := ⟨w.heap.size, _, none⟩) (H2.lt (x := (w.heap.size, prO r)) (by simp))).trans m0
    have m3 : (w2.alloc va).cell? ⟨w.heap.size, 1, none⟩ = some (.string r.val) := (hbv.cell (p := ⟨w.heap.size, _, none⟩) (H2.lt (x := (w.heap.size, prO r)) (by simp))).trans m1
    have HI : Hid (Calls Tryz.prog 63 #[.slice (some ⟨g, 0, none⟩) x.L.length x.L.length, .int .i64 j, .slice (some ⟨w2.heap.size, 0, none⟩) 1 1] (w2.alloc va).drew (InsPost (w2.alloc va).drew (x.L.take j ++ r :: x.L.drop j))) :=
      Lib.hid (insert_any (w := (w2.alloc va).drew) r j hjl hpos (by omega) (H3.drew.mem (x := (g, rowO x.L)) (by simp)) (by rw [hva]; exact heap_alloc_new w2 _))
    have H3' := Lib.hid H3.drew
    have hL' : Hid (x.L.take j ++ r :: x.L.drop j = putB r x.L) := Lib.hid (by unfold putB; rw [if_neg (by rw [hh]; simp), hj])
    clear H2 H3 hbv hh hj HF hb2
    rw [hva] at c5 m2 m3 HI
    have facts : ∀ w3, Below (w2.alloc va).drew.heap.size (w2.alloc va).drew w3 → w3.cell? ⟨wb, ns.length * 6 + 4, none⟩ = some (.slice (some ⟨g, 0, none⟩) x.L.length x.L.length) ∧ w3.frozen? ⟨wb, ns.length * 6 + 4, none⟩ = false := fun w3 hb => by
      have hwm := (H3'.out.on hb).mem (x := (wb, wayO cur)) (by simp)
      unfold wayO at hwm
      simp only at hwm
      refine ⟨?_, frozen_of_row _ _ _ _ _ hwm⟩
      rw [cell_of_row _ _ _ _ _ _ hwm, HX.out.1.at hxi 4 (by decide)]
      unfold NdM.cells
      rw [HX.out.2.2.2.2.1, HC]
      rfl
    rw [hva] at facts
    have HFA := Lib.hid facts
    clear facts
    go_wp2_with fail
    go_region_law (first
      | (go_simp; (with_reducible refine HI.out.mono ?_); rintro e w3 ⟨g', cap', curl, rfl, hg', hm', hrp, hlc, hb3⟩; obtain ⟨c6, f6⟩ := HFA.out w3 hb3; have HZ := Lib.hid (And.intro hm' (And.intro hrp (And.intro hlc (And.intro hb3 hg')))); clear hm' hrp hlc hb3 hg')
      | fail)
    all_goals
      have hln : (x.L.take j ++ r :: x.L.drop j).length = j + (x.L.length - j + 1) := by rw [List.length_append, List.length_cons, List.length_take, List.length_drop]; omega
      have H5 := H3'.out.add (by rw [hva]; exact HZ.out.2.2.2.1) (by rw [hva]; exact HZ.out.2.2.2.2) HZ.out.1
      have hwg : g' ≠ wb := fun e => by
        have h1 := H3'.out.lt (x := (wb, wayO cur)) (by simp)
        have h2 := HZ.out.2.2.2.2
        rw [← hva] at h2
        simp only at h1
        omega
      have H6 := (H5.sub ((wb, wayO cur) :: (g', .cells curl 47 (0, 0)) :: Y) (fun y hy => by
        simp only [List.mem_cons] at hy ⊢
        rcases hy with h | h | h
        · exact .inr (.inr (.inr (.inl h)))
        · exact .inl h
        · exact .inr (.inr (.inr (.inr (.inr h)))))).into (fun y hy => by
          rcases List.mem_cons.1 hy with rfl | hy
          · exact hwg
          · exact HX.out.2.2.1 y (List.mem_cons_of_mem _ hy)) (by decide) hlb (ns.length * 6 + 4) (.slice (some ⟨g', 0, none⟩) (j + (x.L.length - j + 1)) cap')
      have hrow := HX.out.1.setList (x' := { x with L := x.L.take j ++ r :: x.L.drop j, sl := some ⟨g', 0, none⟩, c := cap' }) hxi (.slice (some ⟨g', 0, none⟩) (j + (x.L.length - j + 1)) cap') (by
        unfold NdM.cells
        simp only [hln]
        rfl) (by rw [List.length_append, List.length_singleton, HX.out.2.1]; omega)
      rw [List.set_append_right _ _ (Nat.le_refl _), Nat.sub_self, List.set_cons_zero] at hrow
      have HQ : Hid (PutPost w0 pp n c V Y wb cap ns x r (w3.setCell ⟨wb, ns.length * 6 + 4, none⟩ (.slice (some ⟨g', 0, none⟩) (j + (x.L.length - j + 1)) cap'))) :=
        Lib.hid ⟨_, g', curl, _, H6, hrow, by rw [Array.size_setIfInBounds]; exact HX.out.2.1, rfl, HZ.out.2.1, HZ.out.2.2.1, hL'.out, rfl, rfl, rfl, rfl, rfl, fun y hy => HX.out.2.2.1 y (List.mem_cons_of_mem _ hy), hwg, Nat.le_trans H3'.out.below.size (by rw [hva]; exact HZ.out.2.2.2.2)⟩
      clear H5 H6 hrow hwg hln c6 f6
      go_wp2
      go_end0
      exact ⟨rfl, HQ.out⟩
end
end Go.Proofs.YtkdhlofcdcnjgaaGreat
namespace Go.Proofs.YtkdhlofcdcnjgaaGreat
set_option maxRecDepth 100000
open Go.ChangeShapes Go.WideShapes Go.ChangeAt Go.RowKit Go.PlainAid Go.Shelf
open Go.Sort (grow)

attribute [local go_sem ↓ high] store_n
/-- A page's pairs take no more bytes than they are taken to need. -/
theorem pkS_law {level : Int} {low high : ByteArray} {L : List Pr} (h : Lawful level low high L) : pkS L ≤ 254 ∧ (level = 1 → pkS L = wtP level L) ∧ ∀ q ∈ L, q.key.size ≤ 32 := by
  have hk : ∀ q ∈ L, q.key.size ≤ 32 := fun q hq => by
    obtain ⟨j, hj⟩ := List.mem_iff_getElem?.1 hq
    exact (risB_key h.rise hj).small
  have key : ∀ M : List Pr, (∀ q ∈ M, 2 + q.key.size + q.val.size ≤ szP level q) → pkS M ≤ wtP level M := by
    intro M hM
    induction M with
    | nil => exact Nat.le_refl _
    | cons q t ih =>
      have h1 := hM q List.mem_cons_self
      have h2 := ih fun r hr => hM r (List.mem_cons_of_mem _ hr)
      unfold pkS wtP at *
      rw [List.map_cons, List.sum_cons, List.map_cons, List.sum_cons]
      omega
  have he : level = 1 → pkS L = wtP level L := fun e => by
    unfold pkS wtP
    congr 1
    refine List.map_congr_left fun q _ => ?_
    unfold szP
    rw [if_neg (by omega)]
  refine ⟨Nat.le_trans (key L fun q hq => ?_) h.weight, he, hk⟩
  unfold szP
  by_cases h1 : 1 < level
  · rw [if_pos h1]
    have h2 := (lnkB_iff.1 (h.links (by omega))).1 q hq
    have := hk q hq
    omega
  · rw [if_neg h1]
    exact Nat.le_refl _
theorem pkS_put (r : Pr) (L : List Pr) (j : Nat) : pkS (L.take j ++ r :: L.drop j) = pkS L + (2 + r.key.size + r.val.size) := by
  have h : pkS L = pkS (L.take j) + pkS (L.drop j) := by
    conv => lhs; rw [← List.take_append_drop j L]
    unfold pkS
    rw [List.map_append, List.sum_append]
  rw [h]
  unfold pkS
  rw [List.map_append, List.sum_append, List.map_cons, List.sum_cons]
  omega
theorem mem_ins {r q : Pr} {L : List Pr} {j : Nat} (h : q ∈ L.take j ++ r :: L.drop j) : q = r ∨ q ∈ L := by
  rcases List.mem_append.1 h with h | h
  · exact .inr (List.mem_of_mem_take h)
  · rcases List.mem_cons.1 h with h | h
    · exact .inl h
    · exact .inr (List.mem_of_mem_drop h)
theorem pkS_mem {L : List Pr} {q : Pr} (h : q ∈ L) : 2 + q.key.size + q.val.size ≤ pkS L := by
  obtain ⟨A, B, rfl⟩ := List.append_of_mem h
  unfold pkS
  rw [List.map_append, List.sum_append, List.map_cons, List.sum_cons]
  omega
theorem pkS_len (L : List Pr) : 2 * L.length ≤ pkS L := by
  induction L with
  | nil => exact Nat.le_refl _
  | cons q t ih =>
    unfold pkS at *
    rw [List.map_cons, List.sum_cons, List.length_cons]
    omega
/-- A page that may have got too full. -/
structure GrN (x : NdM) : Prop where
  pos : 0 < x.L.length
  c : x.L.length ≤ x.c
  k32 : ∀ q ∈ x.L, q.key.size ≤ 32
  pk : pkS x.L ≤ 400
  at_ : 2 ≤ x.at_ ∧ x.at_ ≤ 1023
  lev : 1 ≤ x.level ∧ x.level ≤ 255
theorem GrN.len {x : NdM} (h : GrN x) : x.L.length ≤ 200 := by
  have := pkS_len x.L
  have := h.pk
  omega
theorem GrN.mod {x : NdM} (h : GrN x) : Mod x.L := fun q hq => by
  have := pkS_mem hq
  have := h.pk
  omega
theorem RowN.prefix {cur : Array Value} {A B : List NdM} (h : RowN cur (A ++ B)) : RowN cur A := by
  unfold RowN at *
  rw [List.length_append, flatN_app] at h
  have e : (flatN A).length = A.length * 6 := flatN_len A
  have h2 : (cur.toList.take ((A.length + B.length) * 6)).take (A.length * 6) = flatN A := by rw [h, ← e, List.take_left]
  rw [List.take_take, Nat.min_eq_left (by omega)] at h2
  exact h2
section
variable {w0 w w' : World} {pp n c tb : Nat} {V : Int → ByteArray} {R RL : List (Nat × Obj)} {i : Int}
/-- A way whose page at a place may have got too full. -/
def GrS (w0 : World) (pp n : Nat) (R RL : List (Nat × Obj)) (wb : Nat) (ns : List NdM) (m : Nat) (xm : NdM) (c : Nat) (V : Int → ByteArray) (w : World) : Prop :=
  ∃ gm curl cur, PV w0 pp n c V ((wb, wayO cur) :: (gm, .cells curl 47 (0, 0)) :: (RL ++ R)) w ∧ RowN cur (ns.take m ++ [xm]) ∧ (ns.length + 1) * 6 ≤ cur.size ∧ xm.sl = some ⟨gm, 0, none⟩ ∧ RowP curl xm.L ∧ GrN xm ∧ (∀ y ∈ RL ++ R, y.1 ≠ wb) ∧ gm ≠ wb
set_option maxHeartbeats 8000000 in
theorem grow_any {wb cp : Nat} {ns : List NdM} {x : NdM} (hS : GrS w0 pp n R RL wb ns ns.length x c V w) (hT : (tb, treeO pp i) ∈ R) (hn : 1 < n) (hi : 0 ≤ i ∧ i < 16) (hc : c ≤ 700000) (hlb : w0.heap.size ≤ wb) (hup : ∀ y ∈ ns, UpOk RL y) (hlen : ns.length ≤ 255) :
    Calls Tryz.prog 31 #[.pointer (some ⟨tb, 0, none⟩), .slice (some ⟨wb, 0, none⟩) (ns.length + 1) cp] w fun e w' => ∃ V' z, e = .returned (.int .i64 z) ∧ (wtP x.level x.L ≤ 254 → outB n (V 0) x.at_ = true → pkS x.L ≤ 254 → z = 0 ∧ V' = updV V x.at_ (filled (packP x.level x.L))) ∧ PV w0 pp n (c + 4 * (ns.length + 2)) V' R w' := by
  have HS := Lib.hid hS
  have HT := Lib.hid hT
  have HU := Lib.hid hup
  clear hS hT hup
  go_enter Tryz.func31, Tryz.ntmps31
  go_wp2_with fail
  go_loopw [5] (fun iv wr => ∃ (m : Nat) (xm : NdM) (c' : Nat) (V' : Int → ByteArray), iv = .int .i64 (m : Int) ∧ m ≤ ns.length ∧ c' ≤ c + 4 * (ns.length - m) ∧ Hid (GrS w0 pp n R RL wb ns m xm c' V' wr ∧ (m = ns.length → xm = x ∧ V' = V ∧ c' = c))
    ∧ Hid (m < ns.length → ¬ wtP x.level x.L ≤ 254)) (fun iv _ => (intOf iv).toNat)
  case atStart => exact ⟨ns.length, x, c, V, rfl, Nat.le_refl _, by omega, Lib.hid ⟨HS.out, fun _ => ⟨rfl, rfl, rfl⟩⟩, Lib.hid fun h => absurd h (Nat.lt_irrefl _)⟩
  case round =>
    obtain ⟨m, xm, c', V', rfl, hm, hc', HG, HNW⟩ := hrel
    clear HS
    obtain ⟨gm, curl, cur, H, hrow, hcs, hsl, hrp, hgr, hyw, hgw⟩ := HG.out.1
    have hmi : (ns.take m ++ [xm])[m]? = some xm := by
      rw [List.getElem?_append_right (by rw [List.length_take]; omega), List.length_take, Nat.min_eq_left hm, Nat.sub_self]
      rfl
    have hkn : Kn [(gm, .cells curl 47 (0, 0))] xm.sl xm.L := fun W hW => by
      rw [hsl]
      exact rdP_cur (hW _ List.mem_cons_self) hrp
    have hln := hgr.len
    have hN := nodeIs_of (H.mem (x := (wb, wayO cur)) (by simp)) hrow hmi (H.kn (hkn.mono fun y hy => by simp at hy; simp [hy])) (by omega)
    have d0 := hN.at_
    have d1 := hN.level
    have d2 := hN.low
    have d3 := hN.high
    have d4 := hN.list
    have d5 := hN.next
    have H1 := H.push (ndO xm)
    have hst := store_nd_fresh wr xm
    unfold NdM.cells at hst
    have hN1 := ndIs_of (H1.mem List.mem_cons_self) (H1.kn (hkn.mono fun y hy => by simp at hy; simp [hy])) (by omega)
    have HW := Lib.hid (weight_any hN1 hgr.mod)
    have hwl := wtP_le xm.level hgr.mod
    have hwb : wtP xm.level xm.L ≤ 600000000 := by
      have := Nat.mul_le_mul_right 131074 hln
      omega
    have hat := hgr.at_
    have hlev := hgr.lev
    have HX := Lib.hid (And.intro H (And.intro hrow (And.intro hcs (And.intro hsl (And.intro hrp (And.intro hgr (And.intro hyw (And.intro hgw (And.intro hkn H1)))))))))
    clear H hrow hcs hsl hrp hgr hyw hgw hmi hkn hN H1 hN1 hwl
    obtain ⟨A, hA⟩ : ∃ A, wtP xm.level xm.L = A := ⟨_, rfl⟩
    rw [hA] at HW hwb
    have HA := Lib.hid hA
    clear hA
    have hmn1 : (m : Int) < (ns.length : Int) + 1 := by omega
    have hmn2 : m < ns.length + 1 := by omega
    go_wp2_with fail
    refine HW.out.mono ?_
    rintro e w5 ⟨rfl, hb5⟩
    have H5 := HX.out.2.2.2.2.2.2.2.2.2.on hb5
    clear d0 d1 d2 d3 d4 d5 HW hst
    obtain ⟨d0, d1, d2, d3, d4, d5⟩ := nd_cells (H5.mem List.mem_cons_self)
    simp only at d0 d1 d2 d3 d4 d5
    by_cases hle : A ≤ 254
    · have f1 : decide ((A : Int) ≤ 254) = true := decide_eq_true (by omega)
      have HWR := Lib.hid (twrite_any H5 (x := xm) (i := i) (tb := tb) (by simp [HT.out]) (by omega) (by omega) (HX.out.2.2.2.2.2.2.2.2.1.mono fun y hy => by simp at hy; simp [hy]) (by have := HX.out.2.2.2.2.2.1.pk; omega) (by omega) (by omega) (by omega))
      unfold NdM.cells at HWR
      have HLE := Lib.hid hle
      clear hle hb5 H5
      go_wp2_with fail
      refine HWR.out.mono ?_
      rintro e w6 ⟨V6, z6, rfl, hp6, H6⟩
      have HF := Lib.hid (And.intro hp6 H6)
      clear hp6 H6 HWR d0 d1 d2 d3 d4 d5
      go_wp2
      go_returns
      refine ⟨V6, z6, rfl, fun h1 h2 h3 => ?_, (HF.out.2.sub R fun y hy => by simp [hy]).mono (by omega)⟩
      by_cases hmm : m = ns.length
      · obtain ⟨rfl, rfl, rfl⟩ := HG.out.2 hmm
        exact HF.out.1 h2 h3
      · exact absurd h1 (HNW.out (by omega))
    · have f1 : decide ((A : Int) ≤ 254) = false := decide_eq_false (by omega)
      have HSP := Lib.hid (split_any H5 (x := xm) (i := i) (tb := tb) (by simp [HT.out]) hn (by omega) gm HX.out.2.2.2.1 (HX.out.2.2.2.2.2.2.2.2.1.mono fun y hy => by simp at hy; simp [hy]) (by have := HX.out.2.2.2.2.2.1.pk; omega) (by omega) HX.out.2.2.2.2.2.1.pos HX.out.2.2.2.2.2.1.c HX.out.2.2.2.2.2.1.mod HX.out.2.2.2.2.2.1.k32 (by omega) (by omega))
      unfold NdM.cells at HSP
      have HLE := Lib.hid hle
      clear hle hb5 H5
      go_wp2_with fail
      refine HSP.out.mono ?_
      rintro e w6 ⟨V6, z6, q, rfl, hq1, hq2, H6⟩
      by_cases hz : z6 = 0
      · subst hz
        have H6' := Lib.hid H6
        clear HSP d0 d1 d2 d3 d4 d5
        obtain ⟨d0, d1, d2, d3, d4, d5⟩ := nd_cells (H6.mem List.mem_cons_self)
        simp only at d0 d1 d2 d3 d4 d5
        clear H6
        by_cases hm0 : m = 0
        · subst hm0
          have H7 := H6'.out.push (prO q)
          have f7 : ∀ (c8 : Nat) (V8 : Int → ByteArray) (W : World) (Z : List (Nat × Obj)), PV w0 pp n c8 V8 (Z ++ ((w6.heap.size, prO q) :: (wr.heap.size, ndO xm) :: (wb, wayO cur) :: (gm, .cells curl 47 (0, 0)) :: (RL ++ R))) W →
              W.cell? ⟨wr.heap.size, 0, none⟩ = some (.int .i64 xm.at_) ∧ W.cell? ⟨wr.heap.size, 1, none⟩ = some (.int .i64 xm.level) ∧ W.cell? ⟨w6.heap.size, 0, none⟩ = some (.string q.key) ∧ W.cell? ⟨w6.heap.size, 1, none⟩ = some (.string q.val) := fun c8 V8 W Z h => by
            obtain ⟨a0, a1, _⟩ := nd_cells (h.mem (x := (wr.heap.size, ndO xm)) (by simp))
            obtain ⟨b0, b1⟩ := pr_cells (h.mem (x := (w6.heap.size, prO q)) (by simp))
            exact ⟨a0, a1, b0, b1⟩
          have HF7 := Lib.hid f7
          obtain ⟨an, han⟩ := Int.eq_ofNat_of_zero_le (show 0 ≤ xm.at_ by omega)
          obtain ⟨a0, a1, a2, a3⟩ := f7 _ _ _ [] H7.drew
          have H7' := Lib.hid H7
          have hlv1 : IntKind.i64.wrap (xm.level + 1) = xm.level + 1 := IntWalk.i64_in _ (by omega)
          have HAN := Lib.hid (And.intro han (show an ≤ 65535 by omega))
          clear f7 H7 han
          go_wp2_with fail
          obtain ⟨W7, hW7⟩ : ∃ W7, w6.alloc (prO q) = W7 := ⟨_, rfl⟩
          rw [hW7] at H7' a0 a1 a2 a3
          rw [show w6.alloc (.cells #[.string q.key, .string q.val] 47) = W7 from hW7]
          clear hW7
          go_region_held3 (fun w' => w'.cell? ⟨wr.heap.size, 0, none⟩ = some (.int .i64 xm.at_) ∧ w'.cell? ⟨wr.heap.size, 1, none⟩ = some (.int .i64 xm.level) ∧ w'.cell? ⟨w6.heap.size, 0, none⟩ = some (.string q.key) ∧ w'.cell? ⟨w6.heap.size, 1, none⟩ = some (.string q.val)) (go_keep)
            (first
              | (go_at_call 68
                 rw [HAN.out.1]
                 refine (number_any an _ HAN.out.2).mono ?_
                 rintro e w8 ⟨⟨s8, rfl, hs8⟩, hb8⟩
                 have H8 := H7'.out.drew.on hb8
                 obtain ⟨y0, y1, y2, y3⟩ := HF7.out _ _ _ [] H8
                 have H8' := Lib.hid (And.intro hs8 H8)
                 clear H8 hb8 hs8)
              | (go_at_call 27
                 have H9 := H8'.out.2.push (rowO [⟨⟨#[]⟩, s8⟩, q])
                 have HTP := top_any H9 (tb := tb) (i := i) (by simp [HT.out]) hn hi (by omega) (xm.level + 1) [⟨⟨#[]⟩, s8⟩, q] (some ⟨w8.heap.size, 0, none⟩) 2 (Kn.of List.mem_cons_self) (by have := H8'.out.1; unfold pkS; simp only [List.map_cons, List.map_nil, List.sum_cons, List.sum_nil]; show 2 + 0 + s8.size + _ ≤ _; omega) (by simp)
                 refine HTP.mono ?_
                 rintro e w9 ⟨V9, z9, rfl, _, H9'⟩
                 obtain ⟨y0, y1, y2, y3⟩ := HF7.out _ _ _ [(w8.heap.size, rowO [⟨⟨#[]⟩, s8⟩, q])] H9'
                 have H9f := Lib.hid (H9'.sub R fun y hy => by simp [hy])
                 clear H9 H9' HTP))
          all_goals
            go_wp2
            go_returns
            refine ⟨V9, z9, rfl, fun h1 h2 h3 => ?_, H9f.out.mono (by omega)⟩
            by_cases hmm : 0 = ns.length
            · obtain ⟨rfl, rfl, rfl⟩ := HG.out.2 hmm
              have h4 := HA.out
              have h5 := HLE.out
              omega
            · exact absurd h1 (HNW.out (by omega))
        · obtain ⟨j, rfl⟩ : ∃ j, m = j + 1 := ⟨m - 1, by omega⟩
          have hjn : j < ns.length := by omega
          obtain ⟨y, hy⟩ : ∃ y, ns[j]? = some y := ⟨_, List.getElem?_eq_getElem hjn⟩
          have huy := HU.out y (List.mem_of_getElem? hy)
          have hyi : (ns.take (j + 1) ++ [xm])[j]? = some y := by
            rw [List.getElem?_append_left (by rw [List.length_take]; omega), List.getElem?_take_of_lt (by omega)]
            exact hy
          obtain ⟨gy, hgy, hgm⟩ := huy.lst
          obtain ⟨t, ht, htl⟩ := huy.next
          have hyc := huy.c
          have hys := huy.small
          have hcy := fun k hk => HX.out.2.1.at hyi k hk
          have H7 := H6'.out.push (prO q)
          have f7 : ∀ (c8 : Nat) (V8 : Int → ByteArray) (W : World) (Z : List (Nat × Obj)), PV w0 pp n c8 V8 (Z ++ ((w6.heap.size, prO q) :: (wr.heap.size, ndO xm) :: (wb, wayO cur) :: (gm, .cells curl 47 (0, 0)) :: (RL ++ R))) W →
              W.cell? ⟨wb, j * 6 + 4, none⟩ = some (.slice (some ⟨gy, 0, none⟩) y.L.length y.L.length) ∧ W.cell? ⟨wb, j * 6 + 5, none⟩ = some (.int .i64 (t : Int)) ∧ W.cell? ⟨w6.heap.size, 0, none⟩ = some (.string q.key) ∧ W.cell? ⟨w6.heap.size, 1, none⟩ = some (.string q.val) ∧ W.frozen? ⟨wb, j * 6 + 4, none⟩ = false := fun c8 V8 W Z h => by
            have hm := h.mem (x := (wb, wayO cur)) (by simp)
            obtain ⟨b0, b1⟩ := pr_cells (h.mem (x := (w6.heap.size, prO q)) (by simp))
            unfold wayO at hm
            simp only at hm
            refine ⟨?_, ?_, b0, b1, frozen_of_row _ _ _ _ _ hm⟩
            · rw [cell_of_row _ _ _ _ _ _ hm, hcy 4 (by decide)]
              unfold NdM.cells
              rw [hgy, hyc]
              rfl
            · rw [cell_of_row _ _ _ _ _ _ hm, hcy 5 (by decide)]
              unfold NdM.cells
              rw [ht]
              rfl
          obtain ⟨W7, hW7⟩ : ∃ W7, w6.alloc (prO q) = W7 := ⟨_, rfl⟩
          rw [hW7] at H7
          obtain ⟨a0, a1, a2, a3, _⟩ := f7 _ _ _ [] H7
          obtain ⟨va, hva⟩ : ∃ va : Obj, va = .cells #[.string q.key, .string q.val] 47 (0, 0) := ⟨_, rfl⟩
          have H8 := H7.push va
          obtain ⟨b0, b1, b2, b3, _⟩ := f7 _ _ _ [(W7.heap.size, va)] H8
          have hin := insert_any (w := (W7.alloc va).drew) (vb := W7.heap.size) q (t + 1) (by omega) (by omega) (by omega) (H8.drew.mem (x := (gy, rowO y.L)) (by simp [hgm])) (by rw [hva]; exact heap_alloc_new W7 _)
          rw [show ((t + 1 : Nat) : Int) = (t : Int) + 1 by omega] at hin
          have HI := Lib.hid hin
          have hwt : IntKind.i64.wrap ((t : Int) + 1) = (t : Int) + 1 := IntWalk.i64_in _ (by omega)
          have HFA : Hid (∀ w3, Below (W7.alloc va).drew.heap.size (W7.alloc va).drew w3 → w3.cell? ⟨wb, j * 6 + 4, none⟩ = some (.slice (some ⟨gy, 0, none⟩) y.L.length y.L.length) ∧ w3.frozen? ⟨wb, j * 6 + 4, none⟩ = false) := Lib.hid fun w3 hb => by
            obtain ⟨r0, _, _, _, r4⟩ := f7 _ _ _ [(W7.heap.size, va)] (H8.drew.on hb)
            exact ⟨r0, r4⟩
          have H8' := Lib.hid H8.drew
          have HY := Lib.hid (And.intro huy (And.intro hyi (And.intro hy (And.intro hgy (And.intro hgm (And.intro ht hyc))))))
          have HFIN : Hid (∀ (w3 : World) (g' cap' : Nat) (curl' : Array Value), w3.heap[g']? = some (.cells curl' 47 (0, 0)) → RowP curl' (y.L.take (t + 1) ++ q :: y.L.drop (t + 1)) → (y.L.take (t + 1) ++ q :: y.L.drop (t + 1)).length ≤ cap' → Below (W7.alloc va).drew.heap.size (W7.alloc va).drew w3 → (W7.alloc va).drew.heap.size ≤ g' →
              ∃ xm', GrS w0 pp n R RL wb ns j xm' (c' + 4) V6 (w3.setCell ⟨wb, j * 6 + 4, none⟩ (.slice (some ⟨g', 0, none⟩) (min (t + 1) y.L.length + (y.L.length - (t + 1) + 1)) cap'))) := Lib.hid fun w3 g' cap' curl' hm' hrp hlc hb3 hg' => by
            have hln : (y.L.take (t + 1) ++ q :: y.L.drop (t + 1)).length = min (t + 1) y.L.length + (y.L.length - (t + 1) + 1) := by rw [List.length_append, List.length_cons, List.length_take, List.length_drop]
            obtain ⟨xm', hxm⟩ : ∃ xm' : NdM, ({ y with L := y.L.take (t + 1) ++ q :: y.L.drop (t + 1), sl := some ⟨g', 0, none⟩, c := cap' } : NdM) = xm' := ⟨_, rfl⟩
            have hxc : xm'.cells = y.cells.setIfInBounds 4 (.slice (some ⟨g', 0, none⟩) (min (t + 1) y.L.length + (y.L.length - (t + 1) + 1)) cap') := by
              rw [← hxm]
              unfold NdM.cells
              simp only [hln]
              rfl
            have hwg : g' ≠ wb := fun e => by
              have h1 := H8.lt (x := (wb, wayO cur)) (by simp)
              have h2 : (W7.alloc va).heap.size ≤ g' := hg'
              simp only at h1
              omega
            have H5 := H8.drew.add hb3 hg' hm'
            have H6 := (H5.sub ((wb, wayO cur) :: (g', .cells curl' 47 (0, 0)) :: (RL ++ R)) (fun z hz => by
              simp only [List.mem_cons] at hz ⊢
              rcases hz with h | h | h
              · exact .inr (.inr (.inr (.inr (.inl h))))
              · exact .inl h
              · exact .inr (.inr (.inr (.inr (.inr (.inr h))))))).into (fun z hz => by
                rcases List.mem_cons.1 hz with rfl | hz
                · exact hwg
                · exact HX.out.2.2.2.2.2.2.1 z hz) (by decide) hlb (j * 6 + 4) (.slice (some ⟨g', 0, none⟩) (min (t + 1) y.L.length + (y.L.length - (t + 1) + 1)) cap')
            have hrow := HX.out.2.1.setList (x' := xm') hyi (.slice (some ⟨g', 0, none⟩) (min (t + 1) y.L.length + (y.L.length - (t + 1) + 1)) cap') hxc (by
              have := HX.out.2.2.1
              rw [List.length_append, List.length_take, List.length_singleton]
              omega)
            have hset : (ns.take (j + 1) ++ [xm]).set j xm' = (ns.take j ++ [xm']) ++ [xm] := by
              have e : ns.take (j + 1) = ns.take j ++ [y] := take_snoc hy
              have e2 : (ns.take j).length = j := by rw [List.length_take]; omega
              rw [e, List.append_assoc, List.set_append_right _ _ (by omega), e2, Nat.sub_self]
              simp
            rw [hset] at hrow
            have hlaw := pkS_law huy.law
            refine ⟨xm', g', curl', _, H6, hrow.prefix, by rw [Array.size_setIfInBounds]; exact HX.out.2.2.1, by rw [← hxm], by rw [← hxm]; exact hrp, ?_, HX.out.2.2.2.2.2.2.1, hwg⟩
            rw [← hxm]
            refine ⟨by show 0 < _; rw [hln]; omega, hlc, fun r hr => ?_, by show pkS _ ≤ _; rw [pkS_put]; omega, huy.at_, ⟨huy.law.pos, huy.top⟩⟩
            rcases mem_ins hr with rfl | hr
            · exact hq1
            · exact hlaw.2.2 r hr
          rw [hva] at HFIN
          clear H7 H8 f7 hin huy hyi hy hgm hyc hcy ht hm0
          rw [hva] at b0 b1 b2 b3 HI HFA
          go_wp2_with fail
          rw [show w6.alloc (.cells #[.string q.key, .string q.val] 47) = W7 from hW7]
          clear hW7
          go_region_law (first
            | (go_simp; (with_reducible refine HI.out.mono ?_); rintro e w3 ⟨g', cap', curl', rfl, hg', hm', hrp, hlc, hb3⟩; obtain ⟨c6, f6⟩ := HFA.out w3 hb3; have HZ := Lib.hid (And.intro hm' (And.intro hrp (And.intro hlc (And.intro hb3 hg')))); clear hm' hrp hlc hb3 hg')
            | fail)
          all_goals
            obtain ⟨xm', hfin⟩ := HFIN.out w3 g' cap' curl' HZ.out.1 HZ.out.2.1 HZ.out.2.2.1 HZ.out.2.2.2.1 HZ.out.2.2.2.2
            have HFI := Lib.hid hfin
            clear hfin c6 f6
            go_wp2
            go_roundw
            case rel =>
              refine ⟨j, xm', c' + 4, V6, by go_num, by omega, by omega, Lib.hid ⟨HFI.out, fun h => absurd h (by omega)⟩, Lib.hid fun _ h1 => ?_⟩
              by_cases hmm : j + 1 = ns.length
              · obtain ⟨rfl, rfl, rfl⟩ := HG.out.2 hmm
                have h4 := HA.out
                have h5 := HLE.out
                omega
              · exact absurd h1 (HNW.out (by omega))
            case measure => simp [intOf]
      · have hz1 : (z6 != 0) = true := by simpa using hz
        have H6f : PV w0 pp n (c + 4 * (ns.length + 2)) V6 R w6 := (H6.sub R fun y hy => by simp [hy]).mono (by omega)
        have HF := Lib.hid H6f
        clear H6 H6f HSP d0 d1 d2 d3 d4 d5
        go_wp2_with fail
        go_returns
        exact ⟨V6, z6, rfl, fun h1 h2 h3 => by
          by_cases hmm : m = ns.length
          · obtain ⟨rfl, rfl, rfl⟩ := HG.out.2 hmm
            have h4 := HA.out
            have h5 := HLE.out
            omega
          · exact absurd h1 (HNW.out (by omega)), (HF.out.push (prO q)).drop⟩
end
end Go.Proofs.YtkdhlofcdcnjgaaGreat
namespace Go.Proofs.YtkdhlofcdcnjgaaGreat
set_option maxRecDepth 100000
open Go.ChangeShapes Go.WideShapes Go.ChangeAt Go.RowKit Go.PlainAid Go.Shelf
open Go.Sort (grow)

theorem putB_mem {r q : Pr} {L : List Pr} (h : q ∈ putB r L) : q = r ∨ q ∈ L := by
  unfold putB at h
  split at h
  · rcases List.mem_or_eq_of_mem_set h with h | h
    · exact .inr h
    · exact .inl h
  · exact mem_ins h
theorem putB_pk (r : Pr) (L : List Pr) : pkS (putB r L) ≤ pkS L + (2 + r.key.size + r.val.size) := by
  unfold putB
  split
  · have key : ∀ (L : List Pr) (j : Nat), pkS (L.set j r) ≤ pkS L + (2 + r.key.size + r.val.size) := by
      intro L
      induction L with
      | nil => intro j; simp [pkS]
      | cons p t ih =>
        intro j
        cases j with
        | zero =>
          unfold pkS
          rw [List.set_cons_zero, List.map_cons, List.sum_cons, List.map_cons, List.sum_cons]
          omega
        | succ j =>
          have := ih j
          unfold pkS at *
          rw [List.set_cons_succ, List.map_cons, List.sum_cons, List.map_cons, List.sum_cons]
          omega
    exact key L _
  · rw [pkS_put]
    exact Nat.le_refl _
theorem putB_pos {r : Pr} {L : List Pr} (h : 0 < L.length) : 0 < (putB r L).length := by
  unfold putB
  split
  · rw [List.length_set]; exact h
  · rw [List.length_append, List.length_cons]; omega
theorem pkS_leaf (L : List Pr) : pkS L = wtP 1 L := by
  unfold pkS wtP
  congr 1
section
variable {w0 w w' : World} {pp n c tb : Nat} {V : Int → ByteArray} {R : List (Nat × Obj)} {i : Int}
/-- What Put leaves of the pages. -/
def PutSays (V : Int → ByteArray) (n : Nat) (i : Int) (r : Pr) (z : Int) (V' : Int → ByteArray) : Prop :=
  (rootZ (V 1) i = 0 → ∀ v, Least (V 0) 2 n v → z = 0 ∧ V' = topV V i v 1 [r]) ∧
  (∀ y, rootZ (V 1) i ≠ 0 → rdN V (outB n (V 0)) (rootM (rootZ (V 1) i)).D = (y, false) → y.level = 1 → wtP 1 (putB r y.L) ≤ 254 → z = 0 ∧ V' = updV V (rootZ (V 1) i) (filled (packP 1 (putB r y.L))))
set_option maxHeartbeats 1000000 in
theorem tput_any (H : PV w0 pp n c V R w) (hT : (tb, treeO pp i) ∈ R) (hn : 1 < n) (hi : 0 ≤ i ∧ i < 16) (hc : c ≤ 600000) (key val : ByteArray) :
    Calls Tryz.prog 8 #[.pointer (some ⟨tb, 0, none⟩), .string key, .string val] w fun e w' => ∃ V' z, e = .returned (.int .i64 z) ∧ (key.size ≠ 0 → key.size ≤ 32 → val.size ≤ 80 → PutSays V n i ⟨key, val⟩ z V') ∧ PV w0 pp n (c + 2000) V' R w' := by
  obtain ⟨t0, t1⟩ := tree_cells (H.mem hT)
  have HM := Lib.hid (made_yes t0)
  have HW := Lib.hid (way_any H hT hn hi key)
  have HT := Lib.hid hT
  have HH := Lib.hid H
  clear H hT t0 t1
  by_cases hk0 : key.size = 0
  · have f0 := text_empty hk0
    have HK := Lib.hid hk0
    clear hk0
    go_enter Tryz.func8, Tryz.ntmps8
    go_wp2_with fail
    refine HM.out.mono ?_
    rintro e _ ⟨rfl, rfl⟩
    go_wp2
    go_returns
    exact ⟨V, 22, rfl, fun h => absurd HK.out h, HH.out.mono (by omega)⟩
  · have f0 := text_zero hk0
    by_cases hk1 : key.size ≤ 32
    · have f1 : decide ((32 : Int) < key.size) = false := decide_eq_false (by omega)
      by_cases hv1 : val.size ≤ 80
      · have f2 : decide ((80 : Int) < val.size) = false := decide_eq_false (by omega)
        have HK := Lib.hid (And.intro hk0 (And.intro hk1 hv1))
        clear hk0 hk1 hv1
        go_enter Tryz.func8, Tryz.ntmps8
        go_wp2_with fail
        refine HM.out.mono ?_
        rintro e _ ⟨rfl, rfl⟩
        go_wp2_with fail
        refine HW.out.mono ?_
        clear HW HM
        have hleaf : ∀ y, rootZ (V 1) i ≠ 0 → rdN V (outB n (V 0)) (rootM (rootZ (V 1) i)).D = (y, false) → y.level = 1 → wayA V n i key = some y := fun y h0 h1 h2 => by
          unfold wayA
          rw [if_neg h0, h1]
          show leafP V (outB n (V 0)) key 255 y = some y
          unfold leafP
          rw [if_pos h2]
        have HLF := Lib.hid hleaf
        clear hleaf
        rintro e w2 (⟨hA, ⟨z, rfl, hz, hz0⟩, H2⟩ | ⟨ns, x, g, wb, cap, cur, RL, hr0, hA, rfl, H2, hrow, hlw, hcs, hcap, hwb, hgb, hsl, hlv, hup, hups, hlevs, hlen, hat, hlg⟩)
        · by_cases hzz : z = 0
          · subst hzz
            have hr0 := hz0.1 rfl
            have H3 := ((H2.push (prO ⟨key, val⟩)).drop).push (rowO [⟨key, val⟩])
            rw [World.size_alloc] at H3
            have HTP : Hid (Calls Tryz.prog 27 #[.pointer (some ⟨tb, 0, none⟩), .int .i64 1, .slice (some ⟨w2.heap.size + 1, 0, none⟩) 1 1] ((w2.alloc (.cells #[.string key, .string val] 47)).alloc (.cells #[.string key, .string val] 47)) fun e w' => ∃ V' z, e = .returned (.int .i64 z) ∧ (∀ v, Least (V 0) 2 n v → pkS [⟨key, val⟩] ≤ 254 → z = 0 ∧ V' = topV V i v 1 [⟨key, val⟩]) ∧ PV w0 pp n (c + 4) V' ((w2.heap.size + 1, rowO [⟨key, val⟩]) :: R) w') :=
              Lib.hid (top_any H3 (tb := tb) (i := i) (by simp [HT.out]) hn hi (by omega) 1 [⟨key, val⟩] (some ⟨w2.heap.size + 1, 0, none⟩) 1 (Kn.of List.mem_cons_self) (by have := HK.out; unfold pkS; simp only [List.map_cons, List.map_nil, List.sum_cons, List.sum_nil]; omega) (by simp))
            have HR := Lib.hid hr0
            clear H2 H3 hz hz0 hA hr0
            go_wp2_with fail
            refine HTP.out.mono ?_
            rintro e w3 ⟨V3, z3, rfl, hp3, H3⟩
            have HF := Lib.hid (And.intro hp3 H3)
            clear hp3 H3 HTP
            go_wp2
            go_returns
            refine ⟨V3, z3, rfl, fun _ _ _ => ⟨fun _ v hv => HF.out.1 v hv ?_, fun y h0 => absurd HR.out h0⟩, HF.out.2.drop.mono (by omega)⟩
            have := HK.out
            unfold pkS
            simp only [List.map_cons, List.map_nil, List.sum_cons, List.sum_nil]
            omega
          · have hz6 : z = 6 := hz.resolve_left hzz
            subst hz6
            have HR := Lib.hid (And.intro (fun h => hzz (hz0.2 h)) (And.intro hA H2))
            clear H2 hz hz0 hA hzz
            go_wp2
            go_returns
            exact ⟨V, 6, rfl, fun _ _ _ => ⟨fun h => absurd h HR.out.1, fun y h0 h1 h2 => by
              have := HLF.out y h0 h1 h2
              rw [HR.out.2.1] at this
              cases this⟩, HR.out.2.2.mono (by omega)⟩
        · have HP := Lib.hid (nput_any ((H2.push (prO ⟨key, val⟩)).drop.drew) hrow hcs hcap hwb hgb hsl hup hlw hlg ⟨key, val⟩)
          obtain ⟨m0, m1⟩ := pr_cells (w := w2.alloc (prO ⟨key, val⟩)) (heap_alloc_new w2 _)
          have HX := Lib.hid (And.intro hr0 (And.intro hA (And.intro hcs (And.intro hcap (And.intro hlv (And.intro hup (And.intro hups hlevs)))))))
          clear H2 hrow hcs hcap hwb hgb hsl hup hups hlevs hat hr0 hA hlv
          have hs1 : IntKind.i64.wrap (ns.length : Int) = (ns.length : Int) := IntWalk.i64_in _ (by omega)
          have hs2 : (0 : Int) ≤ (ns.length : Int) := by omega
          have hs3 : (ns.length : Int) < (ns.length : Int) + 1 := by omega
          have hs4 : ns.length < ns.length + 1 := by omega
          unfold prO at m0 m1 HP
          go_wp2_with fail
          go_region_law (first
            | (go_simp; (with_reducible refine HP.out.mono ?_); rintro e w3 ⟨rfl, hpost⟩; have HPP := Lib.hid hpost; clear hpost)
            | fail)
          all_goals
            clear HP m0 m1 hs1 hs2 hs3 hs4
            obtain ⟨x', g', curl, cur', H3, hrow, hcs, hsl, hrp, hlc, hL, hat', hlv', hlo', hhi', hnx', hyw, hgw, hlg'⟩ := HPP.out
            obtain ⟨t0, t1⟩ := tree_cells (H3.mem (x := (tb, treeO pp i)) (by simp [HT.out]))
            simp only at t0 t1
            obtain ⟨rz, hrz⟩ : ∃ rz : Int, (n : Int) - (usedN (V 0) n : Int) = rz := ⟨_, rfl⟩
            have hrz0 : 0 ≤ rz := by have := usedN_le (V 0) n; omega
            have HRM := Lib.hid (H3.room (by omega) rz hrz)
            have hgr : GrN x' := by
              have hu := HX.out.2.2.2.2.2.1
              have hl := pkS_law hu.law
              have hk := HK.out
              have hpb := putB_pk ⟨key, val⟩ x.L
              simp only at hpb
              refine ⟨by rw [hL]; exact putB_pos hu.pos, hlc, fun q hq => ?_, by rw [hL]; omega, by rw [hat']; exact hu.at_, by rw [hlv']; exact ⟨hu.law.pos, hu.top⟩⟩
              rw [hL] at hq
              rcases putB_mem hq with rfl | hq
              · exact hk.2.1
              · exact hl.2.2 q hq
            have hGS : ∀ W, PV w0 pp n c V ((wb, wayO cur') :: (g', .cells curl 47 (0, 0)) :: (RL ++ R)) W → GrS w0 pp n R RL wb ns ns.length x' c V W := fun W h => ⟨g', curl, cur', h, by rw [List.take_length]; exact hrow, by rw [hcs]; have := HX.out.2.2.2.1; omega, hsl, hrp, hgr, hyw, hgw⟩
            have hnd : ∀ W, PV w0 pp n c V ((wb, wayO cur') :: (g', .cells curl 47 (0, 0)) :: (RL ++ R)) W → ∀ k y, (ns ++ [x'])[k]? = some y → NdIs W wb (k * 6) y ∧ Mod y.L := fun W h k y hy => by
              by_cases hk : k < ns.length
              · have hy2 : ns[k]? = some y := by rwa [List.getElem?_append_left hk] at hy
                have hu := HX.out.2.2.2.2.2.2.1 y (List.mem_of_getElem? hy2)
                have := hu.small
                exact ⟨nodeIs_of (h.mem (x := (wb, wayO cur')) (by simp)) hrow hy (h.kn (hu.kn.mono fun z hz => by simp [hz])) (by omega), hu.mod⟩
              · have hk2 : k = ns.length := by
                  have := (List.getElem?_eq_some_iff.1 hy).1
                  rw [List.length_append, List.length_singleton] at this
                  omega
                subst hk2
                rw [List.getElem?_append_right (Nat.le_refl _), Nat.sub_self] at hy
                have hy : some x' = some y := hy
                cases hy
                refine ⟨nodeIs_of (i := ns.length) (h.mem (x := (wb, wayO cur')) (by simp)) hrow (by simp) ?_ (by have := hgr.len; omega), hgr.mod⟩
                rw [hsl]
                exact rdP_cur (h.mem (x := (g', .cells curl 47 (0, 0))) (by simp)) hrp
            have HND := Lib.hid hnd
            have HZ := Lib.hid (And.intro hGS (And.intro hL (And.intro hat' (And.intro hlv' H3))))
            clear hGS hnd hgr hL hat' hlv' hlo' hhi' hnx' H3 hrow hcs hsl hrp hlc hyw hgw hlg' hrz
            go_wp2_with fail
            refine HRM.out.mono ?_
            rintro e w4 ⟨rfl, H4⟩
            have hsp := splits_any (w := w4) (b := wb) (cp := cap) (ns := ns ++ [x']) (by rw [List.length_append, List.length_singleton]; omega) (HND.out w4 H4)
            rw [List.length_append, List.length_singleton] at hsp
            have HSP := Lib.hid hsp
            have H4' := Lib.hid H4
            clear H4 hsp HRM t0 t1 HND
            go_wp2_with fail
            refine HSP.out.mono ?_
            rintro e w5 ⟨⟨sk, hsk0, hsk, rfl⟩, hb5⟩
            have H5 := H4'.out.on hb5
            have HG5 := Lib.hid (grow_any (HZ.out.1 w5 H5) (tb := tb) (i := i) (cp := cap) HT.out hn hi (by omega) hlw HX.out.2.2.2.2.2.2.1 hlen)
            have HSK := Lib.hid hsk
            have H5' := Lib.hid H5
            clear H5 hb5 HSP hsk
            have hz : wtP 1 (putB ⟨key, val⟩ x.L) ≤ 254 → sk = 0 := fun h => HSK.out x' (by simp) (by rw [HZ.out.2.1, HZ.out.2.2.2.1, HX.out.2.2.2.2.1]; exact h)
            have hxy : ∀ y, rootZ (V 1) i ≠ 0 → rdN V (outB n (V 0)) (rootM (rootZ (V 1) i)).D = (y, false) → y.level = 1 → x.L = y.L ∧ x.at_ = rootZ (V 1) i ∧ outB n (V 0) x.at_ = true := fun y h0 h1 h2 => by
              have h3 := HLF.out y h0 h1 h2
              rw [HX.out.2.1] at h3
              have h4 : x.D = y := Option.some.inj h3
              have h5 := (rdN_of h1).1
              subst h4
              refine ⟨rfl, h5, ?_⟩
              have h6 : x.at_ = rootZ (V 1) i := h5
              unfold rdN at h1
              cases e : rdP V (outB n (V 0)) (rootM (rootZ (V 1) i)).D with
              | none => rw [e] at h1; simp only [Prod.mk.injEq, Bool.true_eq_false, and_false] at h1
              | some q =>
                obtain ⟨l, L⟩ := q
                rw [h6]
                exact (rdP_some e).1
            have HZZ := Lib.hid (And.intro hz hxy)
            clear hz hxy
            by_cases hlt : rz < sk
            · have HL := Lib.hid hlt
              have f5 : decide (rz < sk) = true := decide_eq_true hlt
              clear hlt HG5
              go_wp2
              go_returns
              refine ⟨V, 13, rfl, fun _ _ _ => ⟨fun h => absurd h HX.out.1, fun y h0 h1 h2 h3 => ?_⟩, (H5'.out.sub R fun y hy => by simp [hy]).mono (by omega)⟩
              have h4 := (HZZ.out.2 y h0 h1 h2).1
              have h5 := HZZ.out.1 (by rw [h4]; exact h3)
              have h6 := HL.out
              omega
            · have f5 : decide (rz < sk) = false := decide_eq_false hlt
              clear hlt
              go_wp2_with fail
              refine HG5.out.mono ?_
              rintro e w6 ⟨V6, z6, rfl, hp6, H6⟩
              have H6f : PV w0 pp n (c + 2000) V6 R w6 := H6.mono (by omega)
              have HF := Lib.hid (And.intro hp6 H6f)
              clear hp6 H6 H6f HG5
              go_wp2
              go_returns
              refine ⟨V6, z6, rfl, fun _ _ _ => ⟨fun h => absurd h HX.out.1, fun y h0 h1 h2 h3 => ?_⟩, HF.out.2⟩
              obtain ⟨h4, h5, h6⟩ := HZZ.out.2 y h0 h1 h2
              have h7 := HF.out.1
              rw [HZ.out.2.1, HZ.out.2.2.1, HZ.out.2.2.2.1, HX.out.2.2.2.2.1, h4] at h7
              rw [h5] at h6 h7
              exact h7 h3 h6 (by rw [pkS_leaf]; exact h3)
      · have f2 : decide ((80 : Int) < val.size) = true := decide_eq_true (by omega)
        have HK := Lib.hid hv1
        clear hk0 hk1 hv1
        go_enter Tryz.func8, Tryz.ntmps8
        go_wp2_with fail
        refine HM.out.mono ?_
        rintro e _ ⟨rfl, rfl⟩
        go_wp2
        go_returns
        exact ⟨V, 21, rfl, fun _ _ h => absurd h HK.out, HH.out.mono (by omega)⟩
    · have f1 : decide ((32 : Int) < key.size) = true := decide_eq_true (by omega)
      have HK := Lib.hid hk1
      clear hk0 hk1
      go_enter Tryz.func8, Tryz.ntmps8
      go_wp2_with fail
      refine HM.out.mono ?_
      rintro e _ ⟨rfl, rfl⟩
      go_wp2
      go_returns
      exact ⟨V, 22, rfl, fun _ h => absurd h HK.out, HH.out.mono (by omega)⟩
end
end Go.Proofs.YtkdhlofcdcnjgaaGreat
namespace Go.Proofs.YtkdhlofcdcnjgaaGreat
set_option maxRecDepth 100000
open Go.ChangeShapes Go.WideShapes Go.ChangeAt Go.RowKit Go.PlainAid Go.Shelf
open Go.Sort (grow)

attribute [local go_sem ↓ high] store_n
section
variable {w0 w w' : World} {pp n c tb : Nat} {V : Int → ByteArray} {R : List (Nat × Obj)} {i : Int}
set_option maxHeartbeats 4000000 in
theorem tget_any (H : PV w0 pp n c V R w) (hT : (tb, treeO pp i) ∈ R) (hn : 1 < n) (hi : 0 ≤ i ∧ i < 16) (key : ByteArray) :
    Calls Tryz.prog 15 #[.pointer (some ⟨tb, 0, none⟩), .string key] w fun e w' => (∃ s z, e = .returned (.tuple #[.string s, .int .i64 z]) ∧ ∀ y p, wayA V n i key = some y → y.L[posP key y.L]? = some p → hitP key y.L = true → s = p.val ∧ z = 0) ∧ PV w0 pp n c V R w' := by
  have HW := Lib.hid (way_any H hT hn hi key)
  clear H
  go_enter Tryz.func15, Tryz.ntmps15
  go_wp2_with fail
  refine HW.out.mono ?_
  clear HW
  rintro e w2 (⟨hA, ⟨z, rfl, hz, hzz⟩, H2⟩ | ⟨ns, x, g, wb, cap, cur, RL, hr0, hA, rfl, H2, hrow, hlw, hcs, hcap, hwb, hgb, hsl, hlv, hup, hups, hlevs, hlen, hat, hlg⟩)
  · have HF := Lib.hid (And.intro hA H2)
    clear hA H2 hzz
    rcases hz with rfl | rfl
    all_goals
      go_wp2
      go_returns
      exact ⟨⟨_, _, rfl, fun y p h => by rw [HF.out.1] at h; cases h⟩, HF.out.2⟩
  · have H3 := H2.push (ndO x)
    have hst := store_nd_fresh w2 x
    unfold NdM.cells at hst
    have hNw := nodeIs_of (H2.mem (x := (wb, wayO cur)) (by simp)) hrow (i := ns.length) (x := x) (by simp) (H2.kn (hup.kn.mono fun y hy => by simp at hy; simp [hy])) (by have := hup.small; omega)
    have d0 := hNw.at_
    have d1 := hNw.level
    have d2 := hNw.low
    have d3 := hNw.high
    have d4 := hNw.list
    have d5 := hNw.next
    have hN := ndIs_of (H3.mem List.mem_cons_self) (H3.kn (hup.kn.mono fun y hy => by simp at hy; simp [hy])) (by have := hup.small; omega)
    have HFI := Lib.hid (find_any key hN (risB_srt hup.law.rise))
    have hs1 : IntKind.i64.wrap (ns.length : Int) = (ns.length : Int) := IntWalk.i64_in _ (by omega)
    have hs3 : (ns.length : Int) < (ns.length : Int) + 1 := by omega
    have hs4 : ns.length < ns.length + 1 := by omega
    have hsm := hup.small
    have hjl := posP_le key x.L
    have HX := Lib.hid (And.intro hA (And.intro hup (And.intro hsl H3)))
    clear H2 H3 hNw hN hrow hwb hgb hsl hup hups hlevs hat hA hlv hr0
    go_wp2_with fail
    refine HFI.out.mono ?_
    rintro e w4 ⟨rfl, hb4⟩
    have H4 := HX.out.2.2.2.on hb4
    clear HFI hb4 d0 d1 d2 d3 d4 d5 hst
    obtain ⟨d0, d1, d2, d3, d4, d5⟩ := nd_cells (H4.mem List.mem_cons_self)
    simp only at d0 d1 d2 d3 d4 d5
    rw [HX.out.2.2.1] at d4
    obtain ⟨j, hj⟩ : ∃ j, posP key x.L = j := ⟨_, rfl⟩
    rw [hj] at hjl
    rw [hj]
    cases hh : hitP key x.L with
    | true =>
      obtain ⟨q, hq, _⟩ := hitP_some hh
      rw [hj] at hq
      have hjl2 := (List.getElem?_eq_some_iff.1 hq).1
      have hqs := HX.out.2.1.mod q (List.mem_of_getElem? hq)
      obtain ⟨g', o', he, _, c0, c1⟩ := (H4.kn (HX.out.2.1.kn.mono fun y hy => by simp at hy; simp [hy])).at hq
      rw [HX.out.2.2.1] at he
      cases he
      rw [Nat.zero_add] at c0 c1
      have HQ := Lib.hid (And.intro hj hq)
      have H4' := Lib.hid H4
      clear H4 hh hj hq
      go_wp2_with fail
      refine (clone_any q.val _ (by omega)).mono ?_
      rintro e w5 ⟨rfl, hb5⟩
      have H5 := Lib.hid (H4'.out.on hb5)
      clear hb5
      go_wp2
      go_returns
      exact ⟨⟨_, _, rfl, fun y p h1 h2 h3 => by
        rw [HX.out.1] at h1
        cases h1
        rw [show posP key x.D.L = j from HQ.out.1, show x.D.L[j]? = some q from HQ.out.2] at h2
        cases h2
        exact ⟨rfl, rfl⟩⟩, H5.out.sub R fun y hy => by simp [hy]⟩
    | false =>
      have HQ := Lib.hid hh
      have H4' := Lib.hid H4
      clear H4 hh hj
      go_wp2
      go_returns
      exact ⟨⟨_, _, rfl, fun y p h1 h2 h3 => by
        rw [HX.out.1] at h1
        cases h1
        rw [show hitP key x.D.L = false from HQ.out] at h3
        cases h3⟩, H4'.out.sub R fun y hy => by simp [hy]⟩
end
end Go.Proofs.YtkdhlofcdcnjgaaGreat
