import Derived.Test.YtcjfnfdinhbdlaaGreatDoorGbl
import Derived.Test.YtcjfnfdinhbdlaaGreatDoorGae
namespace Go.Proofs.YtcjfnfdinhbdlaaGreatDoor
set_option maxRecDepth 100000
open Go.ChangeShapes Go.WideShapes Go.ChangeAt Go.RowKit Go.PlainAid Go.Shelf
open Go.Sort (grow)
attribute [local go_sem ↓ high] store_n
def flatN (ns : List NdM) : List Value := ns.flatMap fun x => x.cells.toList
theorem flatN_len (ns : List NdM) : (flatN ns).length = ns.length * 6 := by
  induction ns with
  | nil => rfl
  | cons x t ih =>
    have e : flatN (x :: t) = x.cells.toList ++ flatN t := rfl
    rw [e, List.length_append, ih, List.length_cons]
    show 6 + _ = _
    omega
theorem flatN_app (A B : List NdM) : flatN (A ++ B) = flatN A ++ flatN B := List.flatMap_append
theorem flatN_at : ∀ (ns : List NdM) (i : Nat) (x : NdM), ns[i]? = some x → ∀ t, t < 6 → (flatN ns)[i * 6 + t]? = x.cells[t]?
  | [], i, x, h => by cases h
  | y :: l, 0, x, h => by
    cases h
    intro t ht
    have e : flatN (y :: l) = y.cells.toList ++ flatN l := rfl
    rw [e, Nat.zero_mul, Nat.zero_add, List.getElem?_append_left (by show t < 6; exact ht), Array.getElem?_toList]
  | y :: l, i + 1, x, h => by
    intro t ht
    have := flatN_at l i x (by simpa using h) t ht
    have e : flatN (y :: l) = y.cells.toList ++ flatN l := rfl
    rw [e, List.getElem?_append_right (by show 6 ≤ _; omega), show (i + 1) * 6 + t - y.cells.toList.length = i * 6 + t by show (i + 1) * 6 + t - 6 = _; omega]
    exact this
def wayO (cur : Array Value) : Obj := .cells cur 116 (0, 0)
def RowN (cur : Array Value) (ns : List NdM) : Prop := cur.toList.take (ns.length * 6) = flatN ns
theorem RowN.at {cur : Array Value} {ns : List NdM} (h : RowN cur ns) {i : Nat} {x : NdM} (hx : ns[i]? = some x) (t : Nat) (ht : t < 6) : cur[i * 6 + t]? = x.cells[t]? := by
  have hi := (List.getElem?_eq_some_iff.1 hx).1
  rw [← flatN_at ns i x hx t ht, ← h, List.getElem?_take_of_lt (by omega), Array.getElem?_toList]
theorem nodeIs_of {w : World} {b : Nat} {cur : Array Value} {ns : List NdM} (h : w.heap[b]? = some (wayO cur)) (hr : RowN cur ns) {i : Nat} {x : NdM} (hx : ns[i]? = some x) (hk : RdP w x.sl x.L) (hl : x.L.length ≤ 4096) : NdIs w b (i * 6) x := by
  have hc := fun t ht => hr.at hx t ht
  unfold wayO at h
  refine ⟨(Array.getElem?_eq_some_iff.1 h).1, ?_, ?_, ?_, ?_, ?_, ?_, hk, hl⟩ <;> rw [cell_of_row _ _ _ _ _ _ h]
  · exact hc 0 (by omega)
  · exact hc 1 (by omega)
  · exact hc 2 (by omega)
  · exact hc 3 (by omega)
  · exact hc 4 (by omega)
  · exact hc 5 (by omega)
structure UpOk (RL : List (Nat × Obj)) (x : NdM) : Prop where
  lst : ∃ g, x.sl = some ⟨g, 0, none⟩ ∧ (g, rowO x.L) ∈ RL
  c : x.c = x.L.length
  law : Lawful x.level x.low x.high x.L
  top : x.level ≤ 255
  at_ : 2 ≤ x.at_ ∧ x.at_ ≤ 1023
  next : ∃ t : Nat, x.next = (t : Int) ∧ t < x.L.length
  mod : Mod x.L
  small : x.L.length ≤ 255
theorem UpOk.mono {RL RL' : List (Nat × Obj)} {x : NdM} (h : UpOk RL x) (hs : ∀ y ∈ RL, y ∈ RL') : UpOk RL' x := by
  obtain ⟨⟨g, a, b⟩, h2, h3, h4, h5, h6, h7, h8⟩ := h
  exact ⟨⟨g, a, hs _ b⟩, h2, h3, h4, h5, h6, h7, h8⟩
theorem UpOk.kn {RL : List (Nat × Obj)} {x : NdM} (h : UpOk RL x) : Kn RL x.sl x.L := by
  obtain ⟨g, a, b⟩ := h.lst
  rw [a]
  exact Kn.of b
theorem UpOk.pos {RL : List (Nat × Obj)} {x : NdM} (h : UpOk RL x) : 0 < x.L.length := by
  obtain ⟨t, _, h⟩ := h.next
  omega
def WayR (lo : Nat) (ns : List NdM) (va : Value) (Rw : List (Nat × Obj)) : Prop :=
  (ns = [] ∧ va = .slice none 0 0 ∧ Rw = []) ∨ ∃ g cap cur, va = .slice (some ⟨g, 0, none⟩) ns.length cap ∧ Rw = [(g, wayO cur)] ∧ lo ≤ g ∧ ns.length ≤ cap ∧ cap ≤ maxLen ∧ cur.size = cap * 6 ∧ RowN cur ns
structure WayK (w0 : World) (ns : List NdM) (va : Value) (Rw RL R : List (Nat × Obj)) : Prop where
  row : WayR w0.heap.size ns va Rw
  up : ∀ x ∈ ns, UpOk RL x
  apart : ∀ y ∈ Rw, ∀ z ∈ RL ++ R, z.1 ≠ y.1
def wayA (V : Int → ByteArray) (n : Nat) (i : Int) (key : ByteArray) : Option NdD :=
  if rootZ (V 1) i = 0 then none else match rdN V (outB n (V 0)) (rootM (rootZ (V 1) i)).D with
    | (_, true) => none
    | (y, false) => leafP V (outB n (V 0)) key 255 y
def upsN (ns : List NdM) : List (NdD × Nat) := (ns.map fun y => (y.D, y.next.toNat)).reverse
def WayC (V : Int → ByteArray) (n : Nat) (i : Int) (key : ByteArray) (ns : List NdM) (x : NdD) : Prop := ∃ y, rdN V (outB n (V 0)) (rootM (rootZ (V 1) i)).D = (y, false) ∧ WayL V (outB n (V 0)) key (upsN ns) x y
def Rws : List NdM → List (Nat × Obj) → Prop
  | [], [] => True
  | y :: ys, r :: rs => y.sl = some ⟨r.1, 0, none⟩ ∧ r.2 = rowO y.L ∧ Rws ys rs
  | _, _ => False
def RowsK (w0 : World) (ns : List NdM) (RL R : List (Nat × Obj)) : Prop := RL.Pairwise (fun a b => a.1 ≠ b.1) ∧ (∀ y ∈ RL, w0.heap.size ≤ y.1 ∧ ∀ z ∈ R, z.1 ≠ y.1) ∧ Rws ns.reverse RL
def lenV : Value → Nat
  | .slice _ n _ => n
  | _ => 0
theorem up_of {w0 W : World} {pp n c g : Nat} {V : Int → ByteArray} {R RL : List (Nat × Obj)} {x y : NdM} (H : PV w0 pp n c V R W) (hr : rdP V (outB n (V 0)) x.D = some (y.level, y.L)) (hG : Got x y g) (hg : (g, rowO y.L) ∈ RL) (hz : x.next = 0) : UpOk RL y := by
  obtain ⟨ho, hu, hl, hlv, hlaw⟩ := rdP_some hr
  have hin : 2 ≤ x.at_ ∧ x.at_ < n := by
    have ho : outB n (V 0) x.at_ = true := ho
    unfold outB at ho
    simp only [Bool.and_eq_true, decide_eq_true_eq] at ho
    omega
  have hpg := H.pages
  have hsz := H.size (k := x.at_) (by omega) hin.2
  have hlen := unpP_len hu
  have hpos : 0 < y.L.length := by
    by_cases h1 : y.level = 1
    · exact (recB_iff.1 (hlaw.recs h1)).2
    · have := (lnkB_iff.1 (hlaw.links h1)).2.1
      omega
  have hlaw2 : Lawful y.level y.low y.high y.L := by rw [hG.low, hG.high]; exact hlaw
  refine ⟨⟨g, hG.sl, hg⟩, hG.c, hlaw2, by rw [hl]; exact bt_le _ _, by rw [hG.at_]; omega, ⟨0, by rw [hG.next, hz]; rfl, hpos⟩, unpP_mod (by show (V x.at_).size ≤ _; omega) hu, by omega⟩
section
variable {w0 w w' : World} {pp n c tb : Nat} {V : Int → ByteArray} {R : List (Nat × Obj)} {i : Int}
theorem info_nodeR : (Tryz.prog.info? 116).map (fun i => (i.zero, i.size, i.bytes)) = some (some (.agg #[.int .i64 0, .int .i64 0, .string ⟨#[]⟩, .string ⟨#[]⟩, .slice none 0 0, .int .i64 0]), 6, 80) := by kernel_rfl
def appN (vs : Array Value) : Sem Value := Builtin.append_ #[110, 110] 110 vs
theorem app_n (vs : Array Value) : Builtin.append_ #[110, 110] 110 vs = appN vs := rfl
set_option maxHeartbeats 1000000 in
/-- A page more on a way. -/
theorem way_push {ns : List NdM} {va : Value} {Rw Y : List (Nat × Obj)} (H : PV w0 pp n c V (Rw ++ Y) w) (hr : WayR w0.heap.size ns va Rw) (hap : ∀ y ∈ Rw, ∀ z ∈ Y, z.1 ≠ y.1) (x : NdM) (hlen : ns.length ≤ 255) :
    ∃ wb cap cur w2, (appN #[va, .slice (some ⟨w.heap.size, 0, none⟩) 1 1]).run Tryz.prog (w.alloc (ndO x)) = .ok (.slice (some ⟨wb, 0, none⟩) (ns.length + 1) cap) w2 ∧
      PV w0 pp n c V ((wb, wayO cur) :: Y) w2 ∧ w0.heap.size ≤ wb ∧ ns.length + 1 ≤ cap ∧ cap ≤ maxLen ∧ cur.size = cap * 6 ∧ RowN cur (ns ++ [x]) ∧ ∀ z ∈ Y, z.1 ≠ wb := by
  have hown : w.ownsRow w0.heap.size 116 6 va ns.length (flatN ns) := by
    refine ⟨flatN_len ns, ?_⟩
    rcases hr with ⟨rfl, rfl, rfl⟩ | ⟨g, cap, cur, rfl, rfl, h1, h2, h3, h4, h5⟩
    · exact .inl ⟨rfl, rfl⟩
    · exact .inr ⟨g, cap, cur, rfl, h1, H.mem (x := (g, wayO cur)) (by simp), h2, h3, h4, h5⟩
  have hn := H.below.size
  have hlt := fun (z : Nat × Obj) (hz : z ∈ Y) => H.lt (x := z) (List.mem_append_right _ hz)
  obtain ⟨i0, hi, hz0, hz1, hz2⟩ := info_parts info_nodeR
  have hq := heap_alloc_new w (ndO x)
  have hba : Below w.heap.size w (w.alloc (ndO x)) := by go_grown
  obtain ⟨g, cap, w2, hrn, h2, h3, h4, _⟩ := run_append_lies (P := Tryz.prog) (w := w.alloc (ndO x)) 110 110 w0.heap.size 116 i0 _ 6 80 Tryz.underlying110 hi hz0 hz1 hz2 (by simp [Value.cells]) (by decide) va ns.length (flatN ns) (World.ownsRow.alloc hown _) ⟨w.heap.size, 0, none⟩ 1 1 x.cells.toList rfl
    (World.news_of_block hq) (nd_one x) (by decide) (by unfold maxLen; omega) (by omega) (by rw [World.size_alloc]; omega) _ rfl
  have hbel : Below w0.heap.size w0 w2 := H.below.trans ((hba.mono hn).grown h3 (by rw [World.size_alloc]; omega) (fun k e => (hown.lt k e).1))
  obtain ⟨_, hh⟩ := h2
  rcases hh with ⟨hz, h00⟩ | ⟨g2, cap2, cur2, hv, hlo, hgb, k1, k2, k3, k4⟩
  · omega
  · cases hv
    have hsz : w.heap.size ≤ w2.heap.size := Nat.le_trans hba.size h3.size
    have hoth : ∀ k, k < w.heap.size → va.ownBlock ≠ some k → w2.heap[k]? = w.heap[k]? := fun k hk hne => (h3.block k (Nat.lt_of_lt_of_le hk hba.size) (fun e => hne e.symm)).trans (hba.block k hk)
    have hrow : RowN cur2 (ns ++ [x]) := by
      unfold RowN
      rw [flatN_app, List.length_append]
      have e : flatN [x] = x.cells.toList := by simp [flatN]
      rw [e]
      exact k4
    refine ⟨g, cap, cur2, w2, hrn, ?_, hlo, k1, k2, k3, hrow, ?_⟩
    · rcases hr with ⟨rfl, rfl, rfl⟩ | ⟨g1, cap1, cur1, rfl, rfl, _⟩
      · have hg2 : w.heap.size ≤ g := by
          rcases h4 with h | h
          · cases h
          · rw [h, World.size_alloc]; omega
        exact PV.add (R := Y) H ⟨h3.os.trans hba.os, h3.tape.trans hba.tape, h3.output.trans hba.output, hsz, fun k hk => hoth k hk (by simp [Value.ownBlock])⟩ hg2 hgb
      · have hne : pp ≠ g1 := PV.ne (x := (g1, wayO cur1)) H (by simp) rfl (by decide)
        have hg2 : g = g1 ∨ w.heap.size ≤ g := by
          rcases h4 with h | h
          · exact .inl (Option.some.inj (by simpa [Value.ownBlock] using h)).symm
          · exact .inr (by rw [h, World.size_alloc]; omega)
        exact PV.swap (R := Y) H (fun z hz => hap (g1, wayO cur1) (by simp) z hz) hne hsz (fun k hk hkb => hoth k hk (by simp [Value.ownBlock]; omega)) hg2 hgb hbel
    · intro z hz e
      rcases h4 with h | h
      · rcases hr with ⟨rfl, rfl, rfl⟩ | ⟨g1, cap1, cur1, rfl, rfl, _⟩
        · cases h
        · have h : some g1 = some g := by simpa [Value.ownBlock] using h
          cases h
          exact hap (_, wayO cur1) List.mem_cons_self z hz e
      · have := hlt z hz
        rw [World.size_alloc] at h
        omega
def WayPost (w0 : World) (pp n c : Nat) (V : Int → ByteArray) (R : List (Nat × Obj)) (i : Int) (key : ByteArray) (e : Ending) (w' : World) : Prop :=
  (wayA V n i key = none ∧ (∃ z, e = .returned (.tuple #[.slice none 0 0, .int .i64 z]) ∧ (z = 0 ∨ z = 6) ∧ (z = 0 ↔ rootZ (V 1) i = 0)) ∧ PV w0 pp n c V R w') ∨
  ∃ ns x g wb cap cur RL, rootZ (V 1) i ≠ 0 ∧ wayA V n i key = some x.D ∧ e = .returned (.tuple #[.slice (some ⟨wb, 0, none⟩) (ns.length + 1) cap, .int .i64 0]) ∧
    PV w0 pp n c V ((wb, wayO cur) :: (g, rowO x.L) :: (RL ++ R)) w' ∧ RowN cur (ns ++ [x]) ∧ w0.heap.size ≤ wb ∧ cur.size = cap * 6 ∧ ns.length + 1 ≤ cap ∧ (∀ y ∈ (g, rowO x.L) :: (RL ++ R), y.1 ≠ wb) ∧ (∀ y ∈ RL ++ R, y.1 ≠ g) ∧
    x.sl = some ⟨g, 0, none⟩ ∧ x.level = 1 ∧ UpOk [(g, rowO x.L)] x ∧ (∀ y ∈ ns, UpOk RL y) ∧ (∀ y ∈ ns, 1 < y.level) ∧ ns.length ≤ 255 ∧ WayC V n i key ns x.D ∧ w0.heap.size ≤ g ∧ RowsK w0 ns RL R
def WayN (w0 : World) (n : Nat) (V : Int → ByteArray) (i : Int) (key : ByteArray) (ns : List NdM) (x : NdM) (z : Int) (RX : List (Nat × Obj)) (Y : List (Nat × Obj)) : Prop :=
  (z = 0 ∧ rootZ (V 1) i ≠ 0 ∧ UpOk RX x ∧ (∃ g, RX = [(g, rowO x.L)] ∧ x.sl = some ⟨g, 0, none⟩ ∧ w0.heap.size ≤ g ∧ ∀ y ∈ Y, y.1 ≠ g) ∧ WayC V n i key ns x.D ∧ ∃ k : Nat, x.level ≤ (k : Int) ∧ ns.length + k ≤ 255 ∧ wayA V n i key = leafP V (outB n (V 0)) key k x.D) ∨
  (z = 6 ∧ rootZ (V 1) i ≠ 0 ∧ RX = [] ∧ x.L = [] ∧ wayA V n i key = none) ∨
  (z = 0 ∧ rootZ (V 1) i = 0 ∧ x.at_ = 0 ∧ RX = [] ∧ x.L = [] ∧ wayA V n i key = none)
theorem start_n {key : ByteArray} {R : List (Nat × Obj)} {e : Ending} (h : StartPost w0 pp n c V R i e w') : ∃ x z RX, e = .returned (.tuple #[.agg x.cells, .int .i64 z]) ∧ WayN w0 n V i key [] x z RX R ∧ PV w0 pp n c V (RX ++ R) w' := by
  rcases h with ⟨hz, rfl, H⟩ | ⟨hz, ⟨hP, rfl, H⟩ | ⟨y, g, hP, hG, hf, rfl, H⟩⟩
  · exact ⟨zeroN, 0, [], rfl, .inr (.inr ⟨rfl, hz, rfl, rfl, rfl, by unfold wayA; rw [if_pos hz]⟩), H⟩
  · exact ⟨_, 6, [], rfl, .inr (.inl ⟨rfl, hz, rfl, rfl, by unfold wayA; rw [if_neg hz, rdN_none hP]⟩), H⟩
  · have hu := up_of (RL := [(g, rowO y.L)]) H hP hG List.mem_cons_self rfl
    refine ⟨y, 0, [(g, rowO y.L)], rfl, .inl ⟨rfl, hz, hu, ⟨g, rfl, hG.sl, hf⟩, ⟨_, rdN_some hP hG, rfl⟩, 255, hu.top, Nat.le_refl _, ?_⟩, H⟩
    unfold wayA
    rw [if_neg hz, rdN_some hP hG]
theorem WayN.more {key : ByteArray} {ns : List NdM} {x : NdM} {z : Int} {RX Y Y' : List (Nat × Obj)} (h : WayN w0 n V i key ns x z RX Y) (hy : ∀ g, RX = [(g, rowO x.L)] → (∀ y ∈ Y, y.1 ≠ g) → ∀ y ∈ Y', y.1 ≠ g) : WayN w0 n V i key ns x z RX Y' := by
  rcases h with ⟨a, b, c, ⟨g, d, e, f, h⟩, k, l⟩ | h | h
  · exact .inl ⟨a, b, c, ⟨g, d, e, f, hy g d h⟩, k, l⟩
  · exact .inr (.inl h)
  · exact .inr (.inr h)
theorem towP_lt {key : ByteArray} {L : List Pr} (h : 0 < L.length) : towP key L < L.length := by
  have h1 := posP_le key L
  unfold towP
  split
  · omega
  · next hq =>
    by_cases hh : hitP key L = true
    · obtain ⟨p, hp, _⟩ := hitP_some hh
      exact (List.getElem?_eq_some_iff.1 hp).1
    · have : ¬ 0 < posP key L := fun hp => hq ⟨by simpa using hh, hp⟩
      omega
attribute [local go_sem ↓ high] app_n
set_option maxHeartbeats 8000000 in
theorem way_any (H : PV w0 pp n c V R w) (hT : (tb, treeO pp i) ∈ R) (hn : 1 < n) (hi : 0 ≤ i ∧ i < 16) (key : ByteArray) :
    Calls Tryz.prog 63 #[.pointer (some ⟨tb, 0, none⟩), .string key] w (WayPost w0 pp n c V R i key) := by
  have HS := Lib.hid (start_any H hT hn hi)
  have hlt0 := H.below.size
  have HT := Lib.hid hT
  clear H hT
  go_enter Tryz.func63, Tryz.ntmps63
  go_wp2_with fail
  refine HS.out.mono ?_
  clear HS
  intro e w4 h4
  obtain ⟨x, z, RX, rfl, hN, H4⟩ := start_n (key := key) h4
  have H5 := H4.push (ndO x)
  have hst := store_nd_fresh w4 x
  unfold NdM.cells at hst
  have hnl := H4.below.size
  have hYl : ∀ y ∈ RX ++ R, y.1 ≠ w4.heap.size := fun y hy e => by have := H4.lt hy; omega
  have HN := Lib.hid (And.intro hN (And.intro H5 hYl))
  clear h4 hN H4 H5 hYl
  unfold NdM.cells
  obtain ⟨nb, hnb⟩ : ∃ nb, w4.heap.size = nb := ⟨_, rfl⟩
  rw [hnb] at HN hst hnl
  go_wp2_with fail
  obtain ⟨W5, hW5⟩ : ∃ W5, w4.alloc (ndO x) = W5 := ⟨_, rfl⟩
  rw [hW5] at HN
  rw [hW5]
  clear hst hnb hW5
  go_loopw [6, 8] (fun l e wr => ∃ (ns : List NdM) (x : NdM) (z : Int) (RX Rw RL : List (Nat × Obj)), e = .int .i64 z ∧ Hid (WayK w0 ns l Rw RL ((nb, ndO x) :: (RX ++ R)) ∧ WayN w0 n V i key ns x z RX (Rw ++ ((nb, ndO x) :: (RL ++ R))) ∧ (∀ y ∈ ns, 1 < y.level) ∧ (rootZ (V 1) i = 0 → ns = [])) ∧ ns.length ≤ 255 ∧ Hid (RowsK w0 ns RL R) ∧
    Hid (PV w0 pp n c V ((nb, ndO x) :: (RX ++ (Rw ++ (RL ++ R)))) wr ∧ ∀ y ∈ RX ++ (Rw ++ (RL ++ R)), y.1 ≠ nb)) (fun l _ _ => 256 - lenV l)
  case atStart => exact ⟨[], x, z, RX, [], [], rfl, Lib.hid ⟨⟨.inl ⟨rfl, rfl, rfl⟩, fun _ h => (by cases h), fun _ h => (by cases h)⟩, HN.out.1.more fun g hg h y hy => by
      rcases List.mem_cons.1 hy with rfl | hy
      · have := HN.out.2.2 (g, rowO x.L) (by rw [hg]; simp)
        exact fun e => this e.symm
      · exact h y hy, fun _ h => (by cases h), fun _ => rfl⟩, Nat.zero_le _, Lib.hid ⟨List.Pairwise.nil, (fun _ h => (by cases h)), trivial⟩, Lib.hid ⟨HN.out.2.1, HN.out.2.2⟩⟩
  case round =>
    obtain ⟨ns, x, z, RX, Rw, RL, rfl, HK, hlen, HRK, HP⟩ := hrel
    clear HN
    obtain ⟨d0, d1, d2, d3, d4, d5⟩ := nd_cells (HP.out.1.mem List.mem_cons_self)
    simp only at d0 d1 d2 d3 d4 d5
    obtain ⟨hK, hN, hlev, hz0⟩ := HK.out
    rcases hN with ⟨rfl, hr0, hup, ⟨g, rfl, hsl, hgl, hgf⟩, hrt, k, hk, hnk, hwA⟩ | ⟨rfl, hr0, rfl, _, hwA⟩ | ⟨rfl, hr0, ha0, rfl, _, hwA⟩
    · have f0 : (x.at_ != 0) = true := by have := hup.at_; simp; omega
      have hst := store_nd_fresh wr x
      unfold NdM.cells at hst
      by_cases h1 : x.level = 1
      · have f1 : (x.level == 1) = true := by simpa using h1
        have HY : PV w0 pp n c V (Rw ++ ((nb, ndO x) :: (g, rowO x.L) :: (RL ++ R))) wr := HP.out.1.sub _ fun y hy => by
          simp only [List.mem_cons, List.mem_append, List.not_mem_nil, or_false] at hy ⊢
          rcases hy with h | h | h | h | h
          · exact .inr (.inr (.inl h))
          · exact .inl h
          · exact .inr (.inl h)
          · exact .inr (.inr (.inr (.inl h)))
          · exact .inr (.inr (.inr (.inr h)))
        have hap : ∀ y ∈ Rw, ∀ z ∈ (nb, ndO x) :: (g, rowO x.L) :: (RL ++ R), z.1 ≠ y.1 := fun y hy z hz => hK.apart y hy z (by
          simp only [List.mem_cons, List.mem_append, List.not_mem_nil, or_false] at hz ⊢
          rcases hz with h | h | h | h
          · exact .inr (.inl h)
          · exact .inr (.inr (.inl h))
          · exact .inl h
          · exact .inr (.inr (.inr h)))
        obtain ⟨wb, cap, cur, w7, heq, H7, q1, q2, q3, q4, q5, q6⟩ := way_push HY hK.row hap x hlen
        have hlf : wayA V n i key = some x.D := by
          rw [hwA]
          cases k with
          | zero => have := hup.law.pos; omega
          | succ k =>
            unfold leafP
            rw [if_pos (by exact h1)]
        have HX : Hid (WayPost w0 pp n c V R i key (.returned (.tuple #[.slice (some ⟨wb, 0, none⟩) (ns.length + 1) cap, .int .i64 0])) w7) := Lib.hid (.inr ⟨ns, x, g, wb, cap, cur, RL, hr0, hlf, rfl, H7.sub _ (fun y hy => by
            simp only [List.mem_cons] at hy ⊢
            rcases hy with h | h
            · exact .inl h
            · exact .inr (.inr h)), q5, q1, q4, q2, fun y hy => q6 y (List.mem_cons_of_mem _ hy), fun y hy => hgf y (by
              simp only [List.mem_cons, List.mem_append] at hy ⊢
              exact .inr (.inr hy)), hsl, h1, hup, hK.up, hlev, hlen, hrt, hgl, HRK.out⟩)
        unfold ndO NdM.cells at heq
        clear hup hsl hgl hgf hrt hk hwA hK hlev hz0 HK hr0 h1 HY hap H7 q1 q2 q3 q4 q5 q6 hlf hnk
        go_wp2_with fail
        go_returns
        exact HX.out
      · have f1 : (x.level == 1) = false := by simpa using h1
        have hlk := lnkB_iff.1 (hup.law.links h1)
        have hpos := hup.law.pos
        have htop := hup.top
        have hsml := hup.small
        have hNd := ndIs_of (HP.out.1.mem List.mem_cons_self) (HP.out.1.kn (hup.kn.mono fun y hy => by simp at hy; simp [hy])) (by omega)
        have HTW := Lib.hid (toward_any key hNd (risB_srt hup.law.rise))
        have hlt := towP_lt (key := key) hup.pos
        obtain ⟨t, ht⟩ : ∃ t, towP key x.L = t := ⟨_, rfl⟩
        rw [ht] at HTW hlt
        obtain ⟨p, hp⟩ : ∃ p, x.L[t]? = some p := ⟨_, List.getElem?_eq_getElem hlt⟩
        have hpv := hlk.1 p (List.mem_of_getElem? hp)
        have hlv : lenV u6 = ns.length := by
          rcases hK.row with ⟨rfl, rfl, rfl⟩ | ⟨_, _, _, rfl, _⟩ <;> rfl
        have HX := Lib.hid (And.intro hup (And.intro hsl (And.intro hgl (And.intro hgf (And.intro hrt (And.intro hwA (And.intro hr0 (And.intro hlev (And.intro hK (And.intro hlv (And.intro hp (And.intro ht (And.intro h1 hk)))))))))))))
        clear hup hsl hgl hgf hrt hwA hK hlev hz0 HK hr0 h1 hNd hlk hlv hp ht hst hk
        go_wp2_with fail
        refine HTW.out.mono ?_
        rintro e w5 ⟨rfl, hb5⟩
        have H5 := HP.out.1.on hb5
        have H6 := H5.into HP.out.2 (by decide) hnl 5 (.int .i64 (t : Int))
        clear HTW hb5 d0 d1 d2 d3 d4 d5
        obtain ⟨d0, d1, d2, d3, d4, d5⟩ := nd_cells (H5.mem List.mem_cons_self)
        have f5 := nd_thaw (H5.mem List.mem_cons_self) 5
        simp only at d0 d1 d2 d3 d4 d5 f5
        obtain ⟨x', hx'⟩ : ∃ x' : NdM, ({ x with next := (t : Int) } : NdM) = x' := ⟨_, rfl⟩
        have hxc : x'.cells = #[.int .i64 x.at_, .int .i64 x.level, .string x.low, .string x.high, .slice x.sl x.L.length x.c, .int .i64 (t : Int)] := by rw [← hx']; rfl
        have hxe : x'.L = x.L ∧ x'.sl = x.sl ∧ x'.c = x.c ∧ x'.at_ = x.at_ ∧ x'.level = x.level ∧ x'.low = x.low ∧ x'.high = x.high ∧ x'.next = (t : Int) := by rw [← hx']; exact ⟨rfl, rfl, rfl, rfl, rfl, rfl, rfl, rfl⟩
        have H6 : PV w0 pp n c V ((nb, ndO x') :: ([(g, rowO x.L)] ++ (Rw ++ (RL ++ R)))) (w5.setCell ⟨nb, 5, none⟩ (.int .i64 (t : Int))) := by
          unfold ndO
          rw [hxc]
          exact H6
        obtain ⟨W6, hW6⟩ : ∃ W6, w5.setCell ⟨nb, 5, none⟩ (.int .i64 (t : Int)) = W6 := ⟨_, rfl⟩
        rw [hW6] at H6
        have HY : PV w0 pp n c V (Rw ++ ((nb, ndO x') :: (g, rowO x.L) :: (RL ++ R))) W6 := H6.sub _ fun y hy => by
          simp only [List.mem_cons, List.mem_append, List.not_mem_nil, or_false] at hy ⊢
          rcases hy with h | h | h | h | h
          · exact .inr (.inr (.inl h))
          · exact .inl h
          · exact .inr (.inl h)
          · exact .inr (.inr (.inr (.inl h)))
          · exact .inr (.inr (.inr (.inr h)))
        have hK := HX.out.2.2.2.2.2.2.2.2.1
        have hap : ∀ y ∈ Rw, ∀ z ∈ (nb, ndO x') :: (g, rowO x.L) :: (RL ++ R), z.1 ≠ y.1 := fun y hy z hz => by
          simp only [List.mem_cons, List.mem_append] at hz
          rcases hz with rfl | h | h | h
          · exact hK.apart y hy (nb, ndO x) (by simp)
          · exact hK.apart y hy z (by simp [h])
          · exact hK.apart y hy z (by simp [h])
          · exact hK.apart y hy z (by simp [h])
        obtain ⟨wb, cap, cur, w7, heq, H7, q1, q2, q3, q4, q5, q6⟩ := way_push HY hK.row hap x' hlen
        have k6 := nd_cells (HY.mem (x := (nb, ndO x')) (by simp))
        obtain ⟨k0, k1, k2, k3, k4, k5⟩ := k6
        obtain ⟨e1, e2, e3, e4, e5, e6, e7, e8⟩ := hxe
        simp only at k0 k1 k2 k3 k4 k5
        rw [e4] at k0
        rw [e5] at k1
        rw [e6] at k2
        rw [e7] at k3
        rw [e1, e2, e3] at k4
        rw [e8] at k5
        have hst := store_nd_fresh W6 x'
        rw [hxc] at hst
        unfold ndO at heq hst
        rw [hxc] at heq hst
        have hup' : UpOk [(g, rowO x.L)] x' := by
          obtain ⟨a1, a2, a3, a4, a5, a6, a7, a8⟩ := HX.out.1
          refine ⟨by rw [e1, e2]; exact a1, by rw [e1, e3]; exact a2, by rw [e1, e5, e6, e7]; exact a3, by rw [e5]; exact a4, by rw [e4]; exact a5, ⟨t, e8, by rw [e1]; exact hlt⟩, by rw [e1]; exact a7, by rw [e1]; exact a8⟩
        have HB := Lib.hid (below_any H7 (tb := tb) (i := i) (by simp [HT.out]) (by omega) x' (hup'.kn.mono fun y hy => by simp at hy; simp [hy]) (by rw [e5]; have := HX.out.2.2.2.2.2.2.2.2.2.2.2.2.1; omega) (by rw [e1]; omega) t p (by rw [e1]; exact HX.out.2.2.2.2.2.2.2.2.2.2.1) hpv)
        rw [hxc] at HB
        obtain ⟨g0, g1, g2, g3, g4, g5⟩ := nd_cells (H7.mem (x := (nb, ndO x')) (by simp))
        simp only at g0 g1 g2 g3 g4 g5
        rw [e4] at g0
        rw [e5] at g1
        rw [e6] at g2
        rw [e7] at g3
        rw [e1, e2, e3] at g4
        rw [e8] at g5
        have HZ := Lib.hid (And.intro hup' (And.intro hx' (And.intro H7 (And.intro q1 (And.intro q2 (And.intro q3 (And.intro q4 (And.intro q5 q6))))))))
        clear H5 H6 HY hap H7 q1 q2 q3 q4 q5 q6 hup' hx' hxc e1 e2 e3 e4 e5 e6 e7 e8 hK
        go_wp2_with fail
        refine HB.out.mono ?_
        clear HB d0 d1 d2 d3 d4 d5 k0 k1 k2 k3 k4 k5 g0 g1 g2 g3 g4 g5 f5 heq hst
        obtain ⟨xr, hxr⟩ : ∃ xr, kidM x' p (hiM x' t) = xr := ⟨_, rfl⟩
        rw [hxr]
        have hD : x'.D = x.D ∧ x'.level = x.level := by rw [← HZ.out.2.1]; exact ⟨rfl, rfl⟩
        have hxl : xr.level = x.level - 1 ∧ xr.L = [] ∧ xr.next = 0 := by rw [← hxr, ← hD.2]; exact ⟨rfl, rfl, rfl⟩
        have hkd : xr.D = kidN x.D t := by
          have := kid_D (x := x') (j := t) (p := p) (by rw [← HZ.out.2.1]; exact HX.out.2.2.2.2.2.2.2.2.2.2.1)
          rw [hxr, hD.1] at this
          exact this
        have hstep : ∀ k' : Nat, k = k' + 1 → wayA V n i key = match rdN V (outB n (V 0)) xr.D with
            | (_, true) => none
            | (y, false) => leafP V (outB n (V 0)) key k' y := fun k' e => by
          rw [HX.out.2.2.2.2.2.1, e]
          conv => lhs; unfold leafP
          rw [if_neg (show ¬ x.D.level = 1 from HX.out.2.2.2.2.2.2.2.2.2.2.2.2.1), show towP key x.D.L = t from HX.out.2.2.2.2.2.2.2.2.2.2.2.1, ← hkd]
          generalize rdN V (outB n (V 0)) xr.D = r
          obtain ⟨y, b⟩ := r
          cases b <;> rfl
        have hk1 : ∃ k' : Nat, k = k' + 1 := by
          have := HX.out.2.2.2.2.2.2.2.2.2.2.2.2.2
          exact ⟨k - 1, by omega⟩
        obtain ⟨k', rfl⟩ := hk1
        have hstep := hstep k' rfl
        have hwn : ∀ z ∈ (wb, wayO cur) :: (g, rowO x.L) :: (RL ++ R), z.1 ≠ nb := fun z hz e => by
          rcases List.mem_cons.1 hz with rfl | hz
          · exact HZ.out.2.2.2.2.2.2.2.2 (nb, ndO x') List.mem_cons_self e.symm
          · rcases List.mem_cons.1 hz with rfl | hz
            · exact HP.out.2 (g, rowO x.L) (by simp) e
            · exact HP.out.2 z (by simp only [List.mem_append] at hz ⊢; exact .inr (.inr hz)) e
        have hup2 : ∀ z ∈ ns ++ [x'], UpOk ((g, rowO x.L) :: RL) z := fun z hz => by
          rcases List.mem_append.1 hz with hz | hz
          · exact (HX.out.2.2.2.2.2.2.2.2.1.up z hz).mono fun _ h => List.mem_cons_of_mem _ h
          · rw [List.mem_singleton] at hz
            subst hz
            exact HZ.out.1.mono fun y hy => by simp at hy; simp [hy]
        have hlv2 : ∀ z ∈ ns ++ [x'], 1 < z.level := fun z hz => by
          rcases List.mem_append.1 hz with hz | hz
          · exact HX.out.2.2.2.2.2.2.2.1 z hz
          · rw [List.mem_singleton] at hz
            subst hz
            rw [hD.2]
            have := HX.out.2.2.2.2.2.2.2.2.2.2.2.2.1
            omega
        have hln : (ns ++ [x']).length = ns.length + 1 := by simp
        have HRK2 : Hid (RowsK w0 (ns ++ [x']) ((g, rowO x.L) :: RL) R) := Lib.hid ⟨List.pairwise_cons.2 ⟨fun y hy e => HX.out.2.2.2.1 y (by simp [hy]) e.symm, HRK.out.1⟩, fun y hy => by
          rcases List.mem_cons.1 hy with rfl | hy
          · exact ⟨HX.out.2.2.1, fun z hz => HX.out.2.2.2.1 z (by simp [hz])⟩
          · exact HRK.out.2.1 y hy, by
          rw [List.reverse_append]
          exact ⟨by rw [← HZ.out.2.1]; exact HX.out.2.1, by rw [← HZ.out.2.1], HRK.out.2.2⟩⟩
        have HCH : Hid (∀ yD, rdN V (outB n (V 0)) xr.D = (yD, false) → WayC V n i key (ns ++ [x']) yD) := Lib.hid fun yD h => by
          obtain ⟨y0, c1, c2⟩ := HX.out.2.2.2.2.1
          have e : upsN (ns ++ [x']) = (x.D, t) :: upsN ns := by
            unfold upsN
            rw [List.map_append, List.reverse_append, ← HZ.out.2.1]
            rfl
          refine ⟨y0, c1, ?_⟩
          rw [e]
          exact ⟨HX.out.2.2.2.2.2.2.2.2.2.2.2.1.symm, HX.out.2.2.2.2.2.2.2.2.2.2.2.2.1, by rw [← hkd]; exact h, c2⟩
        have HU := Lib.hid (And.intro hup2 (And.intro hlv2 (And.intro hwn (And.intro hstep (And.intro hln hxl)))))
        clear hup2 hlv2 hwn hstep hln hkd hD hxr hxl
        rintro e w8 (⟨hP, rfl, H8⟩ | ⟨y, g9, hP, hG, hfr, rfl, H8⟩)
        · have H9 : PV w0 pp n c V ((nb, ndO x') :: ((wb, wayO cur) :: (g, rowO x.L) :: (RL ++ R))) w8 := H8.turn
          obtain ⟨W9, hst2, H10⟩ := H9.storeN HU.out.2.2.1 hnl xr
          have hnone : wayA V n i key = none := by rw [HU.out.2.2.2.1, rdN_none hP]
          have HW := Lib.hid (And.intro H10 hnone)
          unfold NdM.cells at hst2 ⊢
          clear H8 H9 H10 hP hnone
          go_wp2
          go_roundw
          case rel => exact ⟨ns ++ [x'], xr, 6, [], [(wb, wayO cur)], (g, rowO x.L) :: RL, rfl, Lib.hid ⟨⟨.inr ⟨wb, cap, cur, by rw [HU.out.2.2.2.2.1], rfl, HZ.out.2.2.2.1, by rw [HU.out.2.2.2.2.1]; exact HZ.out.2.2.2.2.1, HZ.out.2.2.2.2.2.1, HZ.out.2.2.2.2.2.2.1, HZ.out.2.2.2.2.2.2.2.1⟩, HU.out.1, fun y hy z hz => by
              rw [List.mem_singleton] at hy
              subst hy
              simp only [List.mem_cons, List.mem_append, List.nil_append] at hz
              rcases hz with (h | h) | (h | h)
              · exact HZ.out.2.2.2.2.2.2.2.2 z (by simp [h])
              · exact HZ.out.2.2.2.2.2.2.2.2 z (by simp [h])
              · rw [h]; exact HZ.out.2.2.2.2.2.2.2.2 (nb, ndO x') (by simp)
              · exact HZ.out.2.2.2.2.2.2.2.2 z (by simp [h])⟩, .inr (.inl ⟨rfl, HX.out.2.2.2.2.2.2.1, rfl, HU.out.2.2.2.2.2.2.1, HW.out.2⟩), HU.out.2.1, fun h => absurd h HX.out.2.2.2.2.2.2.1⟩, by rw [HU.out.2.2.2.2.1]; omega, HRK2, Lib.hid ⟨HW.out.1, HU.out.2.2.1⟩⟩
          case measure =>
            show 256 - (ns.length + 1) < 256 - lenV u6
            rw [HX.out.2.2.2.2.2.2.2.2.2.1]
            omega
        · have hu9 := up_of (RL := [(g9, rowO y.L)]) H8 hP hG List.mem_cons_self HU.out.2.2.2.2.2.2.2
          have hlv9 : y.level ≤ (k' : Int) := by
            have h1 := (rdP_some hP).2.2.2.1
            have h2 : xr.D.level = x.level - 1 := HU.out.2.2.2.2.2.1
            have h3 := HX.out.2.2.2.2.2.2.2.2.2.2.2.2.2
            have h4 := HX.out.2.2.2.2.2.2.2.2.2.2.2.2.1
            omega
          have H9 : PV w0 pp n c V ((nb, ndO x') :: ((g9, rowO y.L) :: (wb, wayO cur) :: (g, rowO x.L) :: (RL ++ R))) w8 := H8.sub _ fun z hz => by
            simp only [List.mem_cons] at hz ⊢
            rcases hz with h | h | h | h
            · exact .inr (.inr (.inl h))
            · exact .inl h
            · exact .inr (.inl h)
            · exact .inr (.inr (.inr h))
          have hn9 : ∀ z ∈ (g9, rowO y.L) :: (wb, wayO cur) :: (g, rowO x.L) :: (RL ++ R), z.1 ≠ nb := fun z hz e => by
            rcases List.mem_cons.1 hz with rfl | hz
            · exact hfr.2 (nb, ndO x') (by simp) e.symm
            · exact HU.out.2.2.1 z hz e
          obtain ⟨W9, hst2, H10⟩ := H9.storeN hn9 hnl y
          have HCH2 := Lib.hid (HCH.out _ (rdN_some hP hG))
          have hsome : wayA V n i key = leafP V (outB n (V 0)) key k' y.D := by rw [HU.out.2.2.2.1, rdN_some hP hG]
          have HW := Lib.hid (And.intro H10 (And.intro hsome (And.intro hfr (And.intro hu9 (And.intro hlv9 (And.intro hn9 hG))))))
          unfold NdM.cells at hst2 ⊢
          clear H8 H9 H10 hP hsome hfr hu9 hlv9 hn9 hG
          go_wp2
          go_roundw
          case rel => exact ⟨ns ++ [x'], y, 0, [(g9, rowO y.L)], [(wb, wayO cur)], (g, rowO x.L) :: RL, rfl, Lib.hid ⟨⟨.inr ⟨wb, cap, cur, by rw [HU.out.2.2.2.2.1], rfl, HZ.out.2.2.2.1, by rw [HU.out.2.2.2.2.1]; exact HZ.out.2.2.2.2.1, HZ.out.2.2.2.2.2.1, HZ.out.2.2.2.2.2.2.1, HZ.out.2.2.2.2.2.2.2.1⟩, HU.out.1, fun q hq z hz => by
              rw [List.mem_singleton] at hq
              subst hq
              simp only [List.mem_cons, List.mem_append, List.not_mem_nil, or_false] at hz
              rcases hz with (h | h) | (h | h | h)
              · exact HZ.out.2.2.2.2.2.2.2.2 z (by simp [h])
              · exact HZ.out.2.2.2.2.2.2.2.2 z (by simp [h])
              · rw [h]; exact HZ.out.2.2.2.2.2.2.2.2 (nb, ndO x') (by simp)
              · rw [h]; exact fun e => HW.out.2.2.1.2 (wb, wayO cur) (by simp) e.symm
              · exact HZ.out.2.2.2.2.2.2.2.2 z (by simp [h])⟩, .inl ⟨rfl, HX.out.2.2.2.2.2.2.1, HW.out.2.2.2.1, ⟨g9, rfl, HW.out.2.2.2.2.2.2.sl, HW.out.2.2.1.1, fun z hz => by
              simp only [List.mem_cons, List.mem_append, List.not_mem_nil, or_false] at hz
              rcases hz with h | h | (h | h) | h
              · exact HW.out.2.2.1.2 z (by simp [h])
              · rw [h]; exact HW.out.2.2.1.2 (nb, ndO x') (by simp)
              · exact HW.out.2.2.1.2 z (by simp [h])
              · exact HW.out.2.2.1.2 z (by simp [h])
              · exact HW.out.2.2.1.2 z (by simp [h])⟩, HCH2.out, k', HW.out.2.2.2.2.1, by rw [HU.out.2.2.2.2.1]; omega, HW.out.2.1⟩, HU.out.2.1, fun h => absurd h HX.out.2.2.2.2.2.2.1⟩, by rw [HU.out.2.2.2.2.1]; omega, HRK2, Lib.hid ⟨HW.out.1, HW.out.2.2.2.2.2.1⟩⟩
          case measure =>
            show 256 - (ns.length + 1) < 256 - lenV u6
            rw [HX.out.2.2.2.2.2.2.2.2.2.1]
            omega
    · clear hK hlev hz0 HK
      have HX : Hid (WayPost w0 pp n c V R i key (.returned (.tuple #[.slice none 0 0, .int .i64 6])) wr) := Lib.hid (.inl ⟨hwA, ⟨6, rfl, .inr rfl, ⟨fun h => (by cases h), fun h => absurd h hr0⟩⟩, HP.out.1.sub _ fun y hy => by simp [hy]⟩)
      clear hr0 hwA
      go_wp2_with fail
      all_goals
        go_returns
        exact HX.out
    · clear hK hlev hz0 HK
      have f0 : (x.at_ != 0) = false := by rw [ha0]; rfl
      have HX : Hid (WayPost w0 pp n c V R i key (.returned (.tuple #[.slice none 0 0, .int .i64 0])) wr) := Lib.hid (.inl ⟨hwA, ⟨0, rfl, .inl rfl, ⟨fun _ => hr0, fun _ => rfl⟩⟩, HP.out.1.sub _ fun y hy => by simp [hy]⟩)
      clear hr0 hwA ha0
      go_wp2_with fail
      go_returns
      exact HX.out
end
end Go.Proofs.YtcjfnfdinhbdlaaGreatDoor
