/- Package store: finish. -/
import Derived.Test.YtfcicpcpdklceaaSC
import Derived.Test.YtfcicpcpdklceaaSJPack
namespace Go.Proofs.Ytfcicpcpdklceaa
set_option maxRecDepth 100000
open Go.ChangeShapes Go.WideShapes Go.ChangeAt Go.RowKit Go.PlainAid
open Go.Sort (grow)

/-- A new block beside the disk, made by a call. -/
theorem OwnL.add {w0 w w1 : World} {p g : Nat} {d : D} {L : List (Nat × Obj)} {o : Obj} (h : OwnL w0 p d L w) (b : Below w.heap.size w w1) (hg : w.heap.size ≤ g) (ho : w1.heap[g]? = some o) : OwnL w0 p d ((g, o) :: L) w1 := by
  have h1 := h.on b
  obtain ⟨F, hp, hd, hb, hown, hL⟩ := h
  refine ⟨F, hp, DiskAt.below hd b, hb.on b, hown, fun x hx => ?_⟩
  rcases List.mem_cons.1 hx with rfl | hx
  · refine ⟨fun c => ?_, ho⟩
    have := DiskAt.own_lt hd c
    exact Nat.lt_irrefl _ (Nat.lt_of_lt_of_le this hg)
  · exact ⟨(hL x hx).1, (b.block x.1 (heap_lt (hL x hx).2)).trans (hL x hx).2⟩
theorem OwnL.perm {w0 w : World} {p : Nat} {d : D} {L L' : List (Nat × Obj)} (h : OwnL w0 p d L w) (hs : ∀ x ∈ L', x ∈ L) : OwnL w0 p d L' w := h.sub L' hs
theorem StR.add {w0 w w1 : World} {p q bm g : Nat} {d : D} {h : Hd} {dead : Bool} {R : List (Nat × Obj)} {o : Obj} (H : StR w0 p q bm d h dead R w) (b : Below w.heap.size w w1) (hg : w.heap.size ≤ g) (ho : w1.heap[g]? = some o) :
    StR w0 p q bm d h dead ((g, o) :: R) w1 := by
  have hq := heap_lt H.at
  refine ⟨(H.own.add b hg ho).sub _ fun x hx => ?_, H.lo, fun x hx => ?_⟩
  · simp only [List.mem_cons] at hx ⊢
    rcases hx with h | h | h <;> simp [h]
  · rcases List.mem_cons.1 hx with rfl | hx
    · show g ≠ q; omega
    · exact H.ne x hx
theorem StR.sub {w0 w : World} {p q bm : Nat} {d : D} {h : Hd} {dead : Bool} {R : List (Nat × Obj)} (H : StR w0 p q bm d h dead R w) (R' : List (Nat × Obj)) (hs : ∀ x ∈ R', x ∈ R) : StR w0 p q bm d h dead R' w := by
  refine ⟨H.own.sub _ fun x hx => ?_, H.lo, fun x hx => H.ne x (hs x hx)⟩
  simp only [List.mem_cons] at hx ⊢
  rcases hx with h | h
  · exact .inl h
  · exact .inr (hs x h)
theorem PgR.mono {R R' : List (Nat × Obj)} {v : Value} {l : List PageV} (h : PgR R v l) (hs : ∀ x ∈ R, x ∈ R') : PgR R' v l := by
  rcases h with h | ⟨g, cap, C, hv, hm, hc, hn⟩
  · exact .inl h
  · exact .inr ⟨g, cap, C, hv, hs _ hm, hc, hn⟩

/-- Pages, packed: the texts of the blocks. -/
def packB (l : List PageV) : List ByteArray := ((List.range (chunks (headT (l.length : Int) l).size)).map fun k => filled (chunkT (headT (l.length : Int) l) k)) ++ l.map fun p => filled p.data
theorem packT_eq (l : List PageV) : packT l = (packB l).map Value.string := by
  simp [packT, packB, numT, pageT, List.map_append, List.map_map, Function.comp_def]
theorem headT_full (l : List PageV) : (headT (l.length : Int) l).size = 4 + 4 * l.length := by
  have := headT_size (l.length : Int) l.length l (Nat.le_refl _)
  rwa [List.take_length] at this
theorem packB_length (l : List PageV) : (packB l).length = blocksN l.length := by
  unfold packB blocksN chunks
  rw [List.length_append, List.length_map, List.length_map, List.length_range, headT_full]
  omega
theorem packB_size (l : List PageV) : ∀ s ∈ packB l, s.size = 256 := by
  intro s hs
  unfold packB at hs
  rcases List.mem_append.1 hs with hs | hs
  · obtain ⟨_, _, rfl⟩ := List.mem_map.1 hs; exact filled_size _
  · obtain ⟨_, _, rfl⟩ := List.mem_map.1 hs; exact filled_size _
/-- The writes of the journal's blocks. -/
def blockOps : Nat → List ByteArray → List DOp
  | _, [] => []
  | i, s :: r => .wr ((2 + i : Nat) : Int) s :: blockOps (i + 1) r
theorem blockOps_app : ∀ (a b : List ByteArray) (i : Nat), blockOps i (a ++ b) = blockOps i a ++ blockOps (i + a.length) b
  | [], _, _ => rfl
  | s :: a, b, i => by
    rw [List.cons_append, blockOps, blockOps, blockOps_app a b (i + 1), List.length_cons, List.cons_append, show i + 1 + a.length = i + (a.length + 1) by omega]
theorem blockOps_length : ∀ (a : List ByteArray) (i : Nat), (blockOps i a).length = a.length
  | [], _ => rfl
  | s :: a, i => by rw [blockOps, List.length_cons, List.length_cons, blockOps_length a]
theorem blockOps_snoc (bs : List ByteArray) {k : Nat} {s : ByteArray} (h : bs[k]? = some s) : blockOps 0 (bs.take (k + 1)) = blockOps 0 (bs.take k) ++ [.wr ((2 + k : Nat) : Int) s] := by
  have hk := (List.getElem?_eq_some_iff.1 h).1
  rw [List.take_add_one, h, blockOps_app, Nat.zero_add, List.length_take, Nat.min_eq_left (Nat.le_of_lt hk)]
  rfl
theorem blockOps_split (bs : List ByteArray) {k : Nat} {s : ByteArray} (h : bs[k]? = some s) : ∃ b, blockOps 0 bs = blockOps 0 (bs.take k) ++ (.wr ((2 + k : Nat) : Int) s :: b) := by
  obtain ⟨hk, he⟩ := List.getElem?_eq_some_iff.1 h
  have e : bs = bs.take k ++ (s :: bs.drop (k + 1)) := by rw [← he, ← List.drop_eq_getElem_cons hk, List.take_append_drop]
  refine ⟨blockOps (k + 1) (bs.drop (k + 1)), ?_⟩
  conv => lhs; rw [e]
  rw [blockOps_app, Nat.zero_add, List.length_take, Nat.min_eq_left (Nat.le_of_lt hk)]
  rfl
/-- All of a commit. -/
def commitOps (h : Hd) (l : List PageV) : List DOp := blockOps 0 (packB l) ++ (.fl :: (putOps (h.next (packB l).length) ++ homeOps (h.next (packB l).length) l))
end Go.Proofs.Ytfcicpcpdklceaa
