/- Plain: texts in order; lists of states, each once, in the order of their texts. slices.Sort and slices.Compact of texts: the contracts of the shelf at this program Texts sorted, each once; package lin: Unique. -/
import Derived.Test.YtpooekmogfkkjaaSMoX
import Derived.Sort.Walk0
import Derived.Lib.Bytealg
import Derived.Lib.SlicesCompact
import Derived.Shelf.Strings.Builder1
import Derived.Shelf.Strings.BuilderF
import Derived.Shelf.Strings.BuilderK
import Derived.Shelf.Sort.Plain
import Derived.Ground.Names2Prog
import Derived.Shelf.Slices.Clone
import Derived.Shelf.Slices.CompactS
import Derived.Shelf.Slices.SearchI
import Derived.Shelf.Slices.Delete
import Derived.Test.YtpooekmogfkkjaaRows
import Derived.Test.YtpooekmogfkkjaaSLnR
import Derived.Sort.OwnSorted
namespace Go.Proofs.Ytpooekmogfkkjaa
set_option maxRecDepth 100000
open Go.ChangeShapes Go.WideShapes Go.ChangeAt Go.RowKit Go.PlainAid
namespace Ln
/-- A text below another. -/
def lessB (a b : ByteArray) : Bool := Op.bytesLess a.toList b.toList
theorem text_eq {a b : ByteArray} (h : a.toList = b.toList) : a = b := by
  rw [ByteArray.toList_eq, ByteArray.toList_eq] at h
  exact ByteArray.ext (Array.ext' h)
theorem lessB_iff {a b : ByteArray} : lessB a b = true ↔ a.toList < b.toList := by
  unfold lessB
  rw [bytesLess_eq]
  exact decide_eq_true_iff
theorem lessB_irrefl (a : ByteArray) : lessB a a = false := by
  rw [Bool.eq_false_iff]
  intro h
  exact absurd (lessB_iff.1 h) (List.lt_irrefl _)
theorem lessB_trans {a b c : ByteArray} (h : lessB a b = true) (k : lessB b c = true) : lessB a c = true := lessB_iff.2 (List.lt_trans (lessB_iff.1 h) (lessB_iff.1 k))
theorem lessB_total {a b : ByteArray} (h : lessB a b = false) (k : lessB b a = false) : a = b := by
  have h1 : ¬ a.toList < b.toList := fun c => by rw [lessB_iff.2 c] at h; cases h
  have h2 : ¬ b.toList < a.toList := fun c => by rw [lessB_iff.2 c] at k; cases k
  exact text_eq (List.le_antisymm (List.not_lt.1 h2) (List.not_lt.1 h1))
def ltS (a b : List Int) : Bool := lessB (textS a) (textS b)
/-- A state that may be written. -/
structure Okz (s : List Int) : Prop where
  inr : ∀ x ∈ s, -9223372036854775808 ≤ x ∧ x ≤ 9223372036854775807
  len : s.length ≤ 9223372036854775807
theorem state_text {s : List Int} (h : Okz s) : stateP (textS s) = (s, ((textS s).size : Int)) := by
  have := state_back s ⟨#[]⟩ h.inr h.len
  rwa [empty_right] at this
theorem text_inj {a b : List Int} (ha : Okz a) (hb : Okz b) (h : textS a = textS b) : a = b := by
  have h1 := state_text ha
  rw [h, state_text hb] at h1
  exact (congrArg Prod.fst h1).symm
theorem ord_ext {α : Type} {lt : α → α → Prop} (hi : ∀ a, ¬ lt a a) (ht : ∀ a b c, lt a b → lt b c → lt a c) : ∀ {a b : List α}, a.Pairwise lt → b.Pairwise lt → (∀ s, s ∈ a ↔ s ∈ b) → a = b
  | [], [], _, _, _ => rfl
  | [], y :: s, _, _, h => absurd ((h y).2 List.mem_cons_self) (by simp)
  | x :: r, [], _, _, h => absurd ((h x).1 List.mem_cons_self) (by simp)
  | x :: r, y :: s, ha, hb, h => by
    obtain ⟨ha1, ha2⟩ := List.pairwise_cons.1 ha
    obtain ⟨hb1, hb2⟩ := List.pairwise_cons.1 hb
    have e : x = y := by
      rcases List.mem_cons.1 ((h x).1 List.mem_cons_self) with e | hx
      · exact e
      · rcases List.mem_cons.1 ((h y).2 List.mem_cons_self) with e | hy
        · exact e.symm
        · exact absurd (ht _ _ _ (hb1 x hx) (ha1 y hy)) (hi y)
    subst e
    have : r = s := ord_ext hi ht ha2 hb2 fun z => by
      constructor
      · intro hz
        rcases List.mem_cons.1 ((h z).1 (List.mem_cons_of_mem _ hz)) with e | k
        · subst e; exact absurd (ha1 _ hz) (hi _)
        · exact k
      · intro hz
        rcases List.mem_cons.1 ((h z).2 (List.mem_cons_of_mem _ hz)) with e | k
        · subst e; exact absurd (hb1 _ hz) (hi _)
        · exact k
    rw [this]
/-- The states of a list, each once, in order. -/
structure US (l r : List (List Int)) : Prop where
  mem : ∀ s, s ∈ r ↔ s ∈ l
  ord : r.Pairwise fun a b => ltS a b = true
theorem ltS_irrefl (a : List Int) : ¬ ltS a a = true := by unfold ltS; rw [lessB_irrefl]; decide
theorem ltS_trans (a b c : List Int) : ltS a b = true → ltS b c = true → ltS a c = true := lessB_trans
theorem US.eq {l l' r r' : List (List Int)} (h : US l r) (h' : US l' r') (hm : ∀ s, s ∈ l ↔ s ∈ l') : r = r' :=
  ord_ext ltS_irrefl ltS_trans h.ord h'.ord fun s => (h.mem s).trans ((hm s).trans (h'.mem s).symm)
theorem US.nil : US [] [] := ⟨fun _ => Iff.rfl, List.Pairwise.nil⟩
theorem US.nodup {l r : List (List Int)} (h : US l r) : r.Nodup := h.ord.imp fun {a b} c e => by subst e; exact ltS_irrefl a c
theorem US.again {l r : List (List Int)} (h : US l r) : US r r := ⟨fun _ => Iff.rfl, h.ord⟩
theorem US.len {l r : List (List Int)} (h : US l r) : r.length ≤ l.length := List.Nodup.length_le_of_subset h.nodup fun s hs => (h.mem s).1 hs
theorem count_ord {r : List (List Int)} (s : List Int) : r.Pairwise (fun a b => ltS a b = true) → ∀ (i : Nat) (x : List Int), r[i]? = some x → (ltS x s = true ↔ i < r.countP (fun u => ltS u s)) := by
  induction r with
  | nil => intro _ i x h; simp at h
  | cons y r ih =>
    intro h i x hx
    obtain ⟨h1, h2⟩ := List.pairwise_cons.1 h
    by_cases c : ltS y s = true
    · rw [List.countP_cons, if_pos c]
      cases i with
      | zero => simp at hx; subst hx; exact ⟨fun _ => by omega, fun _ => c⟩
      | succ i => rw [ih h2 i x (by simpa using hx)]; omega
    · have h0 : r.countP (fun u => ltS u s) = 0 := List.countP_eq_zero.2 fun u hu k => c (ltS_trans _ _ _ (h1 u hu) k)
      rw [List.countP_cons, if_neg c, h0]
      refine ⟨fun k => ?_, fun k => by omega⟩
      cases i with
      | zero => simp at hx; subst hx; exact absurd k c
      | succ i =>
        have hm := List.mem_of_getElem? (show r[i]? = some x by simpa using hx)
        exact absurd (ltS_trans _ _ _ (h1 x hm) k) c
/-- A state that is there already. -/
theorem US.same {p r : List (List Int)} {s : List Int} (h : US p r) (hs : s ∈ r) : US (p ++ [s]) r :=
  ⟨fun t => by
    rw [List.mem_append, List.mem_singleton, h.mem t]
    exact ⟨.inl, fun k => k.elim id fun e => by rw [e]; exact (h.mem s).1 hs⟩, h.ord⟩
/-- A new one, in its place. -/
theorem US.new {p r : List (List Int)} {s : List Int} (h : US p r) (hs : ∀ u ∈ r, textS u ≠ textS s) {n : Nat} (hn : n = r.countP fun u => ltS u s) : US (p ++ [s]) (r.take n ++ [s] ++ r.drop n) := by
  have lo : ∀ x ∈ r.take n, ltS x s = true := fun x hx => by
    obtain ⟨t, ht, rfl⟩ := List.mem_iff_getElem.1 hx
    rw [List.length_take] at ht
    rw [List.getElem_take]
    exact (count_ord s h.ord t _ (List.getElem?_eq_getElem (by omega))).2 (by omega)
  have hi : ∀ x ∈ r.drop n, ltS s x = true := fun x hx => by
    have hm := List.mem_of_mem_drop hx
    obtain ⟨t, ht, rfl⟩ := List.mem_iff_getElem.1 hx
    rw [List.length_drop] at ht
    rw [List.getElem_drop]
    have h3 : ¬ ltS r[n + t] s = true := fun c => by have := (count_ord s h.ord (n + t) _ (List.getElem?_eq_getElem (by omega))).1 c; omega
    cases c : ltS s r[n + t] with
    | true => rfl
    | false => exact absurd (lessB_total (Bool.eq_false_iff.2 h3) c) (hs _ (List.getElem_mem _))
  refine ⟨fun t => ?_, ?_⟩
  · have e : (r.take n ++ [s] ++ r.drop n).Perm (r ++ [s]) := by
      rw [List.append_assoc]
      refine (List.Perm.append_left _ List.perm_append_comm).trans ?_
      rw [← List.append_assoc, List.take_append_drop]
    rw [e.mem_iff, List.mem_append, List.mem_append, h.mem t]
  · rw [List.pairwise_append, List.pairwise_append]
    refine ⟨⟨h.ord.sublist (List.take_sublist _ _), by simp, fun a ha b hb => by rw [List.mem_singleton.1 hb]; exact lo a ha⟩, h.ord.sublist (List.drop_sublist _ _), fun a ha b hb => ?_⟩
    rcases List.mem_append.1 ha with ha | ha
    · exact ltS_trans _ _ _ (lo a ha) (hi b hb)
    · rw [List.mem_singleton.1 ha]; exact hi b hb
section
variable {α : Type} [Inhabited α] [DecidableEq α]
omit [DecidableEq α] in
theorem get_arr (zs : List α) {j : Nat} (h : j < zs.length) : zs.toArray[j]! = zs[j] := by
  rw [getElem!_pos zs.toArray j (by simpa using h)]
  simp
theorem compact_mem (zs : List α) (x : α) : x ∈ Lib.compact zs ↔ x ∈ zs := by
  unfold Lib.compact Lib.compactUpTo
  rw [List.mem_map]
  constructor
  · rintro ⟨j, hj, rfl⟩
    have hl := List.mem_range.1 (List.mem_filter.1 hj).1
    rw [get_arr zs hl]
    exact List.getElem_mem _
  · intro hx
    have key : ∀ j, (hj : j < zs.length) → zs[j] = x → ∃ k, k ∈ (List.range zs.length).filter (Lib.keeps zs.toArray) ∧ zs.toArray[k]! = x := by
      intro j
      induction j with
      | zero => intro hj e; exact ⟨0, List.mem_filter.2 ⟨List.mem_range.2 hj, by simp [Lib.keeps]⟩, by rw [get_arr zs hj]; exact e⟩
      | succ j ih =>
        intro hj e
        by_cases c : zs[j] = x
        · exact ih (by omega) c
        · refine ⟨j + 1, List.mem_filter.2 ⟨List.mem_range.2 hj, ?_⟩, by rw [get_arr zs hj]; exact e⟩
          refine Lib.keeps_pos ?_
          rw [Nat.add_sub_cancel, get_arr zs hj, get_arr zs (show j < zs.length by omega), e]
          exact fun k => c k.symm
    obtain ⟨j, hj, e⟩ := List.mem_iff_getElem.1 hx
    exact key j hj e
theorem compact_rise (zs : List α) {lt : α → α → Prop} (ht : ∀ a b c, lt a b → lt b c → lt a c) (hs : zs.Pairwise fun a b => lt a b ∨ a = b) : (Lib.compact zs).Pairwise lt := by
  unfold Lib.compact Lib.compactUpTo
  rw [List.pairwise_map]
  refine List.Pairwise.imp_of_mem ?_ ((List.pairwise_lt_range (n := zs.length)).filter _)
  intro j k hj hk hjk
  have hlj := List.mem_range.1 (List.mem_filter.1 hj).1
  have hlk := List.mem_range.1 (List.mem_filter.1 hk).1
  have hkk := (List.mem_filter.1 hk).2
  unfold Lib.keeps at hkk
  have hne : zs.toArray[k]! ≠ zs.toArray[k - 1]! := by
    rcases of_decide_eq_true hkk with c | c
    · omega
    · exact c
  have hl1 : k - 1 < zs.length := by omega
  rw [get_arr zs hlk, get_arr zs hl1] at hne
  rw [get_arr zs hlj, get_arr zs hlk]
  have h2 : lt zs[k - 1] zs[k] := by
    rcases List.pairwise_iff_getElem.1 hs (k - 1) k hl1 hlk (by omega) with c | c
    · exact c
    · exact absurd c.symm hne
  by_cases e : j = k - 1
  · subst e; exact h2
  · rcases List.pairwise_iff_getElem.1 hs j (k - 1) hlj hl1 (by omega) with c | c
    · exact ht _ _ _ c h2
    · rw [c]; exact h2
end
/-- A text as the list of its bytes. -/
def bytesOf (s : ByteArray) : List UInt8 := s.data.toList
theorem bytes_back (s : ByteArray) : (⟨(bytesOf s).toArray⟩ : ByteArray) = s := by unfold bytesOf; simp
theorem lessB_bytes (a b : ByteArray) : lessB a b = decide (bytesOf a < bytesOf b) := by
  unfold lessB bytesOf
  rw [bytesLess_eq, ByteArray.toList_eq, ByteArray.toList_eq]
/-- What texts, sorted, each once, say of states. -/
theorem us_sorted {l : List (List Int)} (h : ∀ s ∈ l, Okz s) : US l ((Lib.compact ((l.map fun s => bytesOf (textS s)).mergeSort fun x y => decide (x ≤ y))).map fun t => (stateP ⟨t.toArray⟩).1) := by
  have hm : ∀ t, t ∈ Lib.compact ((l.map fun s => bytesOf (textS s)).mergeSort fun x y => decide (x ≤ y)) ↔ ∃ s ∈ l, bytesOf (textS s) = t := fun t => by
    rw [compact_mem, List.mem_mergeSort, List.mem_map]
  have hs : ((l.map fun s => bytesOf (textS s)).mergeSort fun x y => decide (x ≤ y)).Pairwise fun a b => a < b ∨ a = b := by
    have := List.pairwise_mergeSort (le := fun x y : List UInt8 => decide (x ≤ y)) (fun a b c h k => decide_eq_true (List.le_trans (of_decide_eq_true h) (of_decide_eq_true k))) (fun a b => by
      rcases List.le_total a b with c | c
      · simp [c]
      · simp [c]) (l.map fun s => bytesOf (textS s))
    refine this.imp fun {a b} c => ?_
    have c := of_decide_eq_true c
    by_cases e : a = b
    · exact .inr e
    · refine .inl (Classical.byContradiction fun k => e (List.le_antisymm c (List.not_lt.1 k)))
  have hp := compact_rise _ (lt := fun a b : List UInt8 => a < b) (fun a b c h k => List.lt_trans h k) hs
  refine ⟨fun s => ?_, ?_⟩
  · rw [List.mem_map]
    constructor
    · rintro ⟨t, ht, rfl⟩
      obtain ⟨s, hs, rfl⟩ := (hm t).1 ht
      rw [bytes_back, state_text (h s hs)]
      exact hs
    · intro hs
      exact ⟨_, (hm _).2 ⟨s, hs, rfl⟩, by rw [bytes_back, state_text (h s hs)]⟩
  · rw [List.pairwise_map]
    refine List.Pairwise.imp_of_mem ?_ hp
    intro a b ha hb hab
    obtain ⟨s, hs, rfl⟩ := (hm a).1 ha
    obtain ⟨t, ht, rfl⟩ := (hm b).1 hb
    rw [bytes_back, bytes_back, state_text (h s hs), state_text (h t ht)]
    unfold ltS
    rw [lessB_bytes]
    exact decide_eq_true hab
end Ln
end Go.Proofs.Ytpooekmogfkkjaa
namespace Go.Proofs.Ytpooekmogfkkjaa
set_option maxRecDepth 100000
open Go.Shelf
def sh_lays190_ren : Go.Shelf.Ren := ⟨fun | 190 => 32 | 125 => 53 | 258 => 52 | 128 => 73 | 129 => 74 | 302 => 64 | 303 => 65 | 304 => 66 | 305 => 67 | 306 => 68 | 307 => 69 | 308 => 70 | 309 => 71 | 310 => 72 | 333 => 81 | 329 => 82 | 330 => 83 | 334 => 84 | 335 => 85 | 336 => 86 | 344 => 89 | n => n, fun | 31 => 67 | 9 => 9 | 3 => 3 | 46 => 116 | 0 => 0 | 51 => 85 | 53 => 111 | 4 => 4 | 183 => 136 | 182 => 135 | 131 => 129 | 5 => 5 | 218 => 148 | 222 => 152 | 228 => 156 | 229 => 157 | n => n, fun | n => n⟩
theorem sh_lays190 : Go.Proofs.Lays.n190 Try.prog sh_lays190_ren := {
  mixed := by kernel_rfl
  f125 := Try.func53.trans (congrArg some (by kernel_rfl))
  f128 := Try.func73.trans (congrArg some (by kernel_rfl))
  f129 := Try.func74.trans (congrArg some (by kernel_rfl))
  f190 := Try.func32.trans (congrArg some (by kernel_rfl))
  f258 := Try.func52.trans (congrArg some (by kernel_rfl))
  f302 := Try.func64.trans (congrArg some (by kernel_rfl))
  f303 := Try.func65.trans (congrArg some (by kernel_rfl))
  f304 := Try.func66.trans (congrArg some (by kernel_rfl))
  f305 := Try.func67.trans (congrArg some (by kernel_rfl))
  f306 := Try.func68.trans (congrArg some (by kernel_rfl))
  f307 := Try.func69.trans (congrArg some (by kernel_rfl))
  f308 := Try.func70.trans (congrArg some (by kernel_rfl))
  f309 := Try.func71.trans (congrArg some (by kernel_rfl))
  f310 := Try.func72.trans (congrArg some (by kernel_rfl))
  f329 := Try.func82.trans (congrArg some (by kernel_rfl))
  f330 := Try.func83.trans (congrArg some (by kernel_rfl))
  f333 := Try.func81.trans (congrArg some (by kernel_rfl))
  f334 := Try.func84.trans (congrArg some (by kernel_rfl))
  f335 := Try.func85.trans (congrArg some (by kernel_rfl))
  f336 := Try.func86.trans (congrArg some (by kernel_rfl))
  f344 := Try.func89.trans (congrArg some (by kernel_rfl))
  t0 := Try.underlying0
  a0 := Try.isAgg0
  z0 := Try.sizeOf0
  v0 := Try.zeroValue0
  t3 := Try.underlying3
  a3 := Try.isAgg3
  z3 := Try.sizeOf3
  v3 := Try.zeroValue3
  t4 := Try.underlying4
  a4 := Try.isAgg4
  z4 := Try.sizeOf4
  v4 := Try.zeroValue4
  t5 := Try.underlying5
  a5 := Try.isAgg5
  z5 := Try.sizeOf5
  v5 := Try.zeroValue5
  t9 := Try.underlying9
  a9 := Try.isAgg9
  z9 := Try.sizeOf9
  v9 := Try.zeroValue9
  t31 := Try.underlying67
  a31 := Try.isAgg67
  z31 := Try.sizeOf67
  v31 := Try.zeroValue67
  t46 := Try.underlying116
  a46 := Try.isAgg116
  z46 := Try.sizeOf116
  v46 := Try.zeroValue116
  t51 := Try.underlying85
  a51 := Try.isAgg85
  z51 := Try.sizeOf85
  v51 := Try.zeroValue85
  t53 := Try.underlying111
  a53 := Try.isAgg111
  z53 := Try.sizeOf111
  v53 := Try.zeroValue111
  t131 := Try.underlying129
  a131 := Try.isAgg129
  z131 := Try.sizeOf129
  v131 := Try.zeroValue129
  t182 := Try.underlying135
  a182 := Try.isAgg135
  z182 := Try.sizeOf135
  v182 := Try.zeroValue135
  t183 := Try.underlying136
  a183 := Try.isAgg136
  z183 := Try.sizeOf136
  v183 := Try.zeroValue136
  t218 := Try.underlying148
  a218 := Try.isAgg148
  z218 := Try.sizeOf148
  v218 := Try.zeroValue148
  t222 := Try.underlying152
  a222 := Try.isAgg152
  z222 := Try.sizeOf152
  v222 := Try.zeroValue152
  t228 := Try.underlying156
  a228 := Try.isAgg156
  z228 := Try.sizeOf156
  v228 := Try.zeroValue156
  t229 := Try.underlying157
  a229 := Try.isAgg157
  z229 := Try.sizeOf157
  v229 := Try.zeroValue157 }
open Go.Sort Go.RowKit in
theorem sh_slices_Sort_string (blk off cap : Nat) (ss : List (List UInt8)) (w : World) (hH : Holds encStr w blk off ss.toArray) (hblk : blk < w.heap.size) (hsz : ss.length < 4611686018427387904) :
    Calls Try.prog 32 #[.slice (some ⟨blk, off, none⟩) ss.length cap] w fun e w' =>
      e = .returned (.tuple #[]) ∧ ∃ n os, w' = grow (putRow encStr (Sort.ahead w n) blk off (ss.mergeSort fun x y => decide (x ≤ y)).toArray) os := Any.slices_Sort_string sh_lays190 blk off cap ss w hH hblk hsz
def sh_lays194_ren : Go.Shelf.Ren := ⟨fun | 194 => 33 | n => n, fun | 31 => 67 | 9 => 9 | 3 => 3 | 4 => 4 | 0 => 0 | n => n, fun | n => n⟩
theorem sh_lays194 : Go.Proofs.Lays.n194 Try.prog sh_lays194_ren := {
  mixed := by kernel_rfl
  f194 := Try.func33.trans (congrArg some (by kernel_rfl))
  t0 := Try.underlying0
  a0 := Try.isAgg0
  z0 := Try.sizeOf0
  v0 := Try.zeroValue0
  t3 := Try.underlying3
  a3 := Try.isAgg3
  z3 := Try.sizeOf3
  v3 := Try.zeroValue3
  t4 := Try.underlying4
  a4 := Try.isAgg4
  z4 := Try.sizeOf4
  v4 := Try.zeroValue4
  t9 := Try.underlying9
  a9 := Try.isAgg9
  z9 := Try.sizeOf9
  v9 := Try.zeroValue9
  t31 := Try.underlying67
  a31 := Try.isAgg67
  z31 := Try.sizeOf67
  v31 := Try.zeroValue67 }
open Go.RowKit Go.Lib Go.Sort in
/-- slices.Compact at []string, over an array: the library's two loops are walked. (LAID: no walk: one application.) -/
theorem sh_slices_Compact_string_arr (blk off cap : Nat) (d : Array (List UInt8)) (w : World) (hH : Holds encStr w blk off d) (hsz : d.size ≤ 9223372036854775807) (hcap : d.size ≤ cap) :
    Calls Try.prog 33 #[.slice (some ⟨blk, off, none⟩) d.size cap] w fun e w' => e = .returned (.slice (some ⟨blk, off, none⟩) (compactUpTo d d.size).length cap) ∧ ∃ q, w' = putRow encStr (Sort.ahead w q) blk off (compactUpTo d d.size ++ List.replicate (d.size - (compactUpTo d d.size).length) []).toArray := Any.slices_Compact_string_arr sh_lays194 blk off cap d w hH hsz hcap
open Go.RowKit Go.Lib Go.Sort in
/-- slices.Compact at []string: "Compact replaces consecutive runs of equal elements with a single copy. This is like the uniq command found on Unix. Compact modifies the contents of the slice s and returns the modified slice, which may have a smaller length. Compact zeroes the elements between the new length and the original length. The result preserves the nilness of s.": IT RETURNS THE SLICE CUT TO 'Lib.compact zs'; ITS CELLS HOLD 'Lib.compact zs', THEN ZERO VALUES up to the old length; all else is as it was, but for the count of draws. IN THE WORDS OF slices.Sort's CONTRACT ('Holds', 'putRow'): so the everyday 'slices.Sort(xs); xs = slices.Compact(xs)' goes from the one contract to the other. It asks 'zs.length ≤ cap' (every slice's: the reslicing 's[:k]' looks at it). Length 0, nil: '.._empty'. (LAID: no walk: one application.) -/
theorem sh_slices_Compact_string (blk off cap : Nat) (zs : List (List UInt8)) (w : World) (hH : Holds encStr w blk off zs.toArray) (hsz : zs.length ≤ 9223372036854775807) (hcap : zs.length ≤ cap) :
    Calls Try.prog 33 #[.slice (some ⟨blk, off, none⟩) zs.length cap] w fun e w' => e = .returned (.slice (some ⟨blk, off, none⟩) (Lib.compact zs).length cap) ∧ ∃ q, w' = putRow encStr (Sort.ahead w q) blk off (Lib.compact zs ++ List.replicate (zs.length - (Lib.compact zs).length) []).toArray := Any.slices_Compact_string sh_lays194 blk off cap zs w hH hsz hcap
open Go.RowKit Go.Lib Go.Sort in
/-- The same at a slice of length 0, a nil one too: it comes back as it is. (LAID: no walk: one application.) -/
theorem sh_slices_Compact_string_empty (a : Option Addr) (cap : Nat) (w : World) :
    Calls Try.prog 33 #[.slice a 0 cap] w fun e w' => e = .returned (.slice a 0 cap) ∧ w' = w := Any.slices_Compact_string_empty sh_lays194 a cap w
end Go.Proofs.Ytpooekmogfkkjaa
namespace Go.Proofs.Ytpooekmogfkkjaa
set_option maxRecDepth 100000
open Go.ChangeShapes Go.WideShapes Go.ChangeAt Go.RowKit Go.PlainAid Go.Deep Go.Sort
namespace Ln
theorem insSort_nil (cap : Nat) (w : World) :
    Calls Try.prog 64 #[.slice none 0 cap, .int .i64 0, .int .i64 0] w fun e w' => e = .returned (.tuple #[]) ∧ w' = w := by
  go_enter Try.func64, Try.ntmps64
  go_wp2
  refine wp_loop_rounds 1 ?_
  rw [rounds_succ]
  go_wp2
  go_end0
  exact ⟨rfl, rfl⟩
theorem pdq_nil (cap : Nat) (w : World) :
    Calls Try.prog 52 #[.slice none 0 cap, .int .i64 0, .int .i64 0, .int .i64 0] w fun e w' => e = .returned (.tuple #[]) ∧ w' = w := by
  go_enter Try.func52, Try.ntmps52
  go_wp2
  refine wp_loop_rounds 1 ?_
  rw [rounds_succ]
  go_wp2_with (first | (refine (insSort_nil cap _).mono ?_; rintro e w' ⟨rfl, rfl⟩))
  refine bodyPost_ret (results_none rfl _ _ _) rfl ?_
  exact ⟨rfl, rfl⟩
theorem len64_nil (w : World) : Calls Try.prog 74 #[.int .u64 0] w fun e w' => e = .returned (.int .i64 0) ∧ w' = w := by
  go_enter Try.func74, Try.ntmps74
  go_wp2
  go_returns
  exact ⟨ret_i (by kernel_rfl), rfl⟩
theorem len_nil (w : World) : Calls Try.prog 53 #[.int .u64 0] w fun e w' => e = .returned (.int .i64 0) ∧ w' = w := by
  go_enter Try.func53, Try.ntmps53
  go_wp2_with (go_at_call 74; refine (len64_nil _).mono ?_; rintro e w' ⟨rfl, rfl⟩)
  go_returns
  exact ⟨rfl, rfl⟩
theorem sort_nil (cap : Nat) (w : World) :
    Calls Try.prog 32 #[.slice none 0 cap] w fun e w' => e = .returned (.tuple #[]) ∧ w' = w := by
  go_enter Try.func32, Try.ntmps32
  go_wp2_with (first
    | (go_at_call 53; refine (len_nil _).mono ?_; rintro e w' ⟨rfl, rfl⟩)
    | (go_at_call 52; refine (pdq_nil cap _).mono ?_; rintro e w' ⟨rfl, rfl⟩))
  go_end0
  exact ⟨rfl, rfl⟩
/-- Texts in a row, sorted. -/
theorem sort_texts {n₀ : Nat} {W : World} {v : Value} {ts : List (List UInt8)} (h : W.ownsRow n₀ 9 1 v ts.length (ts.map encStr)) (hn : n₀ ≤ W.heap.size) (hl : ts.length ≤ 100000000) :
    Calls Try.prog 32 #[v] W fun e w' => e = .returned (.tuple #[]) ∧ w'.ownsRow n₀ 9 1 v ts.length ((ts.mergeSort fun x y => decide (x ≤ y)).map encStr) ∧ Below n₀ W w' := by
  have h' := h
  rcases h.2 with ⟨rfl, h0⟩ | ⟨g, cap, cur, rfl, hb, hg, hlc, hcm, hsz, ht⟩
  · have e0 : ts = [] := List.length_eq_zero_iff.1 h0
    subst e0
    refine (sort_nil 0 W).mono ?_
    rintro _ _ ⟨rfl, rfl⟩
    exact ⟨rfl, by simpa using h', Below.refl _ _⟩
  · refine (sh_slices_Sort_string g 0 cap ts W (holds_of_block hg (by rw [Nat.mul_one] at ht; exact ht)) (heap_inO hg) (by omega)).mono ?_
    rintro _ _ ⟨rfl, n, os, rfl⟩
    exact ⟨rfl, ownsRow_sorted (by rw [List.length_mergeSort]) hb hg hlc hcm hsz, (Below.refl _ _).grown (grownBy_sorted _) hn (fun k e => by cases e; exact hb)⟩
theorem grow_none (w : World) : grow w #[] = w := by simp [grow]
/-- Texts in a row, each once. -/
theorem compact_texts {n₀ : Nat} {W : World} {v : Value} {ts : List (List UInt8)} (h : W.ownsRow n₀ 9 1 v ts.length (ts.map encStr)) (hn : n₀ ≤ W.heap.size) (hl : ts.length ≤ 100000000) :
    Calls Try.prog 33 #[v] W fun e w' => ∃ v', e = .returned v' ∧ w'.ownsRow n₀ 9 1 v' (Lib.compact ts).length ((Lib.compact ts).map encStr) ∧ Below n₀ W w' := by
  have h' := h
  rcases h.2 with ⟨rfl, h0⟩ | ⟨g, cap, cur, rfl, hb, hg, hlc, hcm, hsz, ht⟩
  · have e0 : ts = [] := List.length_eq_zero_iff.1 h0
    subst e0
    refine (sh_slices_Compact_string_empty none 0 W).mono ?_
    rintro _ _ ⟨rfl, rfl⟩
    exact ⟨_, rfl, by simpa [Lib.compact, Lib.compactUpTo] using h', Below.refl _ _⟩
  · have hcl : (Lib.compact ts).length ≤ ts.length := by
      unfold Lib.compact Lib.compactUpTo
      rw [List.length_map]
      exact Nat.le_trans (List.length_filter_le _ _) (by simp)
    refine (sh_slices_Compact_string g 0 cap ts W (holds_of_block hg (by rw [Nat.mul_one] at ht; exact ht)) (by omega) hlc).mono ?_
    rintro _ w' ⟨rfl, q, hw⟩
    generalize hd : Lib.compact ts ++ List.replicate (ts.length - (Lib.compact ts).length) [] = d at hw
    have hdl : d.length = ts.length := by rw [← hd]; simp; omega
    have hw2 : w' = grow (putRow encStr (Sort.ahead W q) g 0 d.toArray) #[] := by rw [grow_none]; exact hw
    subst hw2
    refine ⟨_, rfl, ⟨by simp, .inr ⟨g, cap, _, rfl, hb, heap_sorted _ hg, by omega, hcm, by simp [putCells, hsz], ?_⟩⟩, (Below.refl _ _).grown (grownBy_sorted _) hn (fun k e => by cases e; exact hb)⟩
    have h3 := take_putCells cur d (by omega)
    have h4 := congrArg (List.take (Lib.compact ts).length) h3
    rw [List.take_take, Nat.min_eq_left (by omega), ← hd, List.map_append, List.take_left' (by simp)] at h4
    rw [Nat.mul_one, ← hd]
    exact h4
end Ln
end Go.Proofs.Ytpooekmogfkkjaa
