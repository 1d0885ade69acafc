/- Commit on a settled disk that has power and no limit. -/
import Derived.Test.YtfcicpcpdklceaaSW
namespace Go.Proofs.Ytfcicpcpdklceaa
set_option maxRecDepth 100000
open Go.ChangeShapes Go.WideShapes Go.ChangeAt Go.RowKit Go.PlainAid Go.ChangeMaps Go.MapKept
open Go.Sort (grow)

theorem pages_eq {d d' : D} {h h' : Hd} {T : Int → Option ByteArray} {n : Nat} (hr : h'.room = h.room) (hp : ∀ k : Nat, k < n → d'.last (2 + h.room + k) = pageS d h T k) : pages d' h' noPages n = pages d h T n := by
  unfold pages
  refine List.map_congr_left fun k hk => ?_
  rw [pageS_none, hr, hp k (List.mem_range.1 hk)]
theorem keys_nil {T : Int → Option ByteArray} (h : Keys T []) : T = noPages := by
  funext k
  cases hk : T k with
  | none => rfl
  | some s => exact absurd ((h.2 k).2 (by rw [hk]; rfl)) (by simp)
theorem nil_keys : Keys noPages [] := ⟨List.Pairwise.nil, fun x => by simp [noPages]⟩
/-- The same pages with room for as many. -/
structure Same (h h' : Hd) : Prop where
  room : h'.room = h.room
  pages : h'.pages = h.pages
  seq : h'.seq ≤ h.seq + 2
theorem Same.refl (h : Hd) : Same h h := ⟨rfl, rfl, Nat.le_add_right _ _⟩
theorem Same.plain {h h' : Hd} (s : Same h h') (p : Plain h) : Plain h' := ⟨by rw [s.room]; exact p.room, by rw [s.pages]; exact p.pages, by rw [s.pages]; exact p.pages1⟩
theorem Settled.wf {d : D} {h : Hd} {o : Option Hd} (S : Settled d h o) (P : Plain h) (hs : h.seq ≤ 1000000) : h.Wf := by
  have := S.n
  have := S.hi
  exact ⟨hs, by rw [S.used]; omega, by omega, P.pages1⟩
/-- What a commit there leaves. -/
def DonePost (w0 : World) (p q bm c : Nat) (d : D) (h : Hd) (T : Int → Option ByteArray) (R : List (Nat × Obj)) (e : Ending) (w' : World) : Prop :=
  ∃ E d1 h1 o1, e = .returned (.int .i64 E) ∧ Settled d1 h1 o1 ∧ Same h h1 ∧ StT w0 p q bm c d1 h1 noPages false R w' ∧ d1.n = d.n ∧
    ((E = 0 ∧ ∀ k : Nat, k < h.pages → d1.last (2 + h.room + k) = pageS d h T k) ∨ (E = 12 ∧ d1 = d ∧ h1 = h ∧ T ≠ noPages))
theorem commit_done {w0 w : World} {p q bm c : Nat} {d : D} {h : Hd} {o : Option Hd} {T : Int → Option ByteArray} {R : List (Nat × Obj)} (H : StT w0 p q bm c d h T false R w) (S : Settled d h o) (P : Plain h) (hT : TxOk h T) (hc : c ≤ 1000) (hs : h.seq ≤ 1000) :
    Calls Try.prog 10 #[.pointer (some ⟨q, 0, none⟩)] w (DonePost w0 p q bm c d h T R) := by
  refine (scommit_any H hc hT (S.wf P (by omega)) (by omega) (by rw [S.late]; simp)).mono ?_
  rintro e w' ⟨ks, hK, _, hx⟩
  rcases hx with ⟨rfl, rfl, H'⟩ | ⟨hne, hroom, rfl, H'⟩ | ⟨hne, hroom, rfl, h', r1, r2, r3, H'⟩
  · refine ⟨0, d, h, o, rfl, S, Same.refl h, H', rfl, .inl ⟨rfl, fun k _ => ?_⟩⟩
    rw [keys_nil hK, pageS_none]
  · refine ⟨12, d, h, o, rfl, S, Same.refl h, H', rfl, .inr ⟨rfl, rfl, rfl, ?_⟩⟩
    rintro rfl
    exact hne (keys_eq hK nil_keys)
  · obtain ⟨ce, cs, cp⟩ := commit_settled S P hT hK hroom (by omega)
    obtain rfl := r3 ce
    rw [ce] at H'
    exact ⟨_, _, _, _, rfl, cs, ⟨rfl, rfl, by show h.seq + 1 + 1 ≤ _; omega⟩, H', ops_n _ _, .inl ⟨ce, cp⟩⟩
/-- A page written in a transaction. -/
theorem pageS_write (d : D) (h : Hd) (T : Int → Option ByteArray) (k : Int) (s : ByteArray) (i : Nat) : pageS d h (swriteT h T k s) i = if ¬ (k < 0 ∨ h.pages ≤ k ∨ 256 < s.size) ∧ (i : Int) = k then filled s else pageS d h T i := by
  unfold swriteT
  by_cases c : k < 0 ∨ h.pages ≤ k ∨ 256 < s.size
  · rw [if_pos c, if_neg (by simp [c])]
  · rw [if_neg c]
    by_cases e : (i : Int) = k
    · rw [if_pos ⟨c, e⟩]
      unfold pageS put
      rw [if_pos e]
    · rw [if_neg (by simp [e])]
      unfold pageS put
      rw [if_neg e]
theorem pages_set (d : D) (h : Hd) (T : Int → Option ByteArray) (k : Nat) (s : ByteArray) (n : Nat) (hk : k < h.pages) (hs : s.size ≤ 256) : pages d h (swriteT h T k s) n = (pages d h T n).set k (filled s) := by
  apply List.ext_getElem?
  intro i
  rw [List.getElem?_set]
  unfold pages
  rw [List.getElem?_map, List.getElem?_map, List.length_map, List.length_range]
  by_cases hi : i < n
  · rw [List.getElem?_range hi]
    simp only [Option.map_some]
    rw [pageS_write]
    by_cases e : k = i
    · subst e
      rw [if_pos ⟨by omega, rfl⟩, if_pos rfl, if_pos hi]
    · rw [if_neg (by omega), if_neg e]
  · rw [List.getElem?_eq_none (by rw [List.length_range]; omega)]
    by_cases e : k = i
    · subst e; rw [if_pos rfl, if_neg hi]; rfl
    · rw [if_neg e]; rfl
theorem swriteT_same (h : Hd) (T : Int → Option ByteArray) (k : Int) (s : ByteArray) (hk : k < 0 ∨ h.pages ≤ k ∨ 256 < s.size) : swriteT h T k s = T := by unfold swriteT; rw [if_pos hk]
/-- A block of the call's own beside the store is written. -/
theorem StT.setR {w0 w : World} {p q bm c : Nat} {d : D} {h : Hd} {T : Int → Option ByteArray} {dead : Bool} {R : List (Nat × Obj)} {g : Nat} {cs : Array Value} {t : TypeId} (H : StT w0 p q bm c d h T dead ((g, .cells cs t (0, 0)) :: R) w) (h0 : w0.heap.size ≤ g) (hR : ∀ x ∈ R, x.1 ≠ g) (i : Nat) (v : Value) :
    StT w0 p q bm c d h T dead ((g, .cells (cs.setIfInBounds i v) t (0, 0)) :: R) (w.setCell ⟨g, i, none⟩ v) := by
  obtain ⟨⟨es, clock, hX, hS⟩, h1, h2⟩ := H
  have hgb : g ≠ bm := h2 _ List.mem_cons_self
  have hgq : g ≠ q := hS.ne _ (List.mem_cons_of_mem _ List.mem_cons_self)
  refine ⟨⟨es, clock, hX, ⟨hS.own.set (q := g) (i := i) (v := v) (cs := cs) (t := t) (by simp) h0 _ (fun x hx => ?_), hS.lo, fun x hx => ?_⟩⟩, h1, fun x hx => ?_⟩
  · simp only [List.mem_cons] at hx ⊢
    rcases hx with rfl | rfl | rfl | hx
    · exact .inr ⟨.inl rfl, fun e => hgq e.symm⟩
    · exact .inr ⟨.inr (.inl rfl), fun e => hgb e.symm⟩
    · exact .inl rfl
    · exact .inr ⟨.inr (.inr (.inr hx)), hR x hx⟩
  · rcases List.mem_cons.1 hx with rfl | hx
    · exact hS.ne _ List.mem_cons_self
    · rcases List.mem_cons.1 hx with rfl | hx
      · exact hgq
      · exact hS.ne _ (List.mem_cons_of_mem _ (List.mem_cons_of_mem _ hx))
  · rcases List.mem_cons.1 hx with rfl | hx
    · exact hgb
    · exact h2 x (List.mem_cons_of_mem _ hx)
/-- A copy of texts: append to an empty slice. -/
theorem append_texts {W : World} {g cap : Nat} {L : List ByteArray} (hc : ∀ k s, L[k]? = some s → W.cell? ⟨g, k, none⟩ = some (.string s)) (hg : g < W.heap.size) (hL : 0 < L.length) (hlen : L.length ≤ 1048576) :
    ∃ g2 cap2 cur w2, (appS #[.slice (some ⟨W.heap.size, 0, none⟩) 0 0, .slice (some ⟨g, 0, none⟩) L.length cap]).run Try.prog (W.alloc (.cells #[] 9)) = .ok (.slice (some ⟨g2, 0, none⟩) L.length cap2) w2 ∧
      W.heap.size ≤ g2 ∧ w2.heap[g2]? = some (.cells cur 9 (0, 0)) ∧ cur.toList.take L.length = L.map Value.string ∧ Below W.heap.size W w2 := by
  obtain ⟨i0, hi, hz0, hz1, hz2⟩ := info_parts info_text
  have hba : Below W.heap.size W (W.alloc (.cells #[] 9)) := by go_grown
  have hrow : (W.alloc (.cells #[] 9)).ownsRow W.heap.size 9 1 (.slice (some ⟨W.heap.size, 0, none⟩) 0 0) ([] : List Value).length [] :=
    ⟨rfl, .inr ⟨W.heap.size, 0, #[], rfl, Nat.le_refl _, heap_alloc_new W _, Nat.le_refl _, Nat.zero_le _, rfl, rfl⟩⟩
  obtain ⟨g2, cap2, w2, hr, h2, h3, _, _⟩ := run_append_lies (P := Try.prog) (w := W.alloc (.cells #[] 9)) 31 31 W.heap.size 9 i0 (.string ⟨#[]⟩) 1 16 Try.underlying31 hi hz0 hz1 hz2 rfl (by decide) _ _ _ hrow ⟨g, 0, none⟩ L.length cap (L.map Value.string) (by rw [List.length_map, Nat.mul_one])
    (fun j u hu => by
      rw [List.getElem?_map] at hu
      cases hj : L[j]? with
      | none => rw [hj] at hu; cases hu
      | some t =>
        rw [hj] at hu
        obtain rfl : Value.string t = u := by simpa using hu
        rw [add_zero_off]
        exact (hba.cell (p := ⟨g, j, none⟩) hg).trans (hc j t hj)) (fun u hu => by
        obtain ⟨t, _, rfl⟩ := List.mem_map.1 hu
        rfl) hL (by simp only [List.length_nil]; unfold maxLen; omega) (by simp only [List.length_nil]; omega) (by rw [World.size_alloc]; omega) _ rfl
  obtain ⟨gg, cc, cur, hv, hb, hgb, hcur⟩ := row_open h2 (by simp only [List.length_nil]; omega)
  have e : gg = g2 := by cases hv; rfl
  subst e
  simp only [List.length_nil, Nat.zero_add, List.nil_append] at hcur hr
  exact ⟨gg, cap2, cur, w2, hr, hb, hgb, hcur, hba.grown h3 (by rw [World.size_alloc]; omega) (fun k e => by
    have : k = W.heap.size := by cases e; rfl
    omega)⟩
end Go.Proofs.Ytfcicpcpdklceaa
