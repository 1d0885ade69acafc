/- Package btree: the reference's Same. Package btree: the example's pages. Package btree: the example's trees. Package btree: the law's example. -/
import Derived.Test.YtkdhlofcdcnjgaaGreatBF
import Derived.Test.YtkdhlofcdcnjgaaGreatBD
namespace Go.Proofs.YtkdhlofcdcnjgaaGreat
set_option maxRecDepth 100000
open Go.ChangeShapes Go.WideShapes Go.ChangeAt Go.RowKit Go.PlainAid Go.Shelf
open Go.Sort (grow)

theorem neq_pair (p : Pr) (w : World) : (binOp .neq 47 (.agg #[.string p.key, .string p.val]) (.agg #[.string p.key, .string p.val])).run Tryz.prog w = .ok (.bool false) w := by
  simp [go_sem]
theorem same_true {w : World} {L : List Pr} {sa sb : Option Addr} (ha : RdP w sa L) (hb : RdP w sb L) (ca cb : Nat) (hlen : L.length ≤ 65536) :
    Calls Tryz.prog 38 #[.slice sa L.length ca, .slice sb L.length cb] w fun e w' => e = .returned (.bool true) ∧ Below w.heap.size w w' := by
  have HA := Lib.hid ha
  have HB := Lib.hid hb
  clear ha hb
  go_enter Tryz.func38, Tryz.ntmps38
  go_wp2_with fail
  go_loopw [5] (fun iv wr => ∃ k : Nat, k ≤ L.length ∧ iv = .int .i64 k ∧ Hid (Below w.heap.size w wr)) (fun iv _ => L.length - (intOf iv).toNat)
  case atStart => exact ⟨0, Nat.zero_le _, rfl, Lib.hid ⟨rfl, rfl, rfl, Nat.le_refl _, fun _ _ => rfl⟩⟩
  case round =>
    obtain ⟨k, hk, rfl, HBL⟩ := hrel
    by_cases hlt : k < L.length
    · obtain ⟨p, hp⟩ : ∃ p, L[k]? = some p := ⟨_, List.getElem?_eq_getElem hlt⟩
      obtain ⟨g, o, rfl, _, a0, a1⟩ := (HA.out.on HBL.out).at hp
      obtain ⟨g2, o2, rfl, _, b0, b1⟩ := (HB.out.on HBL.out).at hp
      have hne := neq_pair p
      clear hp
      go_wp2_with fail
      go_region_law (fail)
      all_goals
        have HBD : Hid (Below w.heap.size w wr.drew) := Lib.hid ⟨HBL.out.os, HBL.out.tape, HBL.out.output, HBL.out.size, HBL.out.block⟩
        clear a0 a1 b0 b1
        go_wp2
        try go_roundw
        first
          | (case rel => exact ⟨k + 1, by omega, by go_num, HBD⟩
             case measure => simp [intOf]; omega)
          | exact ⟨⟨k + 1, by omega, by go_num, HBD⟩, by simp [intOf]; omega⟩
    · obtain rfl : k = L.length := by omega
      go_wp2
      go_returns
      exact ⟨rfl, HBL.out⟩
end Go.Proofs.YtkdhlofcdcnjgaaGreat
namespace Go.Proofs.YtkdhlofcdcnjgaaGreat
set_option maxRecDepth 100000
open Go.ChangeShapes Go.WideShapes Go.ChangeAt Go.RowKit Go.PlainAid Go.Shelf
open Go.Sort (grow)

def tA : ByteArray := ⟨#[97]⟩
def tB : ByteArray := ⟨#[98]⟩
def t1 : ByteArray := ⟨#[49]⟩
def t2 : ByteArray := ⟨#[50]⟩
def t3 : ByteArray := ⟨#[51]⟩
/-- The example's records behind each Put. -/
def exL1 : List Pr := [⟨tB, t1⟩]
def exL2 : List Pr := [⟨tA, t2⟩, ⟨tB, t1⟩]
def exL3 : List Pr := [⟨tA, t2⟩, ⟨tB, t3⟩]
theorem ex_u1 : unpP (filled (packP 1 exL1)) = some exL1 := by kernel_rfl
theorem ex_u2 : unpP (filled (packP 1 exL2)) = some exL2 := by kernel_rfl
theorem ex_u3 : unpP (filled (packP 1 exL3)) = some exL3 := by kernel_rfl
theorem ex_p2 : putB ⟨tA, t2⟩ exL1 = exL2 := by kernel_rfl
theorem ex_p3 : putB ⟨tB, t3⟩ exL2 = exL3 := by kernel_rfl
theorem ex_b1 : bt (filled (packP 1 exL1)) 0 = 1 ∧ bt (filled (packP 1 exL2)) 0 = 1 ∧ bt (filled (packP 1 exL3)) 0 = 1 := ⟨by kernel_rfl, by kernel_rfl, by kernel_rfl⟩
theorem ex_l1 : lawB 1 ⟨#[]⟩ ⟨#[]⟩ exL1 = true := by kernel_rfl
theorem ex_l2 : lawB 1 ⟨#[]⟩ ⟨#[]⟩ exL2 = true := by kernel_rfl
theorem ex_l3 : lawB 1 ⟨#[]⟩ ⟨#[]⟩ exL3 = true := by kernel_rfl
end Go.Proofs.YtkdhlofcdcnjgaaGreat
namespace Go.Proofs.YtkdhlofcdcnjgaaGreat
set_option maxRecDepth 100000
open Go.ChangeShapes Go.WideShapes Go.ChangeAt Go.RowKit Go.PlainAid Go.Shelf
open Go.Sort (grow)

/-- A tree of one page. -/
structure Ex (V : Int → ByteArray) (n : Nat) (L : List Pr) : Prop where
  root : rootZ (V 1) 0 = 2
  out : outB n (V 0) 2 = true
  page : V 2 = filled (packP 1 L)
  unp : unpP (filled (packP 1 L)) = some L
  lev : bt (filled (packP 1 L)) 0 = 1
  law : lawB 1 ⟨#[]⟩ ⟨#[]⟩ L = true
theorem Ex.rdN {V : Int → ByteArray} {n : Nat} {L : List Pr} (h : Ex V n L) : rdN V (outB n (V 0)) (rootM (rootZ (V 1) 0)).D = (⟨2, 1, ⟨#[]⟩, ⟨#[]⟩, L⟩, false) := by
  have hr : rdP V (outB n (V 0)) (rootM 2).D = some (1, L) := by
    unfold rdP
    rw [show (rootM 2).D.at_ = 2 from rfl, if_neg (by rw [h.out]; decide), h.page, h.unp]
    simp only
    rw [if_neg (fun e => e.1 rfl), h.lev, show (rootM 2).D.low = ⟨#[]⟩ from rfl, show (rootM 2).D.high = ⟨#[]⟩ from rfl, if_neg (by rw [h.law]; decide)]
  rw [h.root]
  unfold Proofs.YtkdhlofcdcnjgaaGreat.rdN
  rw [hr]
  rfl
theorem Ex.vis {V : Int → ByteArray} {n : Nat} {L : List Pr} (h : Ex V n L) (from_ : ByteArray) : visA V n 0 from_ = [(⟨2, 1, ⟨#[]⟩, ⟨#[]⟩, L⟩, false)] := by
  unfold visA
  rw [h.rdN, h.root, if_neg (by decide)]
  show _ :: (if false = true ∨ (1 : Int) = 1 then [] else _) = _
  rw [if_pos (.inr rfl)]
theorem Ex.gives {V : Int → ByteArray} {n : Nat} {L : List Pr} (h : Ex V n L) (from_ : ByteArray) : fromL from_ (visA V n 0 from_) = L.drop (posP from_ L) := by
  rw [h.vis]
  show (if false = true then [] else givP from_ _ ++ []) = _
  rw [if_neg (by decide), List.append_nil]
  unfold givP
  rw [if_pos rfl]
theorem fmt_root (V : Int → ByteArray) (j : Int) : rootZ (fmtV V 1) j = 0 := by
  unfold fmtV
  rw [updV_same]
  exact root_zero j
theorem fmt_least {V : Int → ByteArray} (n : Nat) (hn : 2 < n) (hn2 : n ≤ 1024) (hs : (fmtV V 0).size = 256) : Least (fmtV V 0) 2 n 2 :=
  ⟨⟨by decide, by decide, by omega, by rw [hs]; decide, by rw [fmt_has (by decide) (by decide)]; rfl⟩, fun l hl h => by have := h.1; omega⟩
theorem ex_top {V : Int → ByteArray} {n : Nat} (hn : 2 < n) (hn2 : n ≤ 1024) (hs : (fmtV V 0).size = 256) : Ex (topV (fmtV V) 0 2 1 exL1) n exL1 := by
  have h1 : updV (givenV (fmtV V) 2) 2 (filled (packP 1 exL1)) 1 = zeroText := by
    rw [updV_other _ _ (by decide)]
    unfold givenV
    rw [updV_other _ _ (by decide), updV_other _ _ (by decide)]
    unfold fmtV
    exact updV_same _ _ _
  refine ⟨?_, ?_, ?_, ex_u1, ex_b1.1, ex_l1⟩
  · unfold topV
    rw [updV_same, h1, root_set zeroText_size (by decide) (by decide) (by decide), if_pos rfl]
  · unfold topV
    rw [updV_other _ _ (by decide), updV_other _ _ (by decide)]
    exact out_given hs (fmt_least n hn hn2 hs) hn2
  · unfold topV
    rw [updV_other _ _ (by decide), updV_same]
theorem Ex.put {V : Int → ByteArray} {n : Nat} {L M : List Pr} (h : Ex V n L) (u : unpP (filled (packP 1 M)) = some M) (b : bt (filled (packP 1 M)) 0 = 1) (l : lawB 1 ⟨#[]⟩ ⟨#[]⟩ M = true) : Ex (updV V 2 (filled (packP 1 M))) n M :=
  ⟨by rw [updV_other _ _ (by decide)]; exact h.root, by rw [updV_other _ _ (by decide)]; exact h.out, updV_same _ _ _, u, b, l⟩
end Go.Proofs.YtkdhlofcdcnjgaaGreat
namespace Go.Proofs.YtkdhlofcdcnjgaaGreat
set_option maxRecDepth 100000
open Go.ChangeShapes Go.WideShapes Go.ChangeAt Go.RowKit Go.PlainAid Go.Shelf
open Go.Sort (grow)

section
variable {w0 w w' : World} {pp n c tb : Nat} {V : Int → ByteArray} {R : List (Nat × Obj)}
theorem ex_first (H : PV w0 pp n c (fmtV V) R w) (hT : (tb, treeO pp 0) ∈ R) (hn : 2 < n) (hn2 : n ≤ 1024) (hc : c ≤ 600000) :
    Calls Tryz.prog 8 #[.pointer (some ⟨tb, 0, none⟩), .string ⟨#[98]⟩, .string ⟨#[49]⟩] w fun e w' => e = .returned (.int .i64 0) ∧ ∃ V', Ex V' n exL1 ∧ PV w0 pp n (c + 2000) V' R w' := by
  refine (tput_any (i := 0) H hT (by omega) (by decide) hc tB t1).mono ?_
  rintro e w' ⟨V', z, rfl, hs, h⟩
  have hsz := H.size (k := 0) (by decide) (by omega)
  obtain ⟨rfl, rfl⟩ := (hs (by decide) (by decide) (by decide)).1 (fmt_root V 0) 2 (fmt_least n hn hn2 hsz)
  exact ⟨rfl, _, ex_top hn hn2 hsz, h⟩
theorem ex_more {L M : List Pr} (hE : Ex V n L) (H : PV w0 pp n c V R w) (hT : (tb, treeO pp 0) ∈ R) (hn : 2 < n) (hc : c ≤ 600000) (key val : ByteArray) (hk0 : key.size ≠ 0) (hk : key.size ≤ 32) (hv : val.size ≤ 80)
    (hM : putB ⟨key, val⟩ L = M) (hw : wtP 1 M ≤ 254) (u : unpP (filled (packP 1 M)) = some M) (b : bt (filled (packP 1 M)) 0 = 1) (l : lawB 1 ⟨#[]⟩ ⟨#[]⟩ M = true) :
    Calls Tryz.prog 8 #[.pointer (some ⟨tb, 0, none⟩), .string key, .string val] w fun e w' => e = .returned (.int .i64 0) ∧ ∃ V', Ex V' n M ∧ PV w0 pp n (c + 2000) V' R w' := by
  refine (tput_any (i := 0) H hT (by omega) (by decide) hc key val).mono ?_
  rintro e w' ⟨V', z, rfl, hs, h⟩
  obtain ⟨rfl, rfl⟩ := (hs hk0 hk hv).2 _ (by rw [hE.root]; decide) hE.rdN rfl (by rw [hM]; exact hw)
  rw [hM, hE.root] at h
  exact ⟨rfl, _, hE.put u b l, h⟩
theorem RowR.rd {l : List Pr} {v : Value} {Y : List (Nat × Obj)} {lo : Nat} (h : RowR lo l v Y) (H : PV w0 pp n c V (Y ++ R) w) : ∃ ao cap, v = .slice ao l.length cap ∧ RdP w ao l := by
  rcases h with ⟨rfl, rfl, rfl⟩ | ⟨g, cap, cur, rfl, rfl, _, _, _, _, hr⟩
  · exact ⟨none, 0, rfl, .inl rfl⟩
  · have hg := H.mem (x := (g, rowC cur)) (by simp)
    refine ⟨_, cap, rfl, .inr ⟨g, 0, rfl, H.lt (x := (g, rowC cur)) (by simp), fun i p hp => ?_⟩⟩
    unfold rowC at hg
    rw [cell_of_row _ _ _ _ _ _ hg, cell_of_row _ _ _ _ _ _ hg, Nat.zero_add]
    exact hr.at hp
end
set_option maxHeartbeats 2000000 in
theorem awake8_any (w : World) : Calls Tryz.prog 14 #[] w fun e w' => e = .returned (.bool true) ∧ Below w.heap.size w w' := by
  have HB := Lib.hid (begun8_any 40 w (by omega) (by omega))
  go_enter Tryz.func14, Tryz.ntmps14
  go_wp2_with fail
  refine HB.out.mono ?_
  rintro e w1 ⟨pp, p, V, rfl, H1⟩
  have HO := Lib.hid (opened_any (i := 0) H1 (by omega) (by decide))
  clear HB H1
  go_wp2_with fail
  refine HO.out.mono ?_
  rintro e w2 ⟨tb, rfl, H2⟩
  have HP := Lib.hid (ex_first (tb := tb) H2 (by simp) (by omega) (by omega) (by omega))
  clear HO H2
  go_wp2_with fail
  refine HP.out.mono ?_
  rintro e w3 ⟨rfl, V1, hE1, H3⟩
  have HP := Lib.hid (ex_more (M := exL2) (tb := tb) hE1 H3 (by simp) (by omega) (by omega) ⟨#[97]⟩ ⟨#[50]⟩ (by decide) (by decide) (by decide) ex_p2 (by decide) ex_u2 ex_b1.2.1 ex_l2)
  clear H3 hE1
  go_wp2_with fail
  refine HP.out.mono ?_
  rintro e w4 ⟨rfl, V2, hE2, H4⟩
  have HP := Lib.hid (ex_more (M := exL3) (tb := tb) hE2 H4 (by simp) (by omega) (by omega) ⟨#[98]⟩ ⟨#[51]⟩ (by decide) (by decide) (by decide) ex_p3 (by decide) ex_u3 ex_b1.2.2 ex_l3)
  clear H4 hE2
  go_wp2_with fail
  refine HP.out.mono ?_
  rintro e w5 ⟨rfl, V3, hE3, H5⟩
  have HE := Lib.hid hE3
  have HH := Lib.hid H5
  clear HP H5 hE3
  go_wp2_with fail
  have HAL := Lib.hid (all_any (tb := tb) (i := 0) HH.out List.mem_cons_self (by omega) (by decide))
  rw [show (fromL ⟨#[]⟩ (visA V3 40 0 ⟨#[]⟩)).take 5000 = exL3 by rw [HE.out.gives]; kernel_rfl] at HAL
  refine HAL.out.mono ?_
  rintro e w6 ⟨v, Y, rfl, hr, H6⟩
  obtain ⟨ao, cap, rfl, hrd⟩ := hr.rd H6
  have HR := Lib.hid hrd
  have H6' := Lib.hid (H6.sub [(tb, treeO pp 0)] fun y hy => List.mem_append_right _ hy)
  clear HAL H6 hr hrd HH
  rw [show exL3.length = 2 from rfl]
  go_wp2_with fail
  have H7 := H6'.out.push (rowO exL3)
  have HS : Hid (Calls Tryz.prog 38 #[.slice ao 2 cap, .slice (some ⟨w6.heap.size, 0, none⟩) 2 2] (w6.alloc (.cells #[.string ⟨#[97]⟩, .string ⟨#[50]⟩, .string ⟨#[98]⟩, .string ⟨#[51]⟩] 47))
      fun e w' => e = .returned (.bool true) ∧ Below (w6.alloc (rowO exL3)).heap.size (w6.alloc (rowO exL3)) w') :=
    Lib.hid (same_true (L := exL3) (HR.out.on (show Below w6.heap.size w6 (w6.alloc (rowO exL3)) by go_grown)) (H7.kn (Kn.of List.mem_cons_self)) cap 2 (by decide))
  have H7' := Lib.hid H7.drop
  clear H7 HR H6'
  refine HS.out.mono ?_
  rintro e w8 ⟨rfl, hb8⟩
  have H8 := H7'.out.on hb8
  have HSO := Lib.hid (some_any (tb := tb) (i := 0) ⟨#[97, 97]⟩ (by decide) 9 (by decide) H8 List.mem_cons_self (by omega) (by decide))
  rw [show (fromL ⟨#[97, 97]⟩ (visA V3 40 0 ⟨#[97, 97]⟩)).take (9 : Int).toNat = [⟨tB, t3⟩] by rw [HE.out.gives]; kernel_rfl] at HSO
  clear HS H7' hb8 H8
  go_wp2_with fail
  refine HSO.out.mono ?_
  rintro e w9 ⟨v, Y, rfl, hr, H9⟩
  obtain ⟨ao2, cap2, rfl, hrd⟩ := hr.rd H9
  have HR := Lib.hid hrd
  have H9' := Lib.hid (H9.sub [(tb, treeO pp 0)] fun y hy => List.mem_append_right _ hy)
  clear HSO H9 hr hrd
  rw [show ([⟨tB, t3⟩] : List Pr).length = 1 from rfl]
  go_wp2_with fail
  have H7 := H9'.out.push (rowO [⟨tB, t3⟩])
  have HS : Hid (Calls Tryz.prog 38 #[.slice ao2 1 cap2, .slice (some ⟨w9.heap.size, 0, none⟩) 1 1] (w9.alloc (.cells #[.string ⟨#[98]⟩, .string ⟨#[51]⟩] 47))
      fun e w' => e = .returned (.bool true) ∧ Below (w9.alloc (rowO [⟨tB, t3⟩])).heap.size (w9.alloc (rowO [⟨tB, t3⟩])) w') :=
    Lib.hid (same_true (L := [⟨tB, t3⟩]) (HR.out.on (show Below w9.heap.size w9 (w9.alloc (rowO [⟨tB, t3⟩])) by go_grown)) (H7.kn (Kn.of List.mem_cons_self)) cap2 1 (by decide))
  have H7' := Lib.hid H7.drop
  clear H7 HR H9'
  refine HS.out.mono ?_
  rintro e w10 ⟨rfl, hb10⟩
  have H10 := H7'.out.on hb10
  have HC := Lib.hid (count_any (tb := tb) (i := 0) H10 List.mem_cons_self (by omega) (by decide) exL3 (by rw [HE.out.gives]; kernel_rfl) (by decide))
  rw [show ((exL3.length : Nat) : Int) = 2 from rfl] at HC
  clear HS H7' hb10 H10
  go_wp2_with fail
  refine HC.out.mono ?_
  rintro e w11 ⟨rfl, H11⟩
  have HBL := Lib.hid H11.below
  clear HC H11
  go_wp2_with fail
  go_returns
  exact ⟨rfl, HBL.out⟩
end Go.Proofs.YtkdhlofcdcnjgaaGreat
