import PyProof.Rows.All
import KE.OsGo
import PySem.Challenge.RW_movedby_s01_cost
open PySem PySem.W
set_option Elab.async false
namespace Mv
/-- how far two greys are apart, as the program reckons it -/
def ab (z : Int) : Int := if z < 0 then -z else z
theorem ab_nat (z : Int) : ab z = (z.natAbs : Int) := by unfold ab; omega
def cell (w dx dy : Int) (a b : List Int) (y x : Int) : Int := ab (a.getD (y * w + x).toNat 0 - b.getD ((y + dy) * w + x + dx).toNat 0)
def row (w r dx dy : Int) (a b : List Int) (y : Int) : Nat → Int
  | 0 => 0
  | n + 1 => row w r dx dy a b y n + cell w dx dy a b y (r + (n : Int))
def all (w r dx dy : Int) (a b : List Int) : Nat → Int
  | 0 => 0
  | n + 1 => all w r dx dy a b n + row w r dx dy a b (r + (n : Int)) (w - r - r).toNat
def total (w h r dx dy : Int) (a b : List Int) : Int := all w r dx dy a b (h - r - r).toNat

theorem sum_flat {α β : Type} (f : α → List β) (g : β → Nat) : ∀ l : List α, ((l.flatMap f).map g).sum = (l.map fun j => ((f j).map g).sum).sum
  | [] => rfl
  | x :: l => by
    rw [List.flatMap_cons, List.map_append, List.sum_append, sum_flat f g l, List.map_cons, List.sum_cons]
theorem sum_range_succ (F : Nat → Nat) (n : Nat) : ((List.range (n + 1)).map F).sum = ((List.range n).map F).sum + F n := by
  rw [List.range_succ, List.map_append, List.sum_append]
  simp
theorem sum_congr {F G : Nat → Nat} (n : Nat) (h : ∀ i, i < n → F i = G i) : ((List.range n).map F).sum = ((List.range n).map G).sum := by
  induction n with
  | zero => rfl
  | succ n ih => rw [sum_range_succ, sum_range_succ, ih (fun i hi => h i (by omega)), h n (by omega)]

theorem getD_nat {a : List Int} (ha : ∀ x ∈ a, 0 ≤ x ∧ x ≤ 255) (k : Nat) : (((a.map Int.toNat).getD k 0 : Nat) : Int) = a.getD k 0 := by
  rw [List.getD_eq_getElem?_getD, List.getD_eq_getElem?_getD, List.getElem?_map]
  cases e : a[k]? with
  | none => rfl
  | some v =>
    have := ha v (List.mem_of_getElem? e)
    show ((v.toNat : Nat) : Int) = v
    omega
theorem getD_in {a : List Int} (ha : ∀ x ∈ a, 0 ≤ x ∧ x ≤ 255) (k : Nat) : 0 ≤ a.getD k 0 ∧ a.getD k 0 ≤ 255 := by
  rw [List.getD_eq_getElem?_getD]
  cases e : a[k]? with
  | none => exact ⟨Int.le_refl 0, by decide⟩
  | some v => exact ha v (List.mem_of_getElem? e)
/-- the grey at a place, in the specification and in the program -/
theorem at_eq {w h : Int} {a : List Int} (ha : ∀ x ∈ a, 0 ≤ x ∧ x ≤ 255) {x y : Int} (x0 : 0 ≤ x) (xw : x < w) (y0 : 0 ≤ y) (yh : y < h) :
    ((Kh288.Pic.at_ ⟨w.toNat, h.toNat, a.map Int.toNat⟩ x y : Nat) : Int) = a.getD (y * w + x).toNat 0 := by
  have c : 0 ≤ x ∧ x < ((w.toNat : Nat) : Int) ∧ 0 ≤ y ∧ y < ((h.toNat : Nat) : Int) := by omega
  unfold Kh288.Pic.at_
  rw [if_pos c]
  have e : y.toNat * w.toNat + x.toNat = (y * w + x).toNat := by
    have h1 : ((y.toNat * w.toNat : Nat) : Int) = y * w := by
      rw [Int.natCast_mul, Int.toNat_of_nonneg y0, Int.toNat_of_nonneg (by omega)]
    omega
  show ((List.getD (a.map Int.toNat) (y.toNat * w.toNat + x.toNat) 0 : Nat) : Int) = _
  rw [e]
  exact getD_nat ha _

section
variable {w h r dx dy : Int} {a b : List Int}
theorem cost_eq (r0 : 0 ≤ r) (hw : 2 * r + 1 ≤ w) (hh : 2 * r + 1 ≤ h) (x0 : -r ≤ dx) (x1 : dx ≤ r) (y0 : -r ≤ dy) (y1 : dy ≤ r)
    (ha : ∀ x ∈ a, 0 ≤ x ∧ x ≤ 255) (hb : ∀ x ∈ b, 0 ≤ x ∧ x ≤ 255) :
    ((Kh288.cost ⟨w.toNat, h.toNat, a.map Int.toNat⟩ ⟨w.toNat, h.toNat, b.map Int.toNat⟩ r.toNat (dx, dy) : Nat) : Int) = total w h r dx dy a b := by
  unfold Kh288.cost Kh288.middle
  rw [sum_flat]
  have hrow : ∀ j : Nat, j < (h - r - r).toNat → ∀ n : Nat, n ≤ (w - r - r).toNat →
      ((((List.range n).map fun i : Nat => ((((Kh288.Pic.at_ ⟨w.toNat, h.toNat, a.map Int.toNat⟩ ((r.toNat + i : Nat) : Int) ((r.toNat + j : Nat) : Int) : Nat) : Int) -
        ((Kh288.Pic.at_ ⟨w.toNat, h.toNat, b.map Int.toNat⟩ (((r.toNat + i : Nat) : Int) + dx) (((r.toNat + j : Nat) : Int) + dy) : Nat) : Int)).natAbs)).sum : Nat) : Int)
        = row w r dx dy a b (r + (j : Int)) n := by
    intro j hj n
    induction n with
    | zero => intro _; rfl
    | succ n ih =>
      intro hn
      rw [sum_range_succ, Int.natCast_add, ih (by omega)]
      show _ = row w r dx dy a b (r + (j : Int)) n + cell w dx dy a b (r + (j : Int)) (r + (n : Int))
      congr 1
      have e1 : ((r.toNat + n : Nat) : Int) = r + (n : Int) := by omega
      have e2 : ((r.toNat + j : Nat) : Int) = r + (j : Int) := by omega
      rw [e1, e2, at_eq ha (by omega) (by omega) (by omega) (by omega), at_eq hb (by omega) (by omega) (by omega) (by omega)]
      unfold cell
      rw [ab_nat]
      congr 5
      omega
  have hall : ∀ m : Nat, m ≤ (h - r - r).toNat →
      ((((List.range m).map fun j : Nat => ((((List.range (w.toNat - 2 * r.toNat)).map fun i : Nat => (r.toNat + i, r.toNat + j)).map fun p : Nat × Nat =>
        ((((Kh288.Pic.at_ ⟨w.toNat, h.toNat, a.map Int.toNat⟩ (p.1 : Int) (p.2 : Int) : Nat) : Int) -
        ((Kh288.Pic.at_ ⟨w.toNat, h.toNat, b.map Int.toNat⟩ ((p.1 : Int) + dx) ((p.2 : Int) + dy) : Nat) : Int)).natAbs)).sum : Nat)).sum : Nat) : Int)
        = all w r dx dy a b m := by
    intro m
    induction m with
    | zero => intro _; rfl
    | succ m ih =>
      intro hm
      rw [sum_range_succ, Int.natCast_add, ih (by omega)]
      show _ = all w r dx dy a b m + row w r dx dy a b (r + (m : Int)) (w - r - r).toNat
      congr 1
      rw [List.map_map, show w.toNat - 2 * r.toNat = (w - r - r).toNat by omega]
      exact hrow m (by omega) _ (Nat.le_refl _)
  have eh : h.toNat - 2 * r.toNat = (h - r - r).toNat := by omega
  show ((((List.range (h.toNat - 2 * r.toNat)).map _).sum : Nat) : Int) = _
  rw [eh]
  exact hall _ (Nat.le_refl _)
end
end Mv

namespace Mv
theorem dec_cons {c : Codec} {cs : List Codec} {d : WData} {ds : List WData} (h : (Codec.decAll (c :: cs) (d :: ds)).isSome = true) :
    (Codec.decAll [c] [d]).isSome = true ∧ (Codec.decAll cs ds).isSome = true := by
  have e : Codec.decAll (c :: cs) (d :: ds) = Codec.both Prod.mk (c.dec d) (Codec.decAll cs ds) := rfl
  have e1 : Codec.decAll [c] [d] = Codec.both Prod.mk (c.dec d) (some ()) := rfl
  rw [e] at h
  rw [e1]
  cases h1 : c.dec d with
  | none =>
    rw [h1] at h
    cases h
  | some a =>
    cases h2 : Codec.decAll cs ds with
    | none =>
      rw [h1, h2] at h
      cases h
    | some r => exact ⟨rfl, rfl⟩
theorem dec_join {c : Codec} {cs : List Codec} {d : WData} {ds : List WData} {a : c.denote} {r : Codec.denoteAll cs} (h1 : Codec.decAll [c] [d] = some (a, ())) (h2 : Codec.decAll cs ds = some r) :
    Codec.decAll (c :: cs) (d :: ds) = some (a, r) := by
  have e : Codec.decAll (c :: cs) (d :: ds) = Codec.both Prod.mk (c.dec d) (Codec.decAll cs ds) := rfl
  have e1 : Codec.decAll [c] [d] = Codec.both Prod.mk (c.dec d) (some ()) := rfl
  rw [e1] at h1
  rw [e, h2]
  cases h3 : c.dec d with
  | none =>
    rw [h3] at h1
    cases h1
  | some b =>
    rw [h3] at h1
    cases h1
    rfl
theorem dec_int {lo hi k : Int} (h : (Codec.decAll [.int lo hi] [WData.int k]).isSome = true) : Codec.decAll [.int lo hi] [WData.int k] = some (k, ()) ∧ lo ≤ k ∧ k ≤ hi := by
  have e : Codec.decAll [.int lo hi] [WData.int k] = Codec.both Prod.mk (if Codec.inInt lo hi k = true then some k else none) (some ()) := rfl
  rw [e] at h ⊢
  cases h1 : Codec.inInt lo hi k with
  | false =>
    rw [h1] at h
    cases h
  | true =>
    unfold Codec.inInt at h1
    simp only [Bool.and_eq_true, decide_eq_true_eq] at h1
    exact ⟨rfl, h1.1, h1.2⟩
/-- what is handed in as pictures: of the size, or none -/
structure Pics (w h : Int) (a b : List Int) : Prop where
  la : 1 ≤ w ∧ w ≤ 256 ∧ 1 ≤ h ∧ h ≤ 256 → (a.length : Int) = w * h
  lb : 1 ≤ w ∧ w ≤ 256 ∧ 1 ≤ h ∧ h ≤ 256 → (b.length : Int) = w * h
  ia : ∀ x ∈ a, 0 ≤ x ∧ x ≤ 255
  ib : ∀ x ∈ b, 0 ≤ x ∧ x ≤ 255
theorem pics_of {w h : Int} {a b : List Int} (ia : ∀ x ∈ a, 0 ≤ x ∧ x ≤ 255) (ib : ∀ x ∈ b, 0 ≤ x ∧ x ≤ 255) (k : Kh288Neutral.okPics w h a b = true) : Pics w h a b := by
  unfold Kh288Neutral.okPics Kh288Neutral.nat at k
  have key : 1 ≤ w ∧ w ≤ 256 ∧ 1 ≤ h ∧ h ≤ 256 → (a.length : Int) = w * h ∧ (b.length : Int) = w * h := by
    intro c
    rw [if_pos c] at k
    simp only [Bool.and_eq_true, beq_iff_eq] at k
    obtain ⟨⟨⟨k1, k2⟩, _⟩, _⟩ := k
    have e : ((w.toNat * h.toNat : Nat) : Int) = w * h := by
      rw [Int.natCast_mul, Int.toNat_of_nonneg (by omega), Int.toNat_of_nonneg (by omega)]
    omega
  exact ⟨fun c => (key c).1, fun c => (key c).2, ia, ib⟩
theorem asked {w h r dx dy : Int} {a b : List Int} (hp : PySem.Challenge.rw_movedby_s01_cost.pre [WData.int w, WData.int h, WData.int r, WData.int dx, WData.int dy, ofPy (PyData.list (a.map PyData.int)), ofPy (PyData.list (b.map PyData.int))] = true) :
    (0 ≤ w ∧ w ≤ 4294967295) ∧ (0 ≤ h ∧ h ≤ 4294967295) ∧ (0 ≤ r ∧ r ≤ 4294967295) ∧ (-2147483648 ≤ dx ∧ dx ≤ 2147483647) ∧ (-2147483648 ≤ dy ∧ dy ≤ 2147483647) ∧ a.length ≤ 65536 ∧ b.length ≤ 65536 ∧ Pics w h a b ∧
    Codec.decAll PySem.Challenge.rw_movedby_s01_cost.args [WData.int w, WData.int h, WData.int r, WData.int dx, WData.int dy, ofPy (PyData.list (a.map PyData.int)), ofPy (PyData.list (b.map PyData.int))] = some (w, h, r, dx, dy, a, b, ()) := by
  obtain ⟨h1, t1⟩ := dec_cons (os_pre_isSome hp)
  obtain ⟨h2, t2⟩ := dec_cons t1
  obtain ⟨h3, t3⟩ := dec_cons t2
  obtain ⟨h4, t4⟩ := dec_cons t3
  obtain ⟨h5, t5⟩ := dec_cons t4
  obtain ⟨h6, h7⟩ := dec_cons t5
  obtain ⟨e1, l1, u1⟩ := dec_int h1
  obtain ⟨e2, l2, u2⟩ := dec_int h2
  obtain ⟨e3, l3, u3⟩ := dec_int h3
  obtain ⟨e4, l4, u4⟩ := dec_int h4
  obtain ⟨e5, l5, u5⟩ := dec_int h5
  obtain ⟨e6, _, u6, i6⟩ := os_dec_ints h6
  obtain ⟨e7, _, u7, i7⟩ := os_dec_ints h7
  have ee : Codec.decAll PySem.Challenge.rw_movedby_s01_cost.args [WData.int w, WData.int h, WData.int r, WData.int dx, WData.int dy, ofPy (PyData.list (a.map PyData.int)), ofPy (PyData.list (b.map PyData.int))] = some (w, h, r, dx, dy, a, b, ()) :=
    dec_join e1 (dec_join e2 (dec_join e3 (dec_join e4 (dec_join e5 (dec_join e6 e7)))))
  refine ⟨⟨l1, u1⟩, ⟨l2, u2⟩, ⟨l3, u3⟩, ⟨l4, u4⟩, ⟨l5, u5⟩, u6, u7, ?_, ee⟩
  unfold OpenSpec.pre at hp
  rw [ee] at hp
  have hp' : Kh288Neutral.asked1 [[0, w, h, r, dx, dy], a, b] = true := hp
  simp only [Kh288Neutral.asked1, Bool.and_eq_true] at hp'
  exact pics_of i6 i7 hp'.2
theorem asked_named {w h r dx dy : Int} {a b : List Int} (hp : PySem.Challenge.rw_movedby_s01_cost.pre [WData.int w, WData.int h, WData.int r, WData.int dx, WData.int dy, ofPy (PyData.list (a.map PyData.int)), ofPy (PyData.list (b.map PyData.int))] = true) :
    ∃ A B : List Int, A = a ∧ B = b ∧ (0 ≤ w ∧ w ≤ 4294967295) ∧ (0 ≤ h ∧ h ≤ 4294967295) ∧ (0 ≤ r ∧ r ≤ 4294967295) ∧ (-2147483648 ≤ dx ∧ dx ≤ 2147483647) ∧ (-2147483648 ≤ dy ∧ dy ≤ 2147483647) ∧ A.length ≤ 65536 ∧ B.length ≤ 65536 ∧ Pics w h A B ∧
    Codec.decAll PySem.Challenge.rw_movedby_s01_cost.args [WData.int w, WData.int h, WData.int r, WData.int dx, WData.int dy, ofPy (PyData.list (A.map PyData.int)), ofPy (PyData.list (B.map PyData.int))] = some (w, h, r, dx, dy, A, B, ()) :=
  ⟨a, b, rfl, rfl, asked hp⟩
theorem same_list {l k : List Int} (h : l = k) : same (WData.list (ofPys (l.map PyData.int))) (WData.list (k.map WData.int)) = true := by
  subst h
  rw [ofPys_ints]
  exact same_self _
end Mv

namespace Mv
section
variable {w h r dx dy : Int} {a b : List Int}
theorem ans_ok (P : Pics w h a b) (r0 : 0 ≤ r) (r8 : r ≤ 8) (w1 : 2 * r + 1 ≤ w) (w2 : w ≤ 256) (h1 : 2 * r + 1 ≤ h) (h2 : h ≤ 256) (x0 : -r ≤ dx) (x1 : dx ≤ r) (y0 : -r ≤ dy) (y1 : dy ≤ r) :
    [0, total w h r dx dy a b] = PyKh288.cost w h r dx dy a b := by
  have e := cost_eq (a := a) (b := b) r0 w1 h1 x0 x1 y0 y1 P.ia P.ib
  have ok : Kh288.okSize w.toNat h.toNat r.toNat = true := by
    unfold Kh288.okSize
    simp only [Bool.and_eq_true, decide_eq_true_eq]
    omega
  have re : Kh288.inReach r.toNat (dx, dy) = true := by
    unfold Kh288.inReach
    simp only [Bool.and_eq_true, decide_eq_true_eq]
    omega
  have d : Kh288.doing (.cost ⟨w.toNat, h.toNat, a.map Int.toNat⟩ ⟨w.toNat, h.toNat, b.map Int.toNat⟩ r.toNat (dx, dy)) = ⟨0, [total w h r dx dy a b]⟩ := by
    show (if (Kh288.okSize w.toNat h.toNat r.toNat && Kh288.inReach r.toNat (dx, dy)) = true then (⟨0, [((Kh288.cost _ _ r.toNat (dx, dy) : Nat) : Int)]⟩ : Kh288.Ans) else Kh288.say (-22)) = _
    rw [ok, re, e]
    rfl
  show _ = (Kh288.doing (.cost ⟨w.toNat, h.toNat, a.map Int.toNat⟩ ⟨w.toNat, h.toNat, b.map Int.toNat⟩ r.toNat (dx, dy))).value :: (Kh288.doing (.cost ⟨w.toNat, h.toNat, a.map Int.toNat⟩ ⟨w.toNat, h.toNat, b.map Int.toNat⟩ r.toNat (dx, dy))).nums
  rw [d]
theorem ans_no (r0 : 0 ≤ r) (n : ¬ (r ≤ 8 ∧ 2 * r + 1 ≤ w ∧ w ≤ 256 ∧ 2 * r + 1 ≤ h ∧ h ≤ 256 ∧ -r ≤ dx ∧ dx ≤ r ∧ -r ≤ dy ∧ dy ≤ r)) :
    [-22] = PyKh288.cost w h r dx dy a b := by
  have ok : (Kh288.okSize w.toNat h.toNat r.toNat && Kh288.inReach r.toNat (dx, dy)) = false := by
    rw [Bool.eq_false_iff]
    intro k
    unfold Kh288.okSize Kh288.inReach at k
    simp only [Bool.and_eq_true, decide_eq_true_eq] at k
    omega
  have d : Kh288.doing (.cost ⟨w.toNat, h.toNat, a.map Int.toNat⟩ ⟨w.toNat, h.toNat, b.map Int.toNat⟩ r.toNat (dx, dy)) = ⟨-22, []⟩ := by
    show (if (Kh288.okSize w.toNat h.toNat r.toNat && Kh288.inReach r.toNat (dx, dy)) = true then (⟨0, [((Kh288.cost _ _ r.toNat (dx, dy) : Nat) : Int)]⟩ : Kh288.Ans) else Kh288.say (-22)) = _
    rw [ok]
    rfl
  show _ = (Kh288.doing (.cost ⟨w.toNat, h.toNat, a.map Int.toNat⟩ ⟨w.toNat, h.toNat, b.map Int.toNat⟩ r.toNat (dx, dy))).value :: (Kh288.doing (.cost ⟨w.toNat, h.toNat, a.map Int.toNat⟩ ⟨w.toNat, h.toNat, b.map Int.toNat⟩ r.toNat (dx, dy))).nums
  rw [d]
/-- the inner loop -/
theorem in_start {y t : Int} : t = t + row w r dx dy a b y ([] : List Int).length := (Int.add_zero t).symm
theorem in_turn {y t t0 k : Int} {pre : List Int} (e : t = t0 + row w r dx dy a b y pre.length) (ek : k = r + (pre.length : Int)) :
    t + cell w dx dy a b y k = t0 + row w r dx dy a b y (pre ++ [k]).length := by
  have l : (pre ++ [k]).length = pre.length + 1 := by simp
  have s : row w r dx dy a b y (pre.length + 1) = row w r dx dy a b y pre.length + cell w dx dy a b y (r + (pre.length : Int)) := rfl
  rw [l, s, ← ek]
  omega
theorem out_start : 0 = all w r dx dy a b ([] : List Int).length := rfl
theorem out_turn {t t' k : Int} {pre : List Int} {n : Nat} (e : t = all w r dx dy a b pre.length) (ek : k = r + (pre.length : Int)) (hn : n = (w - r - r).toNat) (e' : t' = t + row w r dx dy a b k n) :
    t' = all w r dx dy a b (pre ++ [k]).length := by
  have l : (pre ++ [k]).length = pre.length + 1 := by simp
  have s : all w r dx dy a b (pre.length + 1) = all w r dx dy a b pre.length + row w r dx dy a b (r + (pre.length : Int)) (w - r - r).toNat := rfl
  rw [l, s, ← ek, e', hn, e]
/-- places -/
theorem prod_in {y : Int} (y0 : 0 ≤ y) (y1 : y < h) (w0 : 0 ≤ w) : 0 ≤ y * w ∧ y * w + w ≤ w * h := by
  refine ⟨Int.mul_nonneg y0 w0, ?_⟩
  have k : (y + 1) * w ≤ h * w := Int.mul_le_mul_of_nonneg_right (by omega) w0
  have e : (y + 1) * w = y * w + w := by rw [Int.add_mul, Int.one_mul]
  rw [Int.mul_comm w h]
  omega
open PySem.Calls PyProof.Rows in
theorem step_mul {prog : Program} {ww : World} {A : Around} {E : Value → Shared → Prop} {s : Shared} {x : Int} {t u : Tok} {Q : Value → Shared → Prop}
    (P : Pics w h a b) (x0 : 0 ≤ x) (x1 : x < h) (w1 : 1 ≤ w) (w2 : w ≤ 256) (h2 : h ≤ 256) (hq : 0 ≤ x * w → x * w + w ≤ (a.length : Int) → x * w + w ≤ (b.length : Int) → Q (.int (x * w) s.toks) { s with toks := s.toks + 1 }) :
    wpAny (model prog ww) A (binaryOp .Mult (.int x t) (.int w u)) Q E s := by
  have p := prod_in x0 x1 (show 0 ≤ w by omega)
  have la := P.la ⟨w1, w2, by omega, h2⟩
  have lb := P.lb ⟨w1, w2, by omega, h2⟩
  exact PyProof.Rows.mul_int (hq p.1 (by omega) (by omega)) (PySem.IntMulOk.of_right (PySem.intBits_le_64 (by omega) (by omega)))
end
end Mv

namespace Mv
section
variable {w h r dx dy : Int} {a b : List Int}
theorem end_ok {t : Int} (E : Codec.decAll PySem.Challenge.rw_movedby_s01_cost.args [WData.int w, WData.int h, WData.int r, WData.int dx, WData.int dy, ofPy (PyData.list (a.map PyData.int)), ofPy (PyData.list (b.map PyData.int))] = some (w, h, r, dx, dy, a, b, ()))
    (P : Pics w h a b) (e : t = all w r dx dy a b (rangeKs r (h - r - r).toNat).length) (r0 : 0 ≤ r) (r8 : r ≤ 8) (w1 : 2 * r + 1 ≤ w) (w2 : w ≤ 256) (h1 : 2 * r + 1 ≤ h) (h2 : h ≤ 256) (x0 : -r ≤ dx) (x1 : dx ≤ r) (y0 : -r ≤ dy) (y1 : dy ≤ r) :
    PySem.Challenge.rw_movedby_s01_cost.post [WData.int w, WData.int h, WData.int r, WData.int dx, WData.int dy, ofPy (PyData.list (a.map PyData.int)), ofPy (PyData.list (b.map PyData.int))] (ofPy (PyData.list [PyData.int 0, PyData.int t])) = true := by
  refine os_post E ?_
  rw [rangeKs_length] at e
  have q : [0, t] = PyKh288.cost w h r dx dy a b := by
    rw [e]
    exact ans_ok P r0 r8 w1 w2 h1 h2 x0 x1 y0 y1
  show same (ofPy (PyData.list ([0, t].map PyData.int))) (WData.list ((PyKh288.cost w h r dx dy a b).map WData.int)) = true
  exact os_same_list (congrArg (List.map PyData.int) q)
theorem end_no (E : Codec.decAll PySem.Challenge.rw_movedby_s01_cost.args [WData.int w, WData.int h, WData.int r, WData.int dx, WData.int dy, ofPy (PyData.list (a.map PyData.int)), ofPy (PyData.list (b.map PyData.int))] = some (w, h, r, dx, dy, a, b, ()))
    (r0 : 0 ≤ r) (n : ¬ (r ≤ 8 ∧ 2 * r + 1 ≤ w ∧ w ≤ 256 ∧ 2 * r + 1 ≤ h ∧ h ≤ 256 ∧ -r ≤ dx ∧ dx ≤ r ∧ -r ≤ dy ∧ dy ≤ r)) :
    PySem.Challenge.rw_movedby_s01_cost.post [WData.int w, WData.int h, WData.int r, WData.int dx, WData.int dy, ofPy (PyData.list (a.map PyData.int)), ofPy (PyData.list (b.map PyData.int))] (ofPy (PyData.list [PyData.int (-22)])) = true := by
  refine os_post E ?_
  have q : [-22] = PyKh288.cost w h r dx dy a b := ans_no r0 n
  show same (ofPy (PyData.list ([-22].map PyData.int))) (WData.list ((PyKh288.cost w h r dx dy a b).map WData.int)) = true
  exact os_same_list (congrArg (List.map PyData.int) q)
end
end Mv

local macro_rules | `(tactic| walk_at "binaryOp Mult int int") => `(tactic| (k_here; (with_reducible refine' Mv.step_mul ?k0 ?k1 ?k2 ?k3 ?k4 ?k5 ?_); (case k0 => assumption); (case k1 => k_dflt omega); (case k2 => k_dflt omega); (case k3 => k_dflt omega); (case k4 => k_dflt omega); (case k5 => k_dflt omega); intro mv1 mv2 mv3))
local macro_rules | `(tactic| walk_at "eval Call") => `(tactic| (k_here; k_dflt (refine PyProof.Rows.Call_ ?_)))
local macro_rules | `(tactic| walk_at "subscriptTail") => `(tactic| (k_here; (with_reducible show wpAny _ _ (subscriptTail _ _ (Value.ref _) (Value.int _ _)) _ _ _); (with_unfolding_all refine' PySem.W.item_anyK ?k1 ?k2 ?k3 ?k4 ?k5 ?_ ?k6; (case k1 => is_list); (case k2 => l_ints); (case k3 => k_dflt omega); (case k4 => k_dflt omega); (case k5 => k_dflt omega); (case k6 => with_unfolding_all rfl); k_whole); intro _))
example : Int → Int → Int → Int → List Int → List Int → List Int → Int → Prop := fun w r dx dy a b pre t => t = Mv.all w r dx dy a b pre.length
example : Int → Int → Int → Int → List Int → List Int → Int → Int → List Int → Int → Prop := fun w r dx dy a b y t0 pre t => t = t0 + Mv.row w r dx dy a b y pre.length
set_option maxRecDepth 100000 in
set_option maxHeartbeats 8000000 in
theorem PySem.Challenge.cw_movedby_s01_cost_holds : PySem.Challenge.rw_movedby_s01_cost.Holds := by
  k_with "state" => (first
    | exact Mv.in_start
    | exact Mv.out_start
    | exact Mv.in_turn (by assumption) (by assumption)
    | exact Mv.out_turn (by assumption) (by assumption) (rangeKs_length _ _) (by assumption))
  k_with "pyIter ref" => (k_of "y" => k_state_given ["w", "r", "dx", "dy"] (fun w r dx dy pre t => t = Mv.all w r dx dy A B pre.length) "total")
  k_with "pyIter ref" => (k_of "x" => k_state_given ["w", "r", "dx", "dy", "y", "total!"] (fun w r dx dy y t0 pre t => t = t0 + Mv.row w r dx dy A B y pre.length) "total")
  w_on
  k_headS
  (case hw => exact ⟨[.int 1, .int 1, .int 0, .int 0, .int 0, .list [.int 0], .list [.int 0]], by decide +kernel, by decide +kernel⟩)
  w_strict (k_goS0; (obtain ⟨A, B, rfl, rfl, ⟨fw0, fw1⟩, ⟨fh0, fh1⟩, ⟨fr0, fr1⟩, ⟨fx0, fx1⟩, ⟨fy0, fy1⟩, fla, flb, fP, fE⟩ := Mv.asked_named (by assumption)); (all_goals try k_fold); k_steps; (all_goals (try (w_end; sp_is; wrow_close))); (all_goals (try k_data)); all_goals first | sp_left | w_report)
  all_goals first
    | exact Mv.end_ok fE fP (by assumption) (by omega) (by omega) (by omega) (by omega) (by omega) (by omega) (by omega) (by omega) (by omega) (by omega)
    | exact Mv.end_no fE (by omega) (by omega)
#print axioms PySem.Challenge.cw_movedby_s01_cost_holds

