/- A walker in memory; contracts of fromOf, toOf, after, before and step. -/
import Derived.Test.YtdepnhnpklbmiaaK
import Derived.Deep.RegionHeld3
namespace Go.Proofs.Ytdepnhnpklbmiaa
open Go.RowKit Go.Sort

set_option maxHeartbeats 400000 in
theorem toOf_any (c : Cu) (A : Option Addr) (n cap : Nat) (w : World) (h0 : -1048576 ≤ c.fr) (h1 : c.fr ≤ 1048576) (hn : n ≤ 1000000) :
    Calls Try.prog 50 #[.agg #[.int .i64 c.fr, .int .i64 c.fst, .slice A n cap]] w fun e w' => e = .returned (.int .i64 (c.fr + n)) ∧ Gr w w' := by
  generalize c.fr = f at *
  generalize c.fst = g
  have hn' : (n : Int) ≤ 1000000 := by omega
  go_enter Try.func50, Try.ntmps50
  go_wp2
  go_ret
  exact ⟨rfl, (Gr.refl _).alloc _⟩
set_option maxHeartbeats 400000 in
theorem fromOf_any (c : Cu) (A : Option Addr) (n cap : Nat) (w : World) :
    Calls Try.prog 49 #[.agg #[.int .i64 c.fr, .int .i64 c.fst, .slice A n cap]] w fun e w' => e = .returned (.int .i64 c.fr) ∧ Gr w w' := by
  generalize c.fr = f at *
  generalize c.fst = g
  go_enter Try.func49, Try.ntmps49
  go_wp2
  go_ret
  exact ⟨rfl, (Gr.refl _).alloc _⟩

/-- a walker along c, at the address ⟨b, off⟩: it is at x, where the value is v -/
structure WkAt (W : World) (b off : Nat) (c : Cu) (A : Option Addr) (n cap : Nat) (x v : Int) : Prop where
  lt : b < W.heap.size
  c0 : W.cell? ⟨b, off, none⟩ = some (.int .i64 c.fr)
  c1 : W.cell? ⟨b, off + 1, none⟩ = some (.int .i64 c.fst)
  c2 : W.cell? ⟨b, off + 2, none⟩ = some (.slice A n cap)
  c3 : W.cell? ⟨b, off + 3, none⟩ = some (.int .i64 x)
  c4 : W.cell? ⟨b, off + 4, none⟩ = some (.int .i64 v)
  f3 : W.frozen? ⟨b, off + 3, none⟩ = false
  f4 : W.frozen? ⟨b, off + 4, none⟩ = false
theorem WkAt.gr {W W' : World} {b off : Nat} {c : Cu} {A : Option Addr} {n cap : Nat} {x v : Int} (h : WkAt W b off c A n cap x v) (hg : Gr W W') : WkAt W' b off c A n cap x v :=
  ⟨Nat.lt_of_lt_of_le h.lt hg.size, (hg.cell (p := ⟨b, off, none⟩) h.lt).trans h.c0, (hg.cell (p := ⟨b, off + 1, none⟩) h.lt).trans h.c1, (hg.cell (p := ⟨b, off + 2, none⟩) h.lt).trans h.c2, (hg.cell (p := ⟨b, off + 3, none⟩) h.lt).trans h.c3,
    (hg.cell (p := ⟨b, off + 4, none⟩) h.lt).trans h.c4, (hg.frozen (p := ⟨b, off + 3, none⟩) h.lt).trans h.f3, (hg.frozen (p := ⟨b, off + 4, none⟩) h.lt).trans h.f4⟩

/-- the slope behind the k-th number -/
def aftV (c : Cu) (k : Nat) : Int := if k = c.sl.length then 1048576 else iA c.sl k

set_option maxHeartbeats 2000000 in
set_option maxRecDepth 100000 in
theorem after_any (b off : Nat) (c : Cu) (A : Option Addr) (n cap k : Nat) (v : Int) (w : World) (hw : WkAt w b off c A n cap (c.fr + k) v) (hx : IntsAt w.heap.size w A n c.sl) (h0 : -1048576 ≤ c.fr) (h1 : c.fr ≤ 1048576) (hn : n ≤ 1000) (hk : k ≤ n) :
    Calls Try.prog 63 #[.pointer (some ⟨b, off, none⟩)] w fun e w' => e = .returned (.int .i64 (aftV c k)) ∧ Gr w w' := by
  have mixed := mixedOrders
  have HW := hide hw
  have HX := hide hx
  obtain ⟨x, hxx⟩ : ∃ x, c.fr + (k : Int) = x := ⟨_, rfl⟩
  obtain ⟨t, ht⟩ : ∃ t, c.fr + (n : Int) = t := ⟨_, rfl⟩
  have HT := hide (fun w1 => toOf_any c A n cap w1 h0 h1 (by omega))
  rw [ht] at HT
  rw [hxx] at HW
  have g0 := HW.out.c0
  have g1 := HW.out.c1
  have g2 := HW.out.c2
  have g3 := HW.out.c3
  have hlt := HW.out.lt
  have hlen := hx.1
  clear hw hx
  by_cases hkn : k = n
  · have hb : (x == t) = true := beq_iff_eq.2 (by omega)
    have HV : Hid (aftV c k = 1048576) := if_pos (by omega)
    clear hxx ht
    go_enter Try.func63, Try.ntmps63
    go_wp2_with fail
    go_region_held3 (fun w' => w'.cell? ⟨b, off, none⟩ = some (.int .i64 c.fr) ∧ w'.cell? ⟨b, off + 1, none⟩ = some (.int .i64 c.fst) ∧ w'.cell? ⟨b, off + 2, none⟩ = some (.slice A n cap) ∧ w'.cell? ⟨b, off + 3, none⟩ = some (.int .i64 x))
      (first | go_keep | exact ⟨(hG1.cell (p := ⟨b, off, none⟩) hlt).trans g0, (hG1.cell (p := ⟨b, off + 1, none⟩) hlt).trans g1, (hG1.cell (p := ⟨b, off + 2, none⟩) hlt).trans g2, (hG1.cell (p := ⟨b, off + 3, none⟩) hlt).trans g3⟩)
      (first | (go_at_call 50; (with_reducible refine (HT.out _).mono ?_); rintro e w2 ⟨rfl, hG1⟩))
    have HG := hide hG1
    clear hG1
    go_wp2
    go_ret
    exact ⟨ret_int HV.out.symm, ((Gr.refl w).drew).trans HG.out⟩
  · have hb : (x == t) = false := beq_eq_false_iff_ne.2 (by omega)
    have hkl : k < n := by omega
    have HV : Hid (aftV c k = iA c.sl k) := if_neg (by omega)
    obtain ⟨b2, off2, rfl, hb2, e0⟩ := HX.out.at_ hkl
    have hd : x - c.fr = (k : Int) := by omega
    have hw2 : IntKind.i64.wrap (x - c.fr) = (k : Int) := by rw [IntKind.wrap_i64]; omega
    have hkl' : (k : Int) < (n : Int) := by omega
    have HH := hide hlen
    clear hxx ht hlen
    go_enter Try.func63, Try.ntmps63
    go_wp2_with fail
    go_region_held3 (fun w' => w'.cell? ⟨b, off, none⟩ = some (.int .i64 c.fr) ∧ w'.cell? ⟨b, off + 1, none⟩ = some (.int .i64 c.fst) ∧ w'.cell? ⟨b, off + 2, none⟩ = some (.slice (some ⟨b2, off2, none⟩) n cap) ∧ w'.cell? ⟨b, off + 3, none⟩ = some (.int .i64 x))
      (first | go_keep | exact ⟨(hG1.cell (p := ⟨b, off, none⟩) hlt).trans g0, (hG1.cell (p := ⟨b, off + 1, none⟩) hlt).trans g1, (hG1.cell (p := ⟨b, off + 2, none⟩) hlt).trans g2, (hG1.cell (p := ⟨b, off + 3, none⟩) hlt).trans g3⟩)
      (first | (go_at_call 50; (with_reducible refine (HT.out _).mono ?_); rintro e w2 ⟨rfl, hG1⟩))
    have hG := ((Gr.refl w).drew).trans hG1
    have E0 : ∀ nq, (w2.drewN nq).cell? ⟨b, off, none⟩ = some (.int .i64 c.fr) := fun _ => (hG.cell (p := ⟨b, off, none⟩) hlt).trans g0
    have E2 : ∀ nq, (w2.drewN nq).cell? ⟨b, off + 2, none⟩ = some (.slice (some ⟨b2, off2, none⟩) n cap) := fun _ => (hG.cell (p := ⟨b, off + 2, none⟩) hlt).trans g2
    have E3 : ∀ nq, (w2.drewN nq).cell? ⟨b, off + 3, none⟩ = some (.int .i64 x) := fun _ => (hG.cell (p := ⟨b, off + 3, none⟩) hlt).trans g3
    have E5 : ∀ nq, (w2.drewN nq).cell? ⟨b2, off2 + k, none⟩ = some (.int .i64 (iA c.sl k)) := fun _ => (hG.cell (p := ⟨b2, off2 + k, none⟩) hb2).trans e0
    have HG := hide hG
    clear hG hG1 HT g0 g1 g2 g3 e0 hb2 hlt h0 h1 hd
    generalize c.fr = ff at *
    go_wp2_with fail
    go_quiet (fail)
    go_wp2
    go_ret
    exact ⟨ret_int HV.out.symm, HG.out.drewN _⟩

end Go.Proofs.Ytdepnhnpklbmiaa
