/- The truth pays. -/
import Derived.Test.YtpobfdhmggkbaaaV13
namespace Go.Proofs.Ytpobfdhmggkbaaa
open Go.RowKit

theorem cpt_comm {o p : Of} (h : cpt o p) : cpt p o := ⟨fun e => h.1 e.symm, fun k a b => h.2 k b a⟩
theorem cpt_all : ∀ {l : List Of}, l.Pairwise cpt → ∀ o ∈ l, ∀ p ∈ l, o.buyer ≠ p.buyer → cpt o p
  | [], _, o, h, _, _, _ => absurd h List.not_mem_nil
  | x :: l, hp, o, ho, p, hp', hne => by
    rw [List.pairwise_cons] at hp
    rcases List.mem_cons.1 ho with e1 | ho2
    · rcases List.mem_cons.1 hp' with e2 | hp2
      · exact absurd (by rw [e1, e2]) hne
      · rw [e1]
        exact hp.1 p hp2
    · rcases List.mem_cons.1 hp' with e2 | hp2
      · rw [e2]
        exact cpt_comm (hp.1 o ho2)
      · exact cpt_all hp.2 o ho2 p hp2 hne
theorem sumP_app (f : Of) : ∀ ys : List Of, sumP (ys ++ [f]) = sumP ys + f.price
  | [] => rfl
  | y :: ys => by
    show sumP (ys ++ [f]) + y.price = sumP ys + y.price + f.price
    rw [sumP_app f ys]
    omega
theorem iand_bits {a s : Int} (h : iand a s = a) (k : Nat) (hk : a.toNat.testBit k = true) : s.toNat.testBit k = true := by
  have e : (iand a s).toNat = a.toNat &&& s.toNat := Int.toNat_natCast _
  rw [h] at e
  rw [e, Nat.testBit_and, Bool.and_eq_true] at hk
  exact hk.2
theorem iand_self {a : Int} (h : 0 ≤ a) : iand a a = a := by
  show ((a.toNat &&& a.toNat : Nat) : Int) = a
  rw [Nat.and_self]
  exact Int.toNat_of_nonneg h
theorem gfrom_cases (fl : List Int) (b : Int) (ws T P : List Int) : ∀ (r k : Nat), k + r = T.length → (gfrom fl b ws T P r k = 0 ∧ ∀ j, k ≤ j → j < T.length → (offN fl (T.getD j 0).toNat).buyer ≠ b) ∨
    ∃ j, k ≤ j ∧ j < T.length ∧ (offN fl (T.getD j 0).toNat).buyer = b ∧ gfrom fl b ws T P r k = ws.getD (offN fl (T.getD j 0).toNat).lots.toNat 0 - P.getD j 0
  | 0, k, h => .inl ⟨rfl, fun j h1 h2 => by omega⟩
  | r + 1, k, h => by
    unfold gfrom
    split
    · rename_i hb
      exact .inr ⟨k, Nat.le_refl _, by omega, beq_iff_eq.1 hb, rfl⟩
    · rename_i hb
      rcases gfrom_cases fl b ws T P r (k + 1) (by omega) with ⟨h1, h2⟩ | ⟨j, h1, h2⟩
      · refine .inl ⟨h1, fun j h3 h4 => ?_⟩
        by_cases e : j = k
        · subst e
          exact fun e => hb (beq_iff_eq.2 e)
        · exact h2 j (by omega) h4
      · exact .inr ⟨j, by omega, h2⟩
section
variable {lots b : Int} {R F L : List Of} {ws : List Int}
/-- the gain of a buyer by one list of offers -/
theorem gain_form {fl : List Int} {n : Nat} {F : List Of} (h : checkV lots fl n = 0) (hA : ofsF fl 0 n = R ++ F) (hR : ∀ o ∈ R, o.buyer ≠ b) (hF : ∀ o ∈ F, o.buyer = b) :
    (gfrom fl b ws (decT lots fl n) (decP lots fl n) (decT lots fl n).length 0 = 0 ∧ wT (R ++ F) 0 0 = wT R 0 0) ∨
    ∃ o ∈ F, gfrom fl b ws (decT lots fl n) (decP lots fl n) (decT lots fl n).length 0 = ws.getD o.lots.toNat 0 + (wT (R ++ F) 0 0 - o.price) - wT R 0 0 ∧ validO lots o = true ∧ ∃ ys, ys.Sublist R ∧ Cho ys 0 0 ∧ sumP ys = wT (R ++ F) 0 0 - o.price ∧ ∀ p ∈ ys, cpt p o := by
  obtain ⟨h1, h2, h3, h4⟩ := took h
  have hw := best_w h
  rw [hA] at hw
  have hfil : (ofsF fl 0 n).filter (fun o => o.buyer != b) = R := by
    rw [hA, List.filter_append, List.filter_eq_self.2 fun o ho => by simp [hR o ho], List.filter_eq_nil_iff.2 fun o ho => by simp [hF o ho], List.append_nil]
  rcases gfrom_cases fl b ws (decT lots fl n) (decP lots fl n) (decT lots fl n).length 0 (Nat.zero_add _) with ⟨g1, g2⟩ | ⟨j, _, hj, hbj, g⟩
  · refine .inl ⟨g1, ?_⟩
    have hnone : ∀ o ∈ pick fl (bestV lots fl n).1, o.buyer ≠ b := by
      intro o ho
      obtain ⟨y, hy, rfl⟩ := List.mem_map.1 ho
      obtain ⟨j, hj, rfl⟩ := List.mem_iff_getElem.1 hy
      have := g2 j (Nat.zero_le _) hj
      rwa [show (decT lots fl n).getD j 0 = (bestV lots fl n).1[j] by rw [List.getD_eq_getElem?_getD]; show ((bestV lots fl n).1[j]?).getD 0 = _; rw [List.getElem?_eq_getElem hj]; rfl] at this
    have ha := rest_le b h
    have hb := rest_ge b h
    rw [bar_none hnone, h3] at hb
    rw [hfil] at ha hb
    omega
  · refine .inr ⟨offN fl ((decT lots fl n).getD j 0).toNat, ?_, ?_⟩
    · have hi := h4 _ (getD_memI (l := (bestV lots fl n).1) hj)
      have hm : offN fl ((decT lots fl n).getD j 0).toNat ∈ ofsF fl 0 n := ofsF_mem.2 ⟨_, Nat.zero_le _, by have : ((decT lots fl n).getD j 0).toNat < n := by { show ((bestV lots fl n).1.getD j 0).toNat < n; omega }; omega, rfl⟩
      rw [hA] at hm
      rcases List.mem_append.1 hm with hm | hm
      · exact absurd hbj (hR _ hm)
      · exact hm
    · have hi := h4 _ (getD_memI (l := (bestV lots fl n).1) hj)
      obtain ⟨_, _, hT⟩ := taken_all h
      obtain ⟨_, hp, _⟩ := hT j hj
      have hpw := pay_w h hi
      have hbj' : (offN fl ((bestV lots fl n).1.getD j 0).toNat).buyer = b := hbj
      rw [hbj', hfil] at hpw
      have hp' : (decP lots fl n).getD j 0 = payO fl n (bestV lots fl n).2.1 ((bestV lots fl n).1.getD j 0) := hp
      have hmem : offN fl ((bestV lots fl n).1.getD j 0).toNat ∈ pick fl (bestV lots fl n).1 := List.mem_map.2 ⟨_, getD_memI (l := (bestV lots fl n).1) hj, rfl⟩
      have hsb := sum_but h2.1 hmem
      rw [hbj', h3] at hsb
      refine ⟨?_, (check_ok h).2.2 _ (by show ((bestV lots fl n).1.getD j 0).toNat < n; omega), (pick fl (bestV lots fl n).1).filter (fun o => o.buyer != b), ?_, Cho_sub List.filter_sublist h2, ?_, fun p hp => ?_⟩
      · rw [g, hp', ← hw]
        show ws.getD (offN fl ((bestV lots fl n).1.getD j 0).toNat).lots.toNat 0 - _ = ws.getD (offN fl ((bestV lots fl n).1.getD j 0).toNat).lots.toNat 0 + ((bestV lots fl n).2.1 - (offN fl ((bestV lots fl n).1.getD j 0).toNat).price) - _
        omega
      · have := h1.filter (fun o => o.buyer != b)
        rwa [hfil] at this
      · rw [hsb, hw]
        rfl
      · have hpm := List.mem_filter.1 hp
        exact cpt_all h2.1 p hpm.1 _ hmem (by show p.buyer ≠ (offN fl ((bestV lots fl n).1.getD j 0).toNat).buyer; rw [hbj']; simpa using hpm.2)
/-- what a set is worth to a buyer -/
def Wo (lots : Int) (F : List Of) (ws : List Int) : Prop := ∀ s : Int, 0 ≤ s → s < bit lots → (∀ f ∈ F, iand f.lots s = f.lots → f.price ≤ ws.getD s.toNat 0) ∧ (ws.getD s.toNat 0 = 0 ∨ ∃ f ∈ F, iand f.lots s = f.lots ∧ ws.getD s.toNat 0 = f.price)
theorem truth_math {tr ot : List Int} {nt no : Nat} (h : checkV lots tr nt = 0) (k : checkV lots ot no = 0) (hA : ofsF tr 0 nt = R ++ F) (hB : ofsF ot 0 no = R ++ L) (hR : ∀ o ∈ R, o.buyer ≠ b) (hF : ∀ o ∈ F, o.buyer = b) (hL : ∀ o ∈ L, o.buyer = b) (hw : Wo lots F ws) :
    0 ≤ gfrom tr b ws (decT lots tr nt) (decP lots tr nt) (decT lots tr nt).length 0 ∧ gfrom ot b ws (decT lots ot no) (decP lots ot no) (decT lots ot no).length 0 ≤ gfrom tr b ws (decT lots tr nt) (decP lots tr nt) (decT lots tr nt).length 0 := by
  have hok : ∀ o ∈ R ++ F, okO o := by
    have := check_okO h
    rwa [hA] at this
  obtain ⟨m1, _⟩ := wT_max (R ++ F) 0 0 (Int.le_refl _) hok
  have hRF : wT R 0 0 ≤ wT (R ++ F) 0 0 := by
    obtain ⟨_, ys, a1, a2, a3⟩ := wT_max R 0 0 (Int.le_refl _) fun o ho => hok o (List.mem_append_left _ ho)
    rw [← a3]
    exact m1 ys (a1.trans (List.sublist_append_left R F)) a2
  have hbit : ∀ {o : Of}, validO lots o = true → 0 ≤ o.lots ∧ o.lots < bit lots := fun {o} ho => ⟨(valid_b (check_ok h).1 ho).2.1.1 |> fun h => by omega, lots_lt ho⟩
  have honest : wT (R ++ F) 0 0 - wT R 0 0 ≤ gfrom tr b ws (decT lots tr nt) (decP lots tr nt) (decT lots tr nt).length 0 := by
    rcases gain_form (ws := ws) h hA hR hF with ⟨g1, g2⟩ | ⟨o, ho, g, hv, _⟩
    · omega
    · obtain ⟨b1, b2⟩ := hbit hv
      have := (hw o.lots b1 b2).1 o ho (iand_self b1)
      omega
  have liar : gfrom ot b ws (decT lots ot no) (decP lots ot no) (decT lots ot no).length 0 ≤ wT (R ++ F) 0 0 - wT R 0 0 := by
    rcases gain_form (ws := ws) k hB hR hL with ⟨g1, g2⟩ | ⟨o, ho, g, hv, ys, y1, y2, y3, y4⟩
    · omega
    · obtain ⟨b1, b2⟩ := hbit hv
      rcases (hw o.lots b1 b2).2 with w0 | ⟨f, hf, fi, fw⟩
      · have := m1 ys (y1.trans (List.sublist_append_left R F)) y2
        omega
      · have hc : Cho (ys ++ [f]) 0 0 := by
          refine ⟨List.pairwise_append.2 ⟨y2.1, List.pairwise_singleton _ _, fun p hp q hq => ?_⟩, fun p hp => ?_⟩
          · have hq : q = f := by simpa using hq
            subst hq
            have hc := y4 p hp
            refine ⟨fun e => hR p (y1.subset hp) (e.trans (hF _ hf)), fun kk h1 h2 => hc.2 kk h1 (iand_bits fi kk h2)⟩
          · rcases List.mem_append.1 hp with hp | hp
            · exact y2.2 p hp
            · have hp : p = f := by simpa using hp
              subst hp
              have hb := (hok p (List.mem_append_right _ hf)).1
              rw [clash_no (Int.le_refl _) hb]
              exact ⟨fun kk hk => by simp at hk, by simp⟩
        have := m1 (ys ++ [f]) (y1.append (List.singleton_sublist.2 hf)) hc
        rw [sumP_app] at this
        omega
  omega
end
end Go.Proofs.Ytpobfdhmggkbaaa
