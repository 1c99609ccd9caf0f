package mir

import (
	"slices"

	"chattel/types"
)

// Check: the first instruction that may not be, or goes on where there is none; -1: all may. Params that may not be: 0.
func Check(b *Body) int {
	if !has(b, 0) || b.Params < 0 || b.Params >= len(b.Locals) {
		return 0
	}
	for i := range b.Code {
		if !mayBe(b, i) {
			return i
		}
	}
	return -1
}

func mayBe(b *Body, i int) bool {
	return partsMayBe(&b.Code[i], len(b.Locals)) && !slices.ContainsFunc(Succ(b, i), func(n int) bool { return !has(b, n) })
}

// partsMayBe: may those parts be that an instruction of its kind has?
func partsMayBe(c *Instr, locals int) bool {
	switch c.Kind {
	case Live, Dead:
		return c.Local >= 0 && c.Local < locals
	case Assign:
		return placeMayBe(c.Dest, locals) && rightMayBe(c.R, locals)
	case If:
		return operandMayBe(c.Cond, locals)
	}
	return c.Kind == Jump || c.Kind == Return || c.Kind == Abort
}

func placeMayBe(p Place, locals int) bool {
	return p.Local >= 0 && p.Local < locals && !slices.ContainsFunc(p.Path, func(n int) bool { return n < Deref })
}

func operandMayBe(o Operand, locals int) bool {
	switch o.Kind {
	case Const:
		return o.Type >= types.Int && o.Type <= types.Unit
	case Copy, Move:
		return placeMayBe(o.Place, locals)
	}
	return false
}

func rightMayBe(r Right, locals int) bool {
	if r.Kind == Borrow && !placeMayBe(r.Place, locals) {
		return false
	}
	return countMayBe(r) && !slices.ContainsFunc(r.Args, func(o Operand) bool { return !operandMayBe(o, locals) })
}

// countMayBe: has a right side as many operands as its kind has?
func countMayBe(r Right) bool {
	switch r.Kind {
	case Borrow, Choose:
		return len(r.Args) == 0
	case Use, Un, NewBox, Unbox, Coerce:
		return len(r.Args) == 1
	case Bin:
		return len(r.Args) == 2
	case Invoke:
		return len(r.Args) > 0 && r.N >= 0
	}
	return r.Kind == Make || r.Kind == Call
}
