package parse

import "scrivener/api"

// The fields of an expression beside Kind and Kids, each a digit.
const (
	exprInt = 1 << iota
	exprText
	exprValue
	exprNames
)

// anyKids stands for how many Kids there are, where that is not the kind's to say.
const anyKids = -1

// shape is what an expression of some kind may have beside its Kids, and how many of these it has.
type shape struct{ fields, kids int }

func shapeOf(kind int) shape {
	switch kind {
	case api.ExprValue:
		return shape{exprValue, 0}
	case api.ExprParam:
		return shape{exprInt, 0}
	case api.ExprName:
		return shape{exprText, 0}
	case api.ExprField, api.ExprIs:
		return shape{exprText, 1}
	case api.ExprNot, api.ExprNeg:
		return shape{0, 1}
	case api.ExprAt:
		return shape{0, 2}
	case api.ExprOp:
		return shape{exprText, 2}
	case api.ExprList:
		return shape{0, anyKids}
	case api.ExprStruct:
		return shape{exprNames, anyKids}
	case api.ExprCall:
		return shape{exprText, anyKids}
	}
	return shape{}
}

// fits tells whether an expression has nothing that its kind does not name, and as many Kids as it does.
func fits(e api.Expr) bool {
	s := shapeOf(e.Kind)
	return exprFields(e)&^s.fields == 0 && (s.kids == anyKids || s.kids == len(e.Kids))
}

func exprFields(e api.Expr) int {
	return digitsOf(e.Int != 0, e.Text != "", !isNone(e.Value), len(e.Names) > 0)
}

func isNone(v api.Value) bool {
	return v.Kind == 0 && v.Int == 0 && v.Scale == 0 && v.Text == "" && len(v.Names) == 0 && len(v.Kids) == 0
}

func isNothing(e api.Expr) bool {
	return e.Kind == 0 && fits(e)
}

// The fields of a statement beside Kind, each a digit.
const (
	stmtTable = 1 << iota
	stmtAs
	stmtFrom
	stmtWhat
	stmtNames
	stmtSets
	stmtTo
	stmtWhere
	stmtOrder
	stmtDesc
	stmtLimit
	stmtField
)

// suits tells whether a statement is of some kind, and has nothing that its kind does not name.
func suits(s api.Stmt) bool {
	var fields int
	switch s.Kind {
	case api.StmtSelect:
		fields = stmtFrom | stmtWhat | stmtNames | stmtWhere | stmtOrder | stmtDesc | stmtLimit
	case api.StmtInsert:
		fields = stmtTable | stmtTo
	case api.StmtUpdate:
		fields = stmtTable | stmtAs | stmtSets | stmtTo | stmtWhere
	case api.StmtDelete:
		fields = stmtTable | stmtAs | stmtWhere
	case api.StmtTable, api.StmtDrop:
		fields = stmtTable
	case api.StmtIndex:
		fields = stmtTable | stmtField
	default:
		return false
	}
	return stmtFields(s)&^fields == 0
}

func stmtFields(s api.Stmt) int {
	return digitsOf(
		s.Table != "", s.As != "", len(s.From) > 0, len(s.What) > 0, len(s.Names) > 0, len(s.Sets) > 0,
		len(s.To) > 0, len(s.Where) > 0, len(s.Order) > 0, len(s.Desc) > 0, s.Limit != 0, s.Field != "",
	)
}

// digitsOf is a number that has the digit of each that is there.
func digitsOf(there ...bool) int {
	n := 0
	for i, is := range there {
		if is {
			n |= 1 << i
		}
	}
	return n
}
