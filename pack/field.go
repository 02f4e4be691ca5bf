package pack

import "carousel/api"

// What may stand behind an operation.
const (
	fieldTerm  = iota
	fieldA     // a count
	fieldB     // a count
	fieldTicks // B, a number: it may be -1
	fieldArms
)

// fieldsOf are what stands behind an operation, in order: written and read alike.
func fieldsOf(op int) []int {
	switch op {
	case api.OpPush:
		return []int{fieldTerm}
	case api.OpDup, api.OpLoad, api.OpStore, api.OpKind, api.OpTuple, api.OpList, api.OpJump, api.OpIf, api.OpCall:
		return []int{fieldA}
	case api.OpSpawn:
		return []int{fieldA, fieldB}
	case api.OpMatch:
		return []int{fieldA, fieldArms}
	case api.OpRecv:
		return []int{fieldA, fieldTicks, fieldArms}
	}
	return nil
}
