// Package exact is layer 1: see shared/doc/01-exact.md. It computes with rational numbers, spans and polynomials
// as texts and lists; between reading the arguments and writing the results nothing has a limit.
package exact
