"""Patterns that repeat in the plane."""
